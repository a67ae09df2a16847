/- The program's downEls: the function that it hands back tells each element ahead of what is within it; what is still to come waits in a list. -/
import Derived.Test.YtploagieecepfaaDnP
import Derived.Test.YtploagieecepfaaDnSeq
import Derived.Deep.RegionHeld3
import Derived.Deep.AppendLies
namespace Go.Proofs.Ytploagieecepfaa.Sg
open Go.ChangeShapes Go.WideShapes Go.ChangeAt Go.RowKit Go.Shelf

attribute [local go_sem] Oper.semAt_some

theorem info_rowD : (Try.prog.info? 61).map (fun i => (i.zero, i.size, i.bytes)) = some (some (.agg #[.slice none 0 0, .int .i64 0]), 2, 32) := by kernel_rfl

/-- What is handed over: an element as it lies, and how deep it is. -/
structure DnX where
  kd : Int
  sp : Int
  nm : ByteArray
  xa : Option Addr
  xn : Nat
  xc : Nat
  tx : ByteArray
  ka : Option Addr
  kn : Nat
  kc : Nat
  deep : Nat
def DnX.p (x : DnX) : Tl := ⟨x.kd, x.nm, x.tx, x.deep⟩
def encD (x : DnX) : Array Value := #[.int .i64 (x.deep : Int), .agg #[.int .i64 x.kd, .int .i64 x.sp, .string x.nm, .slice x.xa x.xn x.xc, .string x.tx, .slice x.ka x.kn x.kc]]
def rowX (r : RowX) : RowW := ⟨r.a, r.cap, r.els⟩

/-- What holds between two rounds: the rows that wait, what came. -/
def DnI (Pb : Nat → Prop) (n₁ : Nat) (els0 : List ElB) (J : List DnX → World → Prop) (v : Value) (wr : World) (m : Nat) : Prop :=
  ∃ (st : List RowX) (pre : List DnX), wr.ownsRow n₁ 61 2 v st.length (rowCs st) ∧ (∀ r ∈ st, RowAt Pb wr (rowX r) ∧ r.deep + elsD r.els ≤ 1 + elsD els0) ∧ 2 * waitM st + st.length = m ∧ waitM st + st.length ≤ elsN els0 + 1 ∧
    pre.map DnX.p ++ waitX st = preL els0 1 ∧ J pre wr ∧ n₁ ≤ wr.heap.size
/-- And within one: the row's beginning has come. -/
structure DnK (Pb : Nat → Prop) (n₁ b5 : Nat) (els0 : List ElB) (J : List DnX → World → Prop) (st : List RowX) (r : RowX) (k : Nat) (pre : List DnX) (v : Value) (wr : World) : Prop where
  own : wr.ownsRow n₁ 61 2 v st.length (rowCs st)
  rows : ∀ q ∈ st, RowAt Pb wr (rowX q)
  row : RowAt Pb wr (rowX r)
  tot : pre.map DnX.p ++ (preL (r.els.drop k) r.deep ++ waitX st) = preL els0 1
  j : J pre wr
  lay : n₁ ≤ wr.heap.size
  at5 : wr.heap[b5]? = some (.cells #[.slice r.a r.els.length r.cap, .int .i64 (r.deep : Int)] 61 (0, 0))
  lo5 : n₁ ≤ b5
/-- Over what keeps all blocks that are not S. -/
theorem DnK.kb {Pb : Nat → Prop} {n₁ b5 : Nat} {els0 : List ElB} {J : List DnX → World → Prop} {st : List RowX} {r : RowX} {k : Nat} {pre : List DnX} {v : Value} {wr w' : World} {S : Nat → Prop} (h : DnK Pb n₁ b5 els0 J st r k pre v wr) (hk : Ku n₁ S wr w') (hP : ∀ b, Pb b → b < n₁ ∧ ¬ S b)
    {k' : Nat} {pre' : List DnX} (hj : J pre' w') (ht : pre'.map DnX.p ++ (preL (r.els.drop k') r.deep ++ waitX st) = preL els0 1) : DnK Pb n₁ b5 els0 J st r k' pre' v w' := by
  have hA : ∀ b, Pb b → w'.heap[b]? = wr.heap[b]? := fun b hb => hk.low b (hP b hb).1 (Nat.lt_of_lt_of_le (hP b hb).1 h.lay) (hP b hb).2
  exact ⟨hk.owns h.own (by decide), fun q hq => (h.rows q hq).agree hA hk.size, h.row.agree hA hk.size, ht, hj, Nat.le_trans h.lay hk.size, hk.high b5 _ _ _ h.lo5 h.at5 (by decide), h.lo5⟩

set_option maxRecDepth 100000 in
set_option maxHeartbeats 8000000 in
theorem implDown1 (n : Nat) (hn : 1 ≤ n) (Pb : Nat → Prop) (S : Nat → Prop) (L Bl n₁ : Nat) (hPS : ∀ b, Pb b → b < n₁ ∧ ¬ S b) 
    (J Jx : List DnX → World → Prop) (hJ : ∀ s A B, J s A → Fi n₁ A B → J s B) (els0 : List ElB) (hN : elsN els0 ≤ 1099511627776)
    (hY : ∀ pre (x : DnX) W1, J pre W1 → (∃ rest, (pre ++ [x]).map DnX.p ++ rest = preL els0 1) → n₁ ≤ W1.heap.size → YieldAt Fence.wide (n - 1) Try.prog L (encD x) W1 fun e W' =>
      (e = .returned (.bool true) ∧ J (pre ++ [x]) W' ∧ Ku n₁ S W1 W') ∨ (e = .returned (.bool false) ∧ Jx (pre ++ [x]) W'))
    (a0 : Option Addr) (cap0 : Nat) (W : World) (hW : n₁ ≤ W.heap.size) (hl : W.cell? ⟨Bl, 0, none⟩ = some (.slice a0 els0.length cap0)) (hk : RowAt Pb W ⟨a0, cap0, els0⟩) (h0 : J [] W) :
    CallsIn Fence.wide n Try.prog 25 #[.func (.yield L) #[] #[], .pointer (some ⟨Bl, 0, none⟩)] W fun e W' => (∃ v, e = .returned v) ∧
      ((∃ ys : List DnX, ys.map DnX.p = preL els0 1 ∧ J ys W') ∨ (∃ pre : List DnX, (∃ rest, pre.map DnX.p ++ rest = preL els0 1) ∧ Jx pre W')) := by
  obtain ⟨i0, hi, hz0, hz1, hz2⟩ := info_parts info_rowD
  have HY : Hid (∀ pre (x : DnX) W1, J pre W1 → (∃ rest, (pre ++ [x]).map DnX.p ++ rest = preL els0 1) → n₁ ≤ W1.heap.size → YieldAt Fence.wide (n - 1) Try.prog L (encD x) W1 fun e W' =>
      (e = .returned (.bool true) ∧ J (pre ++ [x]) W' ∧ Ku n₁ S W1 W') ∨ (e = .returned (.bool false) ∧ Jx (pre ++ [x]) W')) := hY
  have HK : Hid (RowAt Pb W ⟨a0, cap0, els0⟩) := hk
  have H0 : Hid (J [] W) := h0
  have HJ : Hid (∀ s A B, J s A → Fi n₁ A B → J s B) := hJ
  clear hY hk h0 hJ
  obtain ⟨μ, hμ⟩ := least_of (fun (s : Value × World) m => DnI Pb n₁ els0 J s.1 s.2 m)
  have Hμ : Hid (∀ s m, DnI Pb n₁ els0 J s.1 s.2 m → DnI Pb n₁ els0 J s.1 s.2 (μ s) ∧ μ s ≤ m) := hμ
  clear hμ
  refine callsIn_of_wp Try.func25 rfl trivial ?_ rfl
  simp only [Try.ntmps25, List.size_toArray, List.length_cons, List.length_nil, Nat.reduceAdd, Nat.reduceSub, Array.replicate_succ, Array.replicate_zero, List.push_toArray, List.append_toArray, List.nil_append, List.cons_append]
  gi_wp2
  gi_loopw [3] (fun v wr => ∃ m, Hid (DnI Pb n₁ els0 J v wr m)) (fun v wr => μ (v, wr))
  case atStart =>
    have hb : Below W.heap.size W (W.alloc (.cells #[.slice a0 els0.length cap0, .int .i64 1] 61)) := (Below.refl _ W).alloc (Nat.le_refl _) _
    refine ⟨2 * elsN els0 + 1, [⟨a0, cap0, els0, 1⟩], [], ?_, ?_, by simp [waitM], by simp [waitM], by simp [waitX], HJ.out _ _ _ H0.out (Fi.of hb hW), by simp; omega⟩
    · exact ⟨rfl, .inr ⟨_, _, _, rfl, hW, World.alloc_heap_new W _, Nat.le_refl _, by decide, rfl, rfl⟩⟩
    · intro r hr
      simp only [List.mem_singleton] at hr
      subst hr
      exact ⟨HK.out.agree (fun b hb' => hb.block b (Nat.lt_of_lt_of_le (hPS b hb').1 hW)) hb.size, Nat.le_refl _⟩
  case round =>
    obtain ⟨m, hm⟩ := hrel
    have hm2 : DnI Pb n₁ els0 J u3 wr (μ (u3, wr)) := (Hμ.out (u3, wr) m hm.out).1
    obtain ⟨M, HM⟩ : ∃ M, Hid (μ (u3, wr) = M) := ⟨_, rfl⟩
    rw [HM.out] at hm2
    clear hm m
    obtain ⟨st0, pre, hO, hR, hw, hwN, hV, hJ0, hsz⟩ := hm2
    rcases List.eq_nil_or_concat st0 with rfl | ⟨st, r, hst⟩
    · have he : ∃ a c, u3 = .slice a 0 c := by
        rcases hO.2 with ⟨h, _⟩ | ⟨g, c, _, h, _⟩
        · exact ⟨_, _, h⟩
        · exact ⟨_, _, h⟩
      obtain ⟨a, c, rfl⟩ := he
      rw [show waitX [] = [] from rfl, List.append_nil] at hV
      have HV : Hid (pre.map DnX.p = preL els0 1) := hV
      have HJ0 : Hid (J pre wr) := hJ0
      clear hV hJ0 hO hR hw hwN
      gi_wp2
      go_end0
      exact ⟨⟨_, rfl⟩, .inl ⟨pre, HV.out, HJ0.out⟩⟩
    · rw [List.concat_eq_append] at hst
      subst hst
      obtain ⟨ra, rc, rels, rd⟩ := r
      have hlen : (st ++ [(⟨ra, rc, rels, rd⟩ : RowX)]).length = st.length + 1 := by simp
      rw [hlen] at hO hw hwN
      rw [waitM_snoc] at hw hwN
      rw [waitX_snoc] at hV
      simp only at hw hwN hV
      obtain ⟨g, cap, rfl⟩ := ownsRow_succ hO
      obtain ⟨e0, e1⟩ := rowCs_last st ⟨ra, rc, rels, rd⟩
      have c0 := (own_cell hO (j := st.length * 2) (by omega)).1.trans e0
      have c1 := (own_cell hO (j := st.length * 2 + 1) (by omega)).1.trans e1
      have hO1 := owns_cutn hO (m := st.length) (by omega)
      rw [rowCs_cut] at hO1
      have hgl := hO1.lt g rfl
      have hcap : st.length + 1 ≤ cap := by
        rcases hO.2 with ⟨h, _⟩ | ⟨g', cap', cur, h, _, _, h5, _⟩
        · cases h
        · cases h
          exact h5
      have hKr := (hR ⟨ra, rc, rels, rd⟩ (by simp)).1
      have hDr := (hR ⟨ra, rc, rels, rd⟩ (by simp)).2
      have hRs : ∀ q ∈ st, RowAt Pb wr (rowX q) ∧ q.deep + elsD q.els ≤ 1 + elsD els0 := fun q hq => hR q (by simp [hq])
      simp only at c0 c1 hDr
      have hb1 : Below wr.heap.size wr (wr.alloc (.cells #[.slice ra rels.length rc, .int .i64 (rd : Int)] 61)) := (Below.refl _ wr).alloc (Nat.le_refl _) _
      have HDs : Hid (∀ q ∈ st, q.deep + elsD q.els ≤ 1 + elsD els0) := fun q hq => (hRs q hq).2
      have HK0 : Hid (DnK Pb n₁ wr.heap.size els0 J st ⟨ra, rc, rels, rd⟩ 0 pre (.slice (some ⟨g, 0, none⟩) st.length cap) (wr.alloc (.cells #[.slice ra rels.length rc, .int .i64 (rd : Int)] 61))) :=
        ⟨owns_below hO1 (Nat.le_refl _) hb1, fun q hq => (hRs q hq).1.agree (fun b hb => hb1.block b (Nat.lt_of_lt_of_le (hPS b hb).1 hsz)) hb1.size, hKr.agree (fun b hb => hb1.block b (Nat.lt_of_lt_of_le (hPS b hb).1 hsz)) hb1.size, by rw [List.drop_zero]; exact hV, HJ.out _ _ _ hJ0 (Fi.of hb1 hsz), by simp; omega, World.alloc_heap_new wr _, hsz⟩
      have Hw : Hid (2 * (waitM st + elsN rels) + (st.length + 1) = M) := hw
      have HwN : Hid (waitM st + elsN rels + (st.length + 1) ≤ elsN els0 + 1) := hwN
      have hrl : rels.length ≤ 1099511627776 := by have := elsN_len rels; omega
      have hkN : st.length ≤ 1099511627776 := by omega
      have hDb : rd + elsD rels ≤ 1099511627777 := by have := elsD_le els0; omega
      clear hO hR hw hwN hV hJ0 hO1 e0 e1 hlen hKr hRs hb1
      generalize hks : st.length = k at *
      have k0 : (0 : Int) ≤ (k : Int) := by omega
      have q0 : IntKind.i64.wrap (((k + 1 : Nat) : Int) - 1) = (k : Int) := by rw [show ((k + 1 : Nat) : Int) - 1 = (k : Int) by omega]; exact IntWalk.i64_in _ (by omega)
      have q1 : IntKind.i64.wrap ((k : Int) + 1 - 1) = (k : Int) := by rw [show (k : Int) + 1 - 1 = (k : Int) by omega]; exact IntWalk.i64_in _ (by omega)
      have q2 : (k : Int) < (k : Int) + 1 := by omega
      have q3 : (0 : Int) < (k : Int) + 1 := by omega
      have q4 : (k : Int) ≤ (cap : Int) := by omega
      obtain ⟨b5, Hb5⟩ : ∃ b5, Hid (wr.heap.size = b5) := ⟨_, rfl⟩
      have hg5 : g < b5 := by have := hgl.2; rw [← Hb5.out]; exact this
      have HK1 : Hid (DnK Pb n₁ b5 els0 J st ⟨ra, rc, rels, rd⟩ 0 pre (.slice (some ⟨g, 0, none⟩) k cap) (wr.alloc (.cells #[.slice ra rels.length rc, .int .i64 (rd : Int)] 61))) := by
        show DnK _ _ _ _ _ _ _ _ _ _ _
        rw [← Hb5.out]
        exact HK0.out
      clear HK0
      gi_wp2
      simp only [Hb5.out]
      gi_loopw [3, 6, 7, 27] (fun v _ _ iv wr2 => ∃ (j : Nat) (pre2 : List DnX), j ≤ rels.length ∧ iv = .int .i64 (j : Int) ∧ v = .slice (some ⟨g, 0, none⟩) k cap ∧ Hid (DnK Pb n₁ b5 els0 J st ⟨ra, rc, rels, rd⟩ j pre2 (.slice (some ⟨g, 0, none⟩) k cap) wr2)) (fun _ _ _ iv _ => rels.length - (intOf iv).toNat)
      case atStart => exact ⟨0, pre, Nat.zero_le _, rfl, rfl, HK1⟩
      case round =>
        clear HK1 c0 c1
        obtain ⟨j, pre2, hj, rfl, rfl, HK⟩ := hrel
        have j0 : (0 : Int) ≤ (j : Int) := by omega
        have hszr : n₁ ≤ wr.heap.size := HK.out.lay
        by_cases hlt : j < rels.length
        · have j1 : (j : Int) < (rels.length : Int) := by omega
          obtain ⟨eb, eo, hra, heb, kd, sp, nm, xa, xn, xc, tx, ka, kc, d0, d1, d2, d3, d4, d5, htop, hkid, hrest⟩ := HK.out.row.told j hlt
          have htot := HK.out.tot
          have hcapr := HK.out.row.cap
          have hdeep := kids_deep rels j hlt
          simp only [rowX] at hra d0 d1 d2 d3 d4 d5 hrest hcapr htop hkid
          simp only at htot
          rw [preL_at rels rd j hlt, htop rd] at htot
          simp only [List.append_assoc, List.cons_append] at htot
          have hNk := elsN_kid rels j hlt
          generalize kidsE (rels[j]'hlt) = ks at *
          subst hra
          obtain ⟨kn, Hkn⟩ : ∃ kn, Hid (ks.length = kn) := ⟨_, rfl⟩
          rw [Hkn.out] at d5
          have HNk : Hid (elsN (rels.drop j) = elsN ks + 1 + elsN (rels.drop (j + 1))) := hNk
          have h5l := (Array.getElem?_eq_some_iff.1 HK.out.at5).1
          have hb5s : b5 ≠ wr.heap.size := by omega
          have bE := (Below.refl wr.heap.size wr).alloc (Nat.le_refl _) (.cells #[.int .i64 kd, .int .i64 sp, .string nm, .slice xa xn xc, .string tx, .slice ka kn kc] 35)
          have hJ1 := HJ.out _ _ _ HK.out.j (Fi.of bE hszr)
          have hok : ∃ rest, (pre2 ++ [(⟨kd, sp, nm, xa, xn, xc, tx, ka, kn, kc, rd⟩ : DnX)]).map DnX.p ++ rest = preL els0 1 :=
            ⟨_, by rw [← htot, List.map_append, List.append_assoc]; rfl⟩
          obtain ⟨fn, tmps, assign, body, hy, hYR⟩ := HY.out pre2 ⟨kd, sp, nm, xa, xn, xc, tx, ka, kn, kc, rd⟩ _ hJ1 hok (by simp; omega)
          dsimp only [encD] at hy
          have Hok : Hid (∃ rest, (pre2 ++ [(⟨kd, sp, nm, xa, xn, xc, tx, ka, kn, kc, rd⟩ : DnX)]).map DnX.p ++ rest = preL els0 1) := hok
          have Htot : Hid ((pre2 ++ [(⟨kd, sp, nm, xa, xn, xc, tx, ka, kn, kc, rd⟩ : DnX)]).map DnX.p ++ (preL ks (rd + 1) ++ (preL (rels.drop (j + 1)) rd ++ waitX st)) = preL els0 1) := by
            show _ = _
            rw [← htot, List.map_append, List.append_assoc]
            rfl
          have HKid : Hid (RowAt Pb wr ⟨ka, kc, ks⟩) := hkid
          have HRest : Hid (RowAt Pb wr ⟨if rc = j + 1 then some ⟨eb, eo, none⟩ else some ⟨eb, eo + (j + 1) * 6, none⟩, rc - (j + 1), rels.drop (j + 1)⟩) := hrest
          have r0 : wr.cell? ⟨b5, 0, none⟩ = some (.slice (some ⟨eb, eo, none⟩) rels.length rc) := by simp [World.cell?, HK.out.at5]
          have r1 : wr.cell? ⟨b5, 1, none⟩ = some (.int .i64 (rd : Int)) := by simp [World.cell?, HK.out.at5]
          clear htot hNk hok hkid hrest hJ1 htop
          gi_wp2
          refine hYR.mono ?_
          rintro e W3 (⟨rfl, hJ3, hk3⟩ | ⟨rfl, hJx3⟩)
          rotate_left
          · clear hYR hy HK HKid HRest HNk Htot r0 r1
            gi_wp2
            refine bodyPost_ret (results_none rfl _ _ _) rfl ?_
            exact ⟨⟨_, rfl⟩, .inr ⟨_, Hok.out, hJx3⟩⟩
          · have kbw : Ku n₁ S wr W3 := (Ku.of bE).trans hk3
            have hA : ∀ b, Pb b → W3.heap[b]? = wr.heap[b]? := fun b hb => kbw.low b (hPS b hb).1 (Nat.lt_of_lt_of_le (hPS b hb).1 hszr) (hPS b hb).2
            have xb : W3.heap[wr.heap.size]? = some (.cells #[.int .i64 kd, .int .i64 sp, .string nm, .slice xa xn xc, .string tx, .slice ka kn kc] 35 (0, 0)) := hk3.high _ _ _ _ hszr (World.alloc_heap_new wr _) (by decide)
            have x5 : W3.cell? ⟨wr.heap.size, 5, none⟩ = some (.slice ka kn kc) := by simp [World.cell?, xb]
            have hlo5 := HK.out.lo5
            have a5 := kbw.high b5 _ _ _ hlo5 HK.out.at5 (by decide)
            have s0 : W3.cell? ⟨b5, 0, none⟩ = some (.slice (some ⟨eb, eo, none⟩) rels.length rc) := by simp [World.cell?, a5]
            have s1 : W3.cell? ⟨b5, 1, none⟩ = some (.int .i64 (rd : Int)) := by simp [World.cell?, a5]
            have hs3 : n₁ ≤ W3.heap.size := Nat.le_trans hszr kbw.size
            have hbx3 : wr.heap.size < W3.heap.size := (Array.getElem?_eq_some_iff.1 xb).1
            by_cases hz : kn = 0
            · have HKn : Hid (DnK Pb n₁ b5 els0 J st ⟨some ⟨eb, eo, none⟩, rc, rels, rd⟩ (j + 1) (pre2 ++ [(⟨kd, sp, nm, xa, xn, xc, tx, ka, kn, kc, rd⟩ : DnX)]) (.slice (some ⟨g, 0, none⟩) k cap) W3) := HK.out.kb kbw hPS hJ3 (by
                have h := Htot.out
                rw [preL_none (Hkn.out.trans hz), List.nil_append] at h
                exact h)
              have g1 : decide ((kn : Int) > 0) = false := decide_eq_false (by omega)
              subst hz
              clear hYR hy HK HKid HRest HNk Htot Hok r0 r1 s0 s1 a5 xb hA hk3 hJ3
              gi_wp2
              go_roundw
              case rel => exact ⟨j + 1, _, by omega, by go_num, rfl, HKn⟩
              case measure => simp [intOf]; omega
            · have g1 : decide ((kn : Int) > 0) = true := decide_eq_true (by omega)
              have g2 : (0 : Int) < (kn : Int) := by omega
              have q5 : IntKind.i64.wrap ((j : Int) + 1) = (j : Int) + 1 := IntWalk.i64_in _ (by omega)
              have q6 : (j : Int) + 1 ≤ (rels.length : Int) := by omega
              have q7 : (0 : Int) ≤ (j : Int) + 1 := by omega
              have q8 : ((j : Int) + 1).toNat = j + 1 := by omega
              have q9 : IntKind.i64.wrap ((rd : Int) + 1) = (rd : Int) + 1 := IntWalk.i64_in _ (by omega)
              have hO2 := kbw.owns HK.out.own (by decide)
              rw [hks] at hO2
              have h63 : k + 2 ≤ maxLen := by unfold maxLen; omega
              have hbyt : (k + 2) * 32 ≤ 140737488355328 := by omega
              have hln : (rels.drop (j + 1)).length = rels.length - (j + 1) := List.length_drop
              obtain ⟨ra', Hra⟩ : ∃ ra' : Option Addr, Hid ((if rc = j + 1 then some ⟨eb, eo, none⟩ else some ⟨eb, eo + (j + 1) * 6, none⟩) = ra') := ⟨_, rfl⟩
              have hra1 : (if rc = j + 1 then some (⟨eb, eo, none⟩ : Addr) else some ⟨eb, eo + (j + 1) * 6, none⟩) = ra' := Hra.out
              have hone : ∀ y ∈ [Value.slice ra' (rels.length - (j + 1)) (rc - (j + 1)), .int .i64 (rd : Int), .slice ka kn kc, .int .i64 ((rd : Int) + 1)], y.oneCell' = true := by simp [Value.oneCell']
              have HKid2 : Hid (RowAt Pb W3 ⟨ka, kc, ks⟩) := HKid.out.agree hA kbw.size
              have HRest2 : Hid (RowAt Pb W3 ⟨ra', rc - (j + 1), rels.drop (j + 1)⟩) := by
                show RowAt _ _ _
                rw [← hra1]
                exact HRest.out.agree hA kbw.size
              have HRows2 : Hid (∀ q ∈ st, RowAt Pb W3 (rowX q)) := fun q hq => (HK.out.rows q hq).agree hA kbw.size
              have HJ3 : Hid (J (pre2 ++ [(⟨kd, sp, nm, xa, xn, xc, tx, ka, kn, kc, rd⟩ : DnX)]) W3) := hJ3
              have hgx : g ≠ wr.heap.size := by omega
              have hg5' : g ≠ b5 := by omega
              have hb5l : b5 < W3.heap.size := (Array.getElem?_eq_some_iff.1 a5).1
              generalize wr.heap.size = xe at *
              clear hYR hy HK HKid HRest Hok r0 r1 a5 xb hA hk3 hJ3 bE kbw d0 d1 d2 d3 d4 d5
              gi_wp2
              refine wpIn_wide.2 ?_
              go_region_held3 (fun w' => w'.cell? ⟨xe, 5, none⟩ = some (.slice ka kn kc) ∧ w'.cell? ⟨b5, 0, none⟩ = some (.slice (some ⟨eb, eo, none⟩) rels.length rc) ∧ w'.cell? ⟨b5, 1, none⟩ = some (.int .i64 (rd : Int)))
                (first
                  | go_keep
                  | exact ⟨(hgrow.cell_far ⟨xe, 5, none⟩ (by simp; omega) (by simp [Value.ownBlock]; omega)).trans (by go_keep), (hgrow.cell_far ⟨b5, 0, none⟩ (by simp; omega) (by simp [Value.ownBlock]; omega)).trans (by go_keep), (hgrow.cell_far ⟨b5, 1, none⟩ (by simp; omega) (by simp [Value.ownBlock]; omega)).trans (by go_keep)⟩)
                ((refine step_append_lies _ (by rfl) _ _ _ (by rfl) n₁ 61 i0 _ 2 32 Try.underlying62 hi hz0 hz1 hz2 rfl (by omega) (.slice (some ⟨g, 0, none⟩) k cap) k _ (by rfl) ((hO2.alloc _).drew)
                    ⟨W3.heap.size, 0, none⟩ 2 2 [Value.slice ra' (rels.length - (j + 1)) (rc - (j + 1)), .int .i64 (rd : Int), .slice ka kn kc, .int .i64 ((rd : Int) + 1)] (by rfl) (by rfl) (World.news_of_block (cs := #[Value.slice ra' (rels.length - (j + 1)) (rc - (j + 1)), .int .i64 (rd : Int), .slice ka kn kc, .int .i64 ((rd : Int) + 1)]) (t := 61) (fr := (0, 0)) (heap_alloc_new W3 _)) hone
                    (by omega) h63 hbyt (by simp; omega) (W3.heap.size + 1) (by simp) ?_; intro gg cap6 w7 hown7 hgrow hat hlt7))
              have hO3 := (hO2.alloc (.cells #[Value.slice ra' (rels.length - (j + 1)) (rc - (j + 1)), .int .i64 (rd : Int), .slice ka kn kc, .int .i64 ((rd : Int) + 1)] 61)).drew
              have hbA : Below n₁ W3 (W3.alloc (.cells #[Value.slice ra' (rels.length - (j + 1)) (rc - (j + 1)), .int .i64 (rd : Int), .slice ka kn kc, .int .i64 ((rd : Int) + 1)] 61)).drew := ((Below.refl n₁ W3).alloc hs3 _).drew
              have hbW : Below n₁ W3 w7 := grown_below hO3 hbA (Nat.le_refl _) hgrow (by simp; omega)
              have hA7 : ∀ b, Pb b → w7.heap[b]? = W3.heap[b]? := fun b hb => hbW.block b (hPS b hb).1
              have HIn : Hid (∃ m, m < M ∧ DnI Pb n₁ els0 J (.slice (some ⟨gg, 0, none⟩) (k + 2) cap6) w7 m) := by
                have hw := Hw.out
                have hwN := HwN.out
                have hNk := HNk.out
                have hNd := elsN_drop_le rels j
                have hdd := drop_deep rels (j + 1)
                have hsn : waitM ((st ++ [(⟨ra', rc - (j + 1), rels.drop (j + 1), rd⟩ : RowX)]) ++ [(⟨ka, kc, ks, rd + 1⟩ : RowX)]) = waitM st + elsN (rels.drop (j + 1)) + elsN ks := by rw [waitM_snoc, waitM_snoc]
                have hl2 : ((st ++ [(⟨ra', rc - (j + 1), rels.drop (j + 1), rd⟩ : RowX)]) ++ [(⟨ka, kc, ks, rd + 1⟩ : RowX)]).length = k + 2 := by rw [List.length_append, List.length_append, hks]; rfl
                refine ⟨2 * waitM ((st ++ [(⟨ra', rc - (j + 1), rels.drop (j + 1), rd⟩ : RowX)]) ++ [(⟨ka, kc, ks, rd + 1⟩ : RowX)]) + ((st ++ [(⟨ra', rc - (j + 1), rels.drop (j + 1), rd⟩ : RowX)]) ++ [(⟨ka, kc, ks, rd + 1⟩ : RowX)]).length, by rw [hsn, hl2]; omega, ((st ++ [(⟨ra', rc - (j + 1), rels.drop (j + 1), rd⟩ : RowX)]) ++ [(⟨ka, kc, ks, rd + 1⟩ : RowX)]), pre2 ++ [(⟨kd, sp, nm, xa, xn, xc, tx, ka, kn, kc, rd⟩ : DnX)], ?_, ?_, rfl, by rw [hsn, hl2]; omega, ?_, HJ.out _ _ _ HJ3.out ((Fi.of ((Below.refl W3.heap.size W3).alloc (Nat.le_refl _) _).drew hs3).trans (Fi.grown hgrow hO3 (Nat.le_refl _) (by simp; omega))), Nat.le_trans hs3 hbW.size⟩
                · rw [hl2]
                  have e1 : rowCs ((st ++ [(⟨ra', rc - (j + 1), rels.drop (j + 1), rd⟩ : RowX)]) ++ [(⟨ka, kc, ks, rd + 1⟩ : RowX)]) = rowCs st ++ [Value.slice ra' (rels.length - (j + 1)) (rc - (j + 1)), .int .i64 (rd : Int), .slice ka kn kc, .int .i64 ((rd : Int) + 1)] := by
                    rw [rowCs_append, rowCs_append, List.append_assoc]
                    simp [rowCs, Hkn.out]
                  rw [e1]
                  exact hown7
                · intro q hq
                  rcases List.mem_append.1 hq with hq | hq
                  · rcases List.mem_append.1 hq with hq | hq
                    · exact ⟨(HRows2.out q hq).agree hA7 hbW.size, HDs.out q hq⟩
                    · simp only [List.mem_singleton] at hq
                      subst hq
                      exact ⟨HRest2.out.agree hA7 hbW.size, by simp only; omega⟩
                  · simp only [List.mem_singleton] at hq
                    subst hq
                    exact ⟨HKid2.out.agree hA7 hbW.size, by simp only; omega⟩
                · rw [waitX_snoc, waitX_snoc]
                  exact Htot.out
              clear hO3 hbA hbW hgrow hown7 hat HRows2 HKid2 HRest2 Htot Hw HwN HNk hO2 HDs HJ3
              obtain ⟨m', hm', hI'⟩ := HIn.out
              have hlt' : μ (.slice (some ⟨gg, 0, none⟩) (k + 2) cap6, w7) < M := Nat.lt_of_le_of_lt (Hμ.out (.slice (some ⟨gg, 0, none⟩) (k + 2) cap6, w7) m' hI').2 hm'
              gi_wp2
              go_roundw
              case rel => exact ⟨m', hI'⟩
              case measure =>
                show μ (_, _) < μ (_, _)
                rw [HM.out]
                exact hlt'
        · have hje : j = rels.length := by omega
          subst hje
          have g1 : decide ((rels.length : Int) < (rels.length : Int)) = false := by simp
          have HIn : Hid (∃ m, m < M ∧ DnI Pb n₁ els0 J (.slice (some ⟨g, 0, none⟩) k cap) wr m) := by
            have hw := Hw.out
            have hwN := HwN.out
            have ht := HK.out.tot
            simp only at ht
            rw [List.drop_eq_nil_of_le (Nat.le_refl _), preL, List.nil_append] at ht
            have ho := HK.out.own
            rw [hks] at ho
            exact ⟨2 * waitM st + k, by omega, st, pre2, by rw [hks]; exact ho, fun q hq => ⟨HK.out.rows q hq, HDs.out q hq⟩, by rw [hks], by rw [hks]; omega, ht, HK.out.j, HK.out.lay⟩
          clear HK Hw HwN
          obtain ⟨m', hm', hI'⟩ := HIn.out
          have hlt' : μ (.slice (some ⟨g, 0, none⟩) k cap, wr) < M := Nat.lt_of_le_of_lt (Hμ.out (.slice (some ⟨g, 0, none⟩) k cap, wr) m' hI').2 hm'
          gi_wp2
          go_roundw
          case rel => exact ⟨m', hI'⟩
          case measure =>
            show μ (_, _) < μ (_, _)
            rw [HM.out]
            exact hlt'

set_option maxHeartbeats 1000000 in
/-- The function that downEls hands back has caught the list, in a box. -/
theorem implDownEls (n : Nat) (a : Option Addr) (N cap : Nat) (w : World) :
    CallsIn Fence.wide n Try.prog 14 #[.slice a N cap] w fun e w' => e = .returned (.func (.func 25) #[] #[.pointer (some ⟨w.heap.size, 0, none⟩)]) ∧ w' = w.alloc (.cells #[.slice a N cap] 25) := by
  refine callsIn_of_wp Try.func14 rfl trivial ?_ rfl
  simp only [Try.ntmps14, List.size_toArray, List.length_cons, List.length_nil, Nat.reduceAdd, Nat.reduceSub, Array.replicate_succ, Array.replicate_zero, List.push_toArray, List.append_toArray, List.nil_append, List.cons_append]
  gi_wp2
  go_ret
  exact ⟨by simp, rfl⟩
/-- All elements come, each ahead of what is within it. -/
theorem down_seq (n : Nat) (hn : 1 ≤ n) (Pb : Nat → Prop) (S : Nat → Prop) (Bl : Nat) (els0 : List ElB) (hN : elsN els0 ≤ 1099511627776) (a0 : Option Addr) (cap0 : Nat) (w : World)
    (hPS : ∀ b, Pb b → b < w.heap.size ∧ ¬ S b) (hl : w.cell? ⟨Bl, 0, none⟩ = some (.slice a0 els0.length cap0)) (hk : RowAt Pb w ⟨a0, cap0, els0⟩) :
    SeqDn Fence.wide n Try.prog 25 #[.pointer (some ⟨Bl, 0, none⟩)] encD (fun pre x _ => ∃ rest, (pre ++ [x]).map DnX.p ++ rest = preL els0 1) (fun A B => Ku (w.heap.size + 2) S A B)
      (fun ys => ys.map DnX.p = preL els0 1) (fun pre => ∃ rest, pre.map DnX.p ++ rest = preL els0 1) w := fun L J Jx W hs hW hJ hJx hY h0 => by
  rw [hs] at hJ hY
  exact implDown1 n hn Pb S L Bl (w.heap.size + 2) (fun b hb => ⟨by have := (hPS b hb).1; omega, (hPS b hb).2⟩) J Jx hJ els0 hN hY a0 cap0 W (by omega) (keep_cell hW hl) (hk.agree (fun b hb => hW.block b (hPS b hb).1) hW.size) h0

end Go.Proofs.Ytploagieecepfaa.Sg
