/- The program's rowsOf: the function that it hands back tells a list, and the kids of each element within it; what is still to come waits in a list. -/
import Derived.Test.YthipdkagkdnaiaaGreatDoorRwSeq
import Derived.Test.YthipdkagkdnaiaaGreatDoorMRD14
namespace Go.Proofs.YthipdkagkdnaiaaGreatDoor.Sg
open Go.ChangeShapes Go.WideShapes Go.ChangeAt Go.RowKit Go.Shelf

attribute [local go_sem] Oper.semAt_some

theorem info_row : (Tryz.prog.info? 70).map (fun i => (i.zero, i.size, i.bytes)) = some (some (.agg #[.slice none 0 0, .int .i64 0]), 2, 32) := by kernel_rfl
theorem rw_two (w : World) (x y : Value) (t : TypeId) (b : Nat) (hb : b = w.heap.size) : ∀ j u, ([x, y])[j]? = some u → (w.alloc (.cells #[x, y] t)).cell? ((⟨b, 0, none⟩ : Addr).add j) = some u := by
  subst hb
  intro j u hj
  match j, hj with
  | 0, hj => simp at hj; subst hj; simp [Addr.add]
  | 1, hj => simp at hj; subst hj; simp [Addr.add]

/-- What holds between two rounds: the rows that wait, those that came. -/
def RwI (Q : World → Value → List AttrB → Prop) (Pb : Nat → Prop) (n₁ : Nat) (els0 : List ElB) (J : List RowX → World → Prop) (v : Value) (wr : World) (m : Nat) : Prop :=
  ∃ st pre : List RowX, wr.ownsRow n₁ 70 2 v st.length (rowCs st) ∧ (∀ r ∈ st, KidsIn Q Pb wr r.a r.els ∧ r.deep + elsD r.els ≤ 1 + elsD els0) ∧ wM (st.map RowX.p) = m ∧ m ≤ elsN els0 + 1 ∧
    (∀ ys, Vis (st.map RowX.p) ys → Vis [(els0, 1)] (pre.map RowX.p ++ ys)) ∧ J pre wr ∧ n₁ ≤ wr.heap.size
/-- And within one: its kids are put behind. -/
structure RwK (Q : World → Value → List AttrB → Prop) (Pb : Nat → Prop) (n₁ b5 : Nat) (W3 : World) (st : List RowX) (r : RowX) (k : Nat) (ps : List RowX) (v : Value) (wr : World) : Prop where
  own : wr.ownsRow n₁ 70 2 v (st ++ ps).length (rowCs (st ++ ps))
  apart : v.ownBlock ≠ some b5
  rows : ps.map RowX.p = pushP (r.deep + 1) (r.els.take k)
  kids : ∀ q ∈ ps, KidsIn Q Pb wr q.a q.els
  below : Below n₁ W3 wr
  lay : n₁ ≤ wr.heap.size
  at0 : wr.cell? ⟨b5, 0, none⟩ = some (.slice r.a r.els.length r.cap)
  at1 : wr.cell? ⟨b5, 1, none⟩ = some (.int .i64 (r.deep : Int))
  lt5 : b5 < wr.heap.size

theorem RwK.step {Q : World → Value → List AttrB → Prop} {Pb : Nat → Prop} {n₁ b5 : Nat} {W3 : World} {st : List RowX} {r : RowX} {j j' : Nat} {ps : List RowX} {v : Value} {wr w' : World} (h : RwK Q Pb n₁ b5 W3 st r j ps v wr) (hr : ps.map RowX.p = pushP (r.deep + 1) (r.els.take j')) (hb : Below wr.heap.size wr w') (hQ : LiesP Q Pb) (hPS : ∀ b, Pb b → b < n₁) : RwK Q Pb n₁ b5 W3 st r j' ps v w' :=
  ⟨owns_below h.own (Nat.le_refl _) hb, h.apart, hr, fun q hq => (h.kids q hq).agree hQ (fun b hb' => hb.block b (Nat.lt_of_lt_of_le (hPS b hb') h.lay)) hb.size, h.below.trans (hb.mono h.lay), Nat.le_trans h.lay hb.size, (hb.cell (p := ⟨b5, 0, none⟩) h.lt5).trans h.at0, (hb.cell (p := ⟨b5, 1, none⟩) h.lt5).trans h.at1, Nat.lt_of_lt_of_le h.lt5 hb.size⟩

set_option maxRecDepth 100000 in
set_option maxHeartbeats 8000000 in
theorem implRows1 (n : Nat) (hn : 1 ≤ n) (Q : World → Value → List AttrB → Prop) (Pb : Nat → Prop) (hQ : LiesP Q Pb) (hQs : ∀ {w v l}, Q w v l → ∃ a c, v = .slice a l.length c) (S : Nat → Prop) (L Bl n₁ : Nat) (hPS : ∀ b, Pb b → b < n₁ ∧ ¬ S b) (hSn : ∀ b, S b → b < n₁)
    (J Jx : List RowX → World → Prop) (hJ : ∀ s A B, J s A → Below n₁ A B → J s B) (els0 : List ElB) (hN : elsN els0 ≤ 1099511627776)
    (hY : ∀ pre (x : RowX) W1, J pre W1 → (KidsIn Q Pb W1 x.a x.els ∧ ∃ rest, Vis [(els0, 1)] ((pre ++ [x]).map RowX.p ++ rest)) → n₁ ≤ W1.heap.size → YieldAt Fence.wide (n - 1) Tryz.prog L #[.agg #[.slice x.a x.els.length x.cap, .int .i64 (x.deep : Int)]] W1 fun e W' =>
      (e = .returned (.bool true) ∧ J (pre ++ [x]) W' ∧ Kb W1 W' S) ∨ (e = .returned (.bool false) ∧ Jx (pre ++ [x]) W'))
    (a0 : Option Addr) (cap0 : Nat) (W : World) (hW : n₁ ≤ W.heap.size) (hl : W.cell? ⟨Bl, 0, none⟩ = some (.slice a0 els0.length cap0)) (hk : KidsIn Q Pb W a0 els0) (h0 : J [] W) :
    CallsIn Fence.wide n Tryz.prog 79 #[.func (.yield L) #[] #[], .pointer (some ⟨Bl, 0, none⟩)] W fun e W' => (∃ v, e = .returned v) ∧
      ((∃ ys : List RowX, Vis [(els0, 1)] (ys.map RowX.p) ∧ J ys W') ∨ (∃ pre : List RowX, (∃ rest, Vis [(els0, 1)] (pre.map RowX.p ++ rest)) ∧ Jx pre W')) := by
  obtain ⟨i0, hi, hz0, hz1, hz2⟩ := info_parts info_row
  have HY : Hid (∀ pre (x : RowX) W1, J pre W1 → (KidsIn Q Pb W1 x.a x.els ∧ ∃ rest, Vis [(els0, 1)] ((pre ++ [x]).map RowX.p ++ rest)) → n₁ ≤ W1.heap.size → YieldAt Fence.wide (n - 1) Tryz.prog L #[.agg #[.slice x.a x.els.length x.cap, .int .i64 (x.deep : Int)]] W1 fun e W' =>
      (e = .returned (.bool true) ∧ J (pre ++ [x]) W' ∧ Kb W1 W' S) ∨ (e = .returned (.bool false) ∧ Jx (pre ++ [x]) W')) := hY
  have HK : Hid (KidsIn Q Pb W a0 els0) := hk
  have H0 : Hid (J [] W) := h0
  have HJ : Hid (∀ s A B, J s A → Below n₁ A B → J s B) := hJ
  clear hY hk h0 hJ
  obtain ⟨μ, hμ⟩ := least_of (fun (s : Value × World) m => RwI Q Pb n₁ els0 J s.1 s.2 m)
  have Hμ : Hid (∀ s m, RwI Q Pb n₁ els0 J s.1 s.2 m → RwI Q Pb n₁ els0 J s.1 s.2 (μ s) ∧ μ s ≤ m) := hμ
  clear hμ
  refine callsIn_of_wp Tryz.func79 rfl trivial ?_ rfl
  simp only [Tryz.ntmps79, List.size_toArray, List.length_cons, List.length_nil, Nat.reduceAdd, Nat.reduceSub, Array.replicate_succ, Array.replicate_zero, List.push_toArray, List.append_toArray, List.nil_append, List.cons_append]
  gi_wp2
  gi_loopw [3] (fun v wr => ∃ m, Hid (RwI Q Pb n₁ els0 J v wr m)) (fun v wr => μ (v, wr))
  case atStart =>
    have hb : Below W.heap.size W (W.alloc (.cells #[.slice a0 els0.length cap0, .int .i64 1] 70)) := (Below.refl _ W).alloc (Nat.le_refl _) _
    refine ⟨elsN els0 + 1, [⟨a0, cap0, els0, 1⟩], [], ?_, ?_, ?_, Nat.le_refl _, fun ys h => h, HJ.out _ _ _ H0.out (hb.mono hW), by simp; omega⟩
    · exact ⟨rfl, .inr ⟨_, _, _, rfl, hW, World.alloc_heap_new W _, Nat.le_refl _, by decide, rfl, rfl⟩⟩
    · intro r hr
      simp only [List.mem_singleton] at hr
      subst hr
      exact ⟨HK.out.agree hQ (fun b hb' => hb.block b (Nat.lt_of_lt_of_le (hPS b hb').1 hW)) hb.size, Nat.le_refl _⟩
    · simp [wM, RowX.p]
  case round =>
    obtain ⟨m, hm⟩ := hrel
    have hm2 : RwI Q Pb n₁ els0 J u3 wr (μ (u3, wr)) := (Hμ.out (u3, wr) m hm.out).1
    obtain ⟨M, HM⟩ : ∃ M, Hid (μ (u3, wr) = M) := ⟨_, rfl⟩
    rw [HM.out] at hm2
    clear hm m
    obtain ⟨st0, pre, hO, hR, hw, hwN, hV, hJ0, hsz⟩ := hm2
    rcases List.eq_nil_or_concat st0 with rfl | ⟨st, r, hst⟩
    · have he : ∃ a c, u3 = .slice a 0 c := by
        rcases hO.2 with ⟨h, _⟩ | ⟨g, c, _, h, _⟩
        · exact ⟨_, _, h⟩
        · exact ⟨_, _, h⟩
      obtain ⟨a, c, rfl⟩ := he
      have hVn := hV [] Vis.nil
      rw [List.append_nil] at hVn
      have HV : Hid (Vis [(els0, 1)] (pre.map RowX.p)) := hVn
      have HJ0 : Hid (J pre wr) := hJ0
      clear hV hVn hJ0 hO hR hw
      gi_wp2
      go_end0
      exact ⟨⟨_, rfl⟩, .inl ⟨pre, HV.out, HJ0.out⟩⟩
    · rw [List.concat_eq_append] at hst
      subst hst
      obtain ⟨ra, rc, rels, rd⟩ := r
      have hlen : (st ++ [(⟨ra, rc, rels, rd⟩ : RowX)]).length = st.length + 1 := by simp
      rw [hlen] at hO
      obtain ⟨g, cap, rfl⟩ := ownsRow_succ hO
      obtain ⟨e0, e1⟩ := rowCs_last st ⟨ra, rc, rels, rd⟩
      have c0 := (own_cell hO (j := st.length * 2) (by omega)).1.trans e0
      have c1 := (own_cell hO (j := st.length * 2 + 1) (by omega)).1.trans e1
      have hO1 := owns_cutn hO (m := st.length) (by omega)
      rw [rowCs_cut] at hO1
      have hgl := hO1.lt g rfl
      have hcap : st.length + 1 ≤ cap := by
        rcases hO.2 with ⟨h, _⟩ | ⟨g', cap', cur, h, _, _, h5, _⟩
        · cases h
        · cases h
          exact h5
      have hKr := (hR ⟨ra, rc, rels, rd⟩ (by simp)).1
      have hDr := (hR ⟨ra, rc, rels, rd⟩ (by simp)).2
      have hRs : ∀ q ∈ st, KidsIn Q Pb wr q.a q.els ∧ q.deep + elsD q.els ≤ 1 + elsD els0 := fun q hq => hR q (by simp [hq])
      simp only at c0 c1 hKr hDr
      have hb1 : Below n₁ wr (wr.alloc (.cells #[.slice ra rels.length rc, .int .i64 (rd : Int)] 70)) := (Below.refl _ wr).alloc hsz _
      have hJ1 := HJ.out _ _ _ hJ0 hb1
      have hK1 := hKr.agree hQ (fun b hb' => hb1.block b (hPS b hb').1) hb1.size
      have HVx : Hid (∃ rest, Vis [(els0, 1)] ((pre ++ [(⟨ra, rc, rels, rd⟩ : RowX)]).map RowX.p ++ rest)) := by
        have h3 : (st ++ [(⟨ra, rc, rels, rd⟩ : RowX)]).map RowX.p = st.map RowX.p ++ [(rels, rd)] := by simp [RowX.p]
        obtain ⟨ys, hys⟩ := vis_any _ (st.map RowX.p ++ pushP (rd + 1) rels) (Nat.le_refl _)
        have := hV ((rels, rd) :: ys) (by rw [h3]; exact .pop _ (rels, rd) ys hys)
        exact ⟨ys, by simpa [RowX.p] using this⟩
      obtain ⟨fn, tmps, assign, body, hy, hYR⟩ := HY.out pre ⟨ra, rc, rels, rd⟩ _ hJ1 ⟨hK1, HVx.out⟩ (by simp; omega)
      dsimp only at hy
      have HO1 : Hid (wr.ownsRow n₁ 70 2 (.slice (some ⟨g, 0, none⟩) st.length cap) st.length (rowCs st)) := hO1
      have HRs : Hid (∀ q ∈ st, KidsIn Q Pb wr q.a q.els ∧ q.deep + elsD q.els ≤ 1 + elsD els0) := hRs
      have HK1 : Hid (KidsIn Q Pb wr ra rels) := hKr
      have HV : Hid (∀ ys, Vis ((st ++ [(⟨ra, rc, rels, rd⟩ : RowX)]).map RowX.p) ys → Vis [(els0, 1)] (pre.map RowX.p ++ ys)) := hV
      have Hw : Hid (wM ((st ++ [(⟨ra, rc, rels, rd⟩ : RowX)]).map RowX.p) = M) := hw
      have Hlen : Hid (st.length = st.length) := rfl
      have hDb : rd + elsD rels ≤ 1099511627777 := by have := elsD_le els0; omega
      have hlen2 : rels.length ≤ 1099511627776 := by
        have h1 := wM_append (st.map RowX.p) [(rels, rd)]
        have h2 : wM [(rels, rd)] = elsN rels + 1 := by simp [wM]
        have h3 : wM ((st ++ [(⟨ra, rc, rels, rd⟩ : RowX)]).map RowX.p) = wM (st.map RowX.p ++ [(rels, rd)]) := by simp [RowX.p]
        have h4 := elsN_len rels
        omega
      have hM : elsN rels + st.length + 1 ≤ M := by
        have h1 := wM_append (st.map RowX.p) [(rels, rd)]
        have h2 : wM [(rels, rd)] = elsN rels + 1 := by simp [wM]
        have h3 : wM ((st ++ [(⟨ra, rc, rels, rd⟩ : RowX)]).map RowX.p) = wM (st.map RowX.p ++ [(rels, rd)]) := by simp [RowX.p]
        have h4 := wM_len (st.map RowX.p)
        rw [List.length_map] at h4
        omega
      clear hO hO1 hR hRs hKr hK1 hJ1 hV hw e0 e1 hlen hb1 hJ0
      generalize hks : st.length = k at *
      have k0 : (0 : Int) ≤ (k : Int) := by omega
      have q0 : IntKind.i64.wrap (((k + 1 : Nat) : Int) - 1) = (k : Int) := by rw [show ((k + 1 : Nat) : Int) - 1 = (k : Int) by omega]; exact IntWalk.i64_in _ (by omega)
      have q1 : IntKind.i64.wrap ((k : Int) + 1 - 1) = (k : Int) := by rw [show (k : Int) + 1 - 1 = (k : Int) by omega]; exact IntWalk.i64_in _ (by omega)
      have q2 : (k : Int) < (k : Int) + 1 := by omega
      have q3 : (0 : Int) < (k : Int) + 1 := by omega
      have q4 : (k : Int) ≤ (cap : Int) := by omega
      gi_wp2
      refine hYR.mono ?_
      rintro e W3 (⟨rfl, hJ3, hk3⟩ | ⟨rfl, hJx3⟩)
      rotate_left
      · clear hYR hy HV HRs HO1 HK1
        gi_wp2
        refine bodyPost_ret (results_none rfl _ _ _) rfl ?_
        exact ⟨⟨_, rfl⟩, .inr ⟨_, HVx.out, hJx3⟩⟩
      · obtain ⟨b5, Hb5⟩ : ∃ b5, Hid (wr.heap.size = b5) := ⟨_, rfl⟩
        have hs3 : n₁ ≤ W3.heap.size := by have := hk3.size; simp at this; omega
        have hb5n : n₁ ≤ wr.heap.size := hsz
        have hnS : ∀ b, n₁ ≤ b → ¬ S b := fun b hb hS => absurd (hSn b hS) (by omega)
        have hbk : W3.heap[wr.heap.size]? = some (.cells #[.slice ra rels.length rc, .int .i64 (rd : Int)] 70 (0, 0)) := (hk3.block _ (by simp) (hnS _ hb5n)).trans (World.alloc_heap_new wr _)
        have hlt5 : wr.heap.size < W3.heap.size := (Array.getElem?_eq_some_iff.1 hbk).1
        have hO3 := hk3.owns (HO1.out.alloc (.cells #[.slice ra rels.length rc, .int .i64 (rd : Int)] 70)) (fun b hb => hnS _ (HO1.out.lt b hb).1)
        have hAg : (∀ b, Pb b → W3.heap[b]? = wr.heap[b]?) ∧ wr.heap.size ≤ W3.heap.size := ⟨fun b hb => (hk3.block b (by simp; have := (hPS b hb).1; omega) (hPS b hb).2).trans (Below.heap_alloc _ _ _ (by have := (hPS b hb).1; omega)), by omega⟩
        have HK3 : Hid (KidsIn Q Pb W3 ra rels) := HK1.out.agree hQ hAg.1 hAg.2
        have HR3 : Hid (∀ q ∈ st, KidsIn Q Pb W3 q.a q.els ∧ q.deep + elsD q.els ≤ 1 + elsD els0) := fun q hq => ⟨(HRs.out q hq).1.agree hQ hAg.1 hAg.2, (HRs.out q hq).2⟩
        have a0' : W3.cell? ⟨wr.heap.size, 0, none⟩ = some (.slice ra rels.length rc) := by simp [World.cell?, hbk]
        have a1' : W3.cell? ⟨wr.heap.size, 1, none⟩ = some (.int .i64 (rd : Int)) := by simp [World.cell?, hbk]
        have HI0 : Hid (RwK Q Pb n₁ b5 W3 st ⟨ra, rc, rels, rd⟩ 0 [] (.slice (some ⟨g, 0, none⟩) k cap) W3) := by
          show RwK _ _ _ _ _ _ _ _ _ _ _
          rw [← Hb5.out]
          exact ⟨by rw [List.append_nil, hks]; exact hO3, by simp [Value.ownBlock]; omega, rfl, fun q hq => absurd hq List.not_mem_nil, Below.refl _ _, hs3, a0', a1', hlt5⟩
        have HJ3 : Hid (J (pre ++ [(⟨ra, rc, rels, rd⟩ : RowX)]) W3) := hJ3
        clear hYR hy HRs HO1 HK1 hk3 hJ3 hbk hO3 hAg hnS
        rw [Hb5.out] at a0'
        simp only [Hb5.out]
        gi_wp2
        gi_loopw [3, 7, 31] (fun v _ iv wr2 => ∃ (j : Nat) (ps : List RowX), j ≤ rels.length ∧ iv = .int .i64 (j : Int) ∧ Hid (RwK Q Pb n₁ b5 W3 st ⟨ra, rc, rels, rd⟩ j ps v wr2)) (fun _ _ iv _ => rels.length - (intOf iv).toNat)
        case atStart => exact ⟨0, [], Nat.zero_le _, rfl, HI0⟩
        case round =>
          clear HI0 a0' a1'
          obtain ⟨j, ps, hj, rfl, HI⟩ := hrel
          have j0 : (0 : Int) ≤ (j : Int) := by omega
          have hbs := HI.out.lay
          have hb5 := HI.out.lt5
          have hbel := HI.out.below
          have m0 := HI.out.at0
          have m1 := HI.out.at1
          have hO := HI.out.own
          simp only at m0 m1
          by_cases hlt : j < rels.length
          · have j1 : (j : Int) < (rels.length : Int) := by omega
            have hAg : (∀ b, Pb b → wr.heap[b]? = W3.heap[b]?) ∧ W3.heap.size ≤ wr.heap.size := ⟨fun b hb => hbel.block b (hPS b hb).1, hbel.size⟩
            rcases HK3.out.agree hQ hAg.1 hAg.2 with h | ⟨kb, ko, rfl, hkb, hc⟩
            · omega
            obtain ⟨kd, sp, nm, xa, xn, xc, tx, ka, kc, d0, d1, d2, d3, d4, d5, hkk⟩ := (hc.get j hlt).parts2 hQs
            have hst := pushP_step (rd + 1) rels j hlt
            have hst0 := HI.out.rows
            simp only at hst0
            have hap := HI.out.apart
            have hkids := HI.out.kids
            have hLk : (kidsE (rels[j]'hlt)).length ≤ elsN rels := by
              have h1 := elsN_get rels j hlt
              have h2 := elN_kids (rels[j]'hlt)
              have h3 := elsN_len (kidsE (rels[j]'hlt))
              omega
            obtain ⟨kn, Hkn⟩ : ∃ kn, Hid ((kidsE (rels[j]'hlt)).length = kn) := ⟨_, rfl⟩
            rw [Hkn.out] at d5 hst hLk
            have Hst : Hid (pushP (rd + 1) (rels.take (j + 1)) = ps.map RowX.p ++ if kn = 0 then [] else [(kidsE (rels[j]'hlt), rd + 1)]) := by show _ = _; rw [hst0]; exact hst
            have Hkk : Hid (KidsIn Q Pb wr ka (kidsE (rels[j]'hlt))) := hkk
            have hbe : Below wr.heap.size wr (wr.alloc (.cells #[.int .i64 kd, .int .i64 sp, .string nm, .slice xa xn xc, .string tx, .slice ka kn kc] 25)) := (Below.refl _ wr).alloc (Nat.le_refl _) _
            have hlen : (st ++ ps).length = k + ps.length := by rw [List.length_append, hks]
            have hpsl : ps.length ≤ elsN rels := by
              have h1 := wM_len (ps.map RowX.p)
              rw [hst0] at h1
              have h2 := wM_push (rd + 1) (rels.take j)
              have h3 : elsN (rels.take j) ≤ elsN rels := elsN_take rels j
              have h4 : (pushP (rd + 1) (rels.take j)).length = ps.length := by rw [← hst0, List.length_map]
              omega
            rw [hlen] at hO
            have hu : ∃ ua uc, u3 = .slice ua (k + ps.length) uc := by
              rcases hO.2 with ⟨h, h'⟩ | ⟨g', c', _, h, _⟩
              · exact ⟨_, _, by rw [h, h']⟩
              · exact ⟨_, _, h⟩
            obtain ⟨ua, uc, rfl⟩ := hu
            clear hst hst0 hkk hc hlen
            by_cases hz : kn = 0
            · subst hz
              have Hst2 : Hid (ps.map RowX.p = pushP (rd + 1) (rels.take (j + 1))) := by show _ = _; rw [Hst.out, if_pos rfl, List.append_nil]
              have g1 : decide ((0 : Int) > 0) = false := rfl
              gi_wp2
              go_roundw
              case rel => exact ⟨j + 1, ps, by omega, by go_num, HI.out.step Hst2.out hbe hQ (fun b hb => (hPS b hb).1)⟩
              case measure => simp [intOf]; omega
            · have Hst2 : Hid ((ps ++ [(⟨ka, kc, kidsE (rels[j]'hlt), rd + 1⟩ : RowX)]).map RowX.p = pushP (rd + 1) (rels.take (j + 1))) := by
                show _ = _
                rw [Hst.out, if_neg hz, List.map_append]
                rfl
              have g1 : decide ((kn : Int) > 0) = true := decide_eq_true (by omega)
              have g2 : (0 : Int) < (kn : Int) := by omega
              have hDr2 : 1 ≤ elsD rels := elsD_pos rels (fun h => by rw [h] at hlt; simp at hlt)
              have q5 : IntKind.i64.wrap ((rd : Int) + 1) = (rd : Int) + 1 := IntWalk.i64_in _ (by omega)
              have hone : ∀ y ∈ [Value.slice ka kn kc, .int .i64 ((rd : Int) + 1)], y.oneCell' = true := by simp [Value.oneCell']
              have h63 : k + ps.length + 1 ≤ maxLen := by unfold maxLen; omega
              have hbyt : (k + ps.length + 1) * 32 ≤ 140737488355328 := by omega
              have hO2 := (hO.alloc (.cells #[.int .i64 kd, .int .i64 sp, .string nm, .slice xa xn xc, .string tx, .slice ka kn kc] 25)).alloc (.cells #[.slice ka kn kc, .int .i64 ((rd : Int) + 1)] 70)
              gi_wp2_with (gi_at_builtin; refine wpListIn_append_own_at _ rfl _ _ 92 rfl n₁ 70 i0 (.agg #[.slice none 0 0, .int .i64 0]) 2 32 Tryz.underlying92 hi hz0 hz1 hz2 rfl (by decide) _ _ _ rfl hO2 ⟨wr.heap.size + 1, 0, none⟩ 1 1 [.slice ka kn kc, .int .i64 ((rd : Int) + 1)] rfl rfl (rw_two _ _ _ _ _ (by simp)) hone h63 hbyt (by simp; omega) ?_; intro v3 w3 o3 g3 hnil3 hblk3)
              have hsz2 : ((wr.alloc (.cells #[.int .i64 kd, .int .i64 sp, .string nm, .slice xa xn xc, .string tx, .slice ka kn kc] 25)).alloc (.cells #[.slice ka kn kc, .int .i64 ((rd : Int) + 1)] 70)).heap.size = wr.heap.size + 2 := by simp
              have hb2 : Below wr.heap.size wr ((wr.alloc (.cells #[.int .i64 kd, .int .i64 sp, .string nm, .slice xa xn xc, .string tx, .slice ka kn kc] 25)).alloc (.cells #[.slice ka kn kc, .int .i64 ((rd : Int) + 1)] 70)) := hbe.alloc (by simp) _
              generalize ((wr.alloc (.cells #[.int .i64 kd, .int .i64 sp, .string nm, .slice xa xn xc, .string tx, .slice ka kn kc] 25)).alloc (.cells #[.slice ka kn kc, .int .i64 ((rd : Int) + 1)] 70)) = V at *
              have hne : ∀ b, (Value.slice ua (k + ps.length) uc).ownBlock = some b → n₁ ≤ b ∧ b < V.heap.size := fun b hb => hO2.lt b hb
              have hB3 : Below n₁ V w3 := grown_below hO2 (Below.refl _ V) (Nat.le_refl _) g3 (by omega)
              have hBw : Below n₁ wr w3 := (hb2.mono hbs).trans hB3
              have h5b : w3.heap[b5]? = wr.heap[b5]? := (g3.block b5 (by omega) (fun e => hap e.symm)).trans (hb2.block b5 hb5)
              have HI3 : Hid (RwK Q Pb n₁ b5 W3 st ⟨some ⟨kb, ko, none⟩, rc, rels, rd⟩ (j + 1) (ps ++ [(⟨ka, kc, kidsE (rels[j]'hlt), rd + 1⟩ : RowX)]) v3 w3) := by
                refine ⟨?_, ?_, Hst2.out, ?_, hbel.trans hBw, Nat.le_trans hbs hBw.size, ?_, ?_, Nat.lt_of_lt_of_le hb5 hBw.size⟩
                · rw [← List.append_assoc, rowCs_append, List.length_append, List.length_append, hks]
                  have e1 : rowCs [(⟨ka, kc, kidsE (rels[j]'hlt), rd + 1⟩ : RowX)] = [.slice ka kn kc, .int .i64 ((rd : Int) + 1)] := by simp [rowCs, Hkn.out]
                  rw [e1]
                  exact o3
                · rcases hblk3 with h | h
                  · rw [h]; exact hap
                  · rw [h]
                    intro h'
                    have := Option.some.inj h'
                    omega
                · intro q hq
                  rcases List.mem_append.1 hq with hq | hq
                  · exact (hkids q hq).agree hQ (fun b hb => hBw.block b (hPS b hb).1) hBw.size
                  · simp only [List.mem_singleton] at hq
                    subst hq
                    exact Hkk.out.agree hQ (fun b hb => hBw.block b (hPS b hb).1) hBw.size
                · exact (cell_agree h5b).trans m0
                · exact (cell_agree h5b).trans m1
              clear o3 g3 hblk3 hnil3 hO2 hne hB3 hBw h5b HI hO
              go_roundw
              case rel => exact ⟨j + 1, _, by omega, by go_num, HI3⟩
              case measure => simp [intOf]; omega
          · have hje : j = rels.length := by omega
            subst hje
            have g1 : decide ((rels.length : Int) < (rels.length : Int)) = false := by simp
            have hrows := HI.out.rows
            simp only [List.take_length] at hrows
            have hkids := HI.out.kids
            have hBw := hbel
            have h3 : (st ++ [(⟨ra, rc, rels, rd⟩ : RowX)]).map RowX.p = st.map RowX.p ++ [(rels, rd)] := by simp [RowX.p]
            have hwp := wM_pop (st.map RowX.p) (rels, rd)
            have hwM := Hw.out
            rw [h3] at hwM
            have hmap : (st ++ ps).map RowX.p = st.map RowX.p ++ pushP (rd + 1) rels := by rw [List.map_append, hrows]
            have HIn : Hid (∃ m, m < M ∧ RwI Q Pb n₁ els0 J u3 wr m) := by
              refine ⟨wM ((st ++ ps).map RowX.p), ?_, st ++ ps, pre ++ [(⟨ra, rc, rels, rd⟩ : RowX)], hO, ?_, rfl, ?_, ?_, HJ.out _ _ _ HJ3.out hbel, hbs⟩
              · rw [hmap, ← hwM]
                exact hwp
              · intro q hq
                rcases List.mem_append.1 hq with hq | hq
                · exact ⟨(HR3.out q hq).1.agree hQ (fun b hb => hbel.block b (hPS b hb).1) hbel.size, (HR3.out q hq).2⟩
                · refine ⟨hkids q hq, ?_⟩
                  have hqm : q.p ∈ pushP (rd + 1) rels := by rw [← hrows]; exact List.mem_map_of_mem hq
                  have := pushP_deep (rd + 1) rels q.p hqm
                  have h2 := (pushP_kids (rd + 1) rels q.p hqm).2
                  simp only [RowX.p] at this h2
                  omega
              · rw [hmap]
                have : wM (st.map RowX.p ++ pushP (rd + 1) rels) < M := by rw [← hwM]; exact hwp
                omega
              · intro ys hys
                rw [hmap] at hys
                have := HV.out ((rels, rd) :: ys) (by rw [h3]; exact .pop _ (rels, rd) ys hys)
                simpa [RowX.p] using this
            clear HI hO hkids hrows hmap hwp hwM h3 HJ3 HR3 HV Hw HK3
            obtain ⟨m', hm', hI'⟩ := HIn.out
            have hlt' : μ (u3, wr) < M := Nat.lt_of_le_of_lt (Hμ.out (u3, wr) m' hI').2 hm'
            gi_wp2
            go_roundw
            case rel => exact ⟨m', hI'⟩
            case measure =>
              show μ (_, _) < μ (_, _)
              rw [HM.out]
              exact hlt'

set_option maxHeartbeats 1000000 in
/-- The function that rowsOf hands back has caught the list, in a box. -/
theorem implRowsOf (n : Nat) (a : Option Addr) (N cap : Nat) (w : World) :
    CallsIn Fence.wide n Tryz.prog 48 #[.slice a N cap] w fun e w' => e = .returned (.func (.func 79) #[] #[.pointer (some ⟨w.heap.size, 0, none⟩)]) ∧ w' = w.alloc (.cells #[.slice a N cap] 23) := by
  refine callsIn_of_wp Tryz.func48 rfl trivial ?_ rfl
  simp only [Tryz.ntmps48, List.size_toArray, List.length_cons, List.length_nil, Nat.reduceAdd, Nat.reduceSub, Array.replicate_succ, Array.replicate_zero, List.push_toArray, List.append_toArray, List.nil_append, List.cons_append]
  gi_wp2
  go_ret
  exact ⟨by simp, rfl⟩
/-- What comes of a row: its list and how deep it is; its kids lie; it is one of those that come. -/
def encR (x : RowX) : Array Value := #[.agg #[.slice x.a x.els.length x.cap, .int .i64 (x.deep : Int)]]
theorem rows_seq (n : Nat) (hn : 1 ≤ n) (Q : World → Value → List AttrB → Prop) (Pb : Nat → Prop) (hQ : LiesP Q Pb) (hQs : ∀ {w v l}, Q w v l → ∃ a c, v = .slice a l.length c) (S : Nat → Prop) (Bl : Nat) (els0 : List ElB) (hN : elsN els0 ≤ 1099511627776) (a0 : Option Addr) (cap0 : Nat) (w : World)
    (hPS : ∀ b, Pb b → b < w.heap.size ∧ ¬ S b) (hSn : ∀ b, S b → b < w.heap.size + 2) (hl : w.cell? ⟨Bl, 0, none⟩ = some (.slice a0 els0.length cap0)) (hk : KidsIn Q Pb w a0 els0) :
    SeqOwn Fence.wide n Tryz.prog 79 #[.pointer (some ⟨Bl, 0, none⟩)] encR (fun pre x W => KidsIn Q Pb W x.a x.els ∧ ∃ rest, Vis [(els0, 1)] ((pre ++ [x]).map RowX.p ++ rest)) (fun A B => Kb A B S)
      (fun ys => Vis [(els0, 1)] (ys.map RowX.p)) (fun pre => ∃ rest, Vis [(els0, 1)] (pre.map RowX.p ++ rest)) w := fun L J Jx W hs hW hJ hJx hY h0 => by
  rw [hs] at hJ hY
  exact implRows1 n hn Q Pb hQ hQs S L Bl (w.heap.size + 2) (fun b hb => ⟨by have := (hPS b hb).1; omega, (hPS b hb).2⟩) hSn J Jx hJ els0 hN hY a0 cap0 W (by omega) (keep_cell hW hl) (hk.agree hQ (fun b hb => hW.block b (hPS b hb).1) hW.size) h0

end Go.Proofs.YthipdkagkdnaiaaGreatDoor.Sg
