/- Contract of the program's SameEl: pairs of lists wait in a list. -/
import Derived.Test.YtgpfekdfomlljaaSmAlone
import Derived.Test.YtgpfekdfomlljaaRwSize
import Derived.Lib.QuietBelow
import Derived.Deep.Cut
import Derived.Deep.CutRange
import Derived.Deep.RegionHeld3
import Derived.Deep.AppendLies
namespace Go.Proofs.Ytgpfekdfomlljaa.Sg
open Go.ChangeShapes Go.WideShapes Go.ChangeAt Go.RowKit Go.Shelf

theorem info_pair : (Try.prog.info? 48).map (fun i => (i.zero, i.size, i.bytes)) = some (some (.agg #[.slice none 0 0, .slice none 0 0]), 2, 48) := by kernel_rfl
/-- Attributes in blocks ahead of one. -/
def QB (n : Nat) (w : World) (v : Value) (l : List AttrB) : Prop := QA 0 w v l ∧ ∀ b o m k c, v = .slice (some ⟨b, o, m⟩) k c → b < n
theorem QB.slice {n : Nat} {w : World} {v : Value} {l : List AttrB} (h : QB n w v l) : ∃ a c, v = .slice a l.length c := by
  obtain ⟨⟨x, c, e, _⟩, _⟩ := h
  exact ⟨x, c, e⟩
theorem QB.liesP (n : Nat) : LiesP (QB n) (· < n) := ⟨fun {w w' v l} h hb hs => by
  obtain ⟨⟨x, c, rfl, h1, h2, h3, h6⟩, h7⟩ := h
  refine ⟨⟨x, c, rfl, h1, fun b o m h => Nat.lt_of_lt_of_le (h2 b o m h) hs, ?_, h6⟩, h7⟩
  rcases h3 with h3 | ⟨b', e', h4, h5⟩
  · exact .inl h3
  · subst e'
    have hc := hb b' (h7 _ _ _ _ _ rfl)
    exact .inr ⟨b', rfl, Nat.lt_of_lt_of_le h4 hs, fun k hk => ⟨(cell_agree hc).trans (h5 k hk).1, (cell_agree hc).trans (h5 k hk).2⟩⟩⟩
theorem QB.wide {n : Nat} {w : World} {v : Value} {l : List AttrB} (h : QB n w v l) : QA 0 w v l := h.1
theorem KidsIn.wider {Q Q' : World → Value → List AttrB → Prop} {P P' : Nat → Prop} {w : World} (hQ : ∀ v l, Q w v l → Q' w v l) (hP : ∀ b, P b → P' b) {ka : Option Addr} {ks : List ElB} (h : KidsIn Q P w ka ks) : KidsIn Q' P' w ka ks := by
  rcases h with h | ⟨kb, ko, e, hp, h⟩
  · exact .inl h
  · exact .inr ⟨kb, ko, e, hP _ hp, ElsIn.wider hQ hP ks kb ko h⟩
theorem elV_first {lo : Nat} {w : World} {v : Value} {e : ElB} (h : ElV (QA lo) (lo ≤ ·) w v e) : ElV (QB w.heap.size) (· < w.heap.size) w v e :=
  h.lts.wider (fun v l h => by
    obtain ⟨x, c, rfl, h1, h2, h3⟩ := h
    exact ⟨⟨x, c, rfl, fun _ _ _ _ => Nat.zero_le _, h2, h3⟩, fun b o m k c e => by cases e; exact h2 b o m rfl⟩) (fun b hb => hb.2)
theorem ElV.widen {n n' : Nat} {w : World} {v : Value} {e : ElB} (h : ElV (QB n) (· < n) w v e) (hn : n ≤ n') : ElV (QB n') (· < n') w v e :=
  h.wider (fun _ _ h => ⟨h.1, fun b o m k c e => Nat.lt_of_lt_of_le (h.2 b o m k c e) hn⟩) (fun _ hb => Nat.lt_of_lt_of_le hb hn)
/-- One element in a slice of its own. -/
theorem kids_oneB {n : Nat} {W : World} {z : ElB} {v : Value} {b : Nat} (hV : ElV (QB n) (· < n) W v z) (hb : b < n) (hc : ∃ v0 v1 v2 v3 v4 v5, v = .agg #[v0, v1, v2, v3, v4, v5] ∧ W.heap[b]? = some (.cells #[v0, v1, v2, v3, v4, v5] 31 (0, 0))) : KidsIn (QB n) (· < n) W (some ⟨b, 0, none⟩) [z] := by
  obtain ⟨v0, v1, v2, v3, v4, v5, rfl, hh⟩ := hc
  refine .inr ⟨b, 0, rfl, hb, ?_⟩
  unfold ElsIn
  refine ⟨hV.cells ?_ ?_ ?_ ?_ ?_ ?_, by unfold ElsIn; trivial⟩ <;> simp [World.cell?, hh]

/-- What holds between two rounds: the pairs that wait. -/
def SmI (n₁ : Nat) (w : World) (R : Bool) (N : Nat) (v : Value) (wr : World) (m : Nat) : Prop :=
  ∃ st : List PairX, wr.ownsRow n₁ 48 2 v st.length (pairCs st) ∧ (∀ r ∈ st, (KidsIn (QB n₁) (· < n₁) wr r.a r.xs ∧ KidsIn (QB n₁) (· < n₁) wr r.b r.ys) ∧ (ElsLight r.xs ∧ ElsLight r.ys) ∧ r.xs.length ≤ 1099511627776 ∧ r.ys.length ≤ 1099511627776) ∧ wP (st.map PairX.p) = m ∧ m ≤ N ∧ (st.map PairX.p).all samP = R ∧ Below w.heap.size w wr ∧ n₁ ≤ wr.heap.size
/-- And within one: the pairs of kids are put behind. -/
structure SmK (n₁ : Nat) (W3 : World) (st : List PairX) (r : PairX) (j : Nat) (ps : List PairX) (v : Value) (wr : World) : Prop where
  own : wr.ownsRow n₁ 48 2 v (st ++ ps).length (pairCs (st ++ ps))
  rows : ps.map PairX.p = (zk r.xs r.ys).take j
  kids : ∀ q ∈ ps, (KidsIn (QB n₁) (· < n₁) wr q.a q.xs ∧ KidsIn (QB n₁) (· < n₁) wr q.b q.ys) ∧ (ElsLight q.xs ∧ ElsLight q.ys) ∧ q.xs.length ≤ 1099511627776 ∧ q.ys.length ≤ 1099511627776
  below : Below n₁ W3 wr
  lay : n₁ ≤ wr.heap.size

theorem light_kids {e : ElB} (h : ElLight e) : ElsLight (kidsE e) ∧ (kidsE e).length ≤ 1099511627776 := by
  obtain ⟨kd, sp, nm, ats, tx, ks⟩ := e
  unfold ElLight at h
  exact ⟨h.2.2, h.2.1⟩

set_option maxRecDepth 100000 in
set_option maxHeartbeats 8000000 in
theorem implSameEl (e1 e2 : ElB) (lo1 lo2 : Nat) (v1 v2 : Value) (w : World) (h1 : ElV (QA lo1) (lo1 ≤ ·) w v1 e1) (h2 : ElV (QA lo2) (lo2 ≤ ·) w v2 e2) (hl1 : ElLight e1) (hl2 : ElLight e2) (hN : elN e1 ≤ 1099511627776) :
    Calls Try.prog 14 #[v1, v2] w fun r w' => r = .returned (.bool (sameE e1 e2)) ∧ Below w.heap.size w w' := by
  obtain ⟨i0, hi, hz0, hz1, hz2⟩ := info_parts info_pair
  obtain ⟨c0, c1, c2, c3a, c3n, c3c, c4, c5a, c5n, c5c, rfl⟩ : ∃ c0 c1 c2 c3a c3n c3c c4 c5a c5n c5c, v1 = .agg #[.int .i64 c0, .int .i64 c1, .string c2, .slice c3a c3n c3c, .string c4, .slice c5a c5n c5c] := by
    obtain ⟨kd, sp, nm, ats, tx, ks⟩ := e1
    obtain ⟨av, ka, kc, e, ⟨xa, xc, rfl, _⟩, _⟩ := h1
    exact ⟨_, _, _, _, _, _, _, _, _, _, e⟩
  obtain ⟨d0, d1, d2, d3a, d3n, d3c, d4, d5a, d5n, d5c, rfl⟩ : ∃ c0 c1 c2 c3a c3n c3c c4 c5a c5n c5c, v2 = .agg #[.int .i64 c0, .int .i64 c1, .string c2, .slice c3a c3n c3c, .string c4, .slice c5a c5n c5c] := by
    obtain ⟨kd, sp, nm, ats, tx, ks⟩ := e2
    obtain ⟨av, ka, kc, e, ⟨xa, xc, rfl, _⟩, _⟩ := h2
    exact ⟨_, _, _, _, _, _, _, _, _, _, e⟩
  have H1 : Hid (ElV (QB w.heap.size) (· < w.heap.size) w (.agg #[.int .i64 c0, .int .i64 c1, .string c2, .slice c3a c3n c3c, .string c4, .slice c5a c5n c5c]) e1) := elV_first h1
  have H2 : Hid (ElV (QB w.heap.size) (· < w.heap.size) w (.agg #[.int .i64 d0, .int .i64 d1, .string d2, .slice d3a d3n d3c, .string d4, .slice d5a d5n d5c]) e2) := elV_first h2
  obtain ⟨R, HR⟩ : ∃ R, Hid (sameE e1 e2 = R) := ⟨_, rfl⟩
  rw [HR.out]
  clear h1 h2
  go_enter Try.func14, Try.ntmps14
  go_wp2_with fail
  obtain ⟨hsz, hB0, _, hlit1, hlit2⟩ := four_blocks w (.cells #[.int .i64 c0, .int .i64 c1, .string c2, .slice c3a c3n c3c, .string c4, .slice c5a c5n c5c] 31) (.cells #[.int .i64 d0, .int .i64 d1, .string d2, .slice d3a d3n d3c, .string d4, .slice d5a d5n d5c] 31) (.cells #[.int .i64 c0, .int .i64 c1, .string c2, .slice c3a c3n c3c, .string c4, .slice c5a c5n c5c] 31) (.cells #[.int .i64 d0, .int .i64 d1, .string d2, .slice d3a d3n d3c, .string d4, .slice d5a d5n d5c] 31)
  simp only [show w.heap.size + 1 + 1 + 1 + 1 = w.heap.size + 4 from rfl, show w.heap.size + 1 + 1 + 1 = w.heap.size + 3 from rfl, show w.heap.size + 1 + 1 = w.heap.size + 2 from rfl]
  generalize ((((w.alloc (.cells #[.int .i64 c0, .int .i64 c1, .string c2, .slice c3a c3n c3c, .string c4, .slice c5a c5n c5c] 31)).alloc (.cells #[.int .i64 d0, .int .i64 d1, .string d2, .slice d3a d3n d3c, .string d4, .slice d5a d5n d5c] 31)).alloc (.cells #[.int .i64 c0, .int .i64 c1, .string c2, .slice c3a c3n c3c, .string c4, .slice c5a c5n c5c] 31)).alloc (.cells #[.int .i64 d0, .int .i64 d1, .string d2, .slice d3a d3n d3c, .string d4, .slice d5a d5n d5c] 31)) = W4 at *
  have HK1 : Hid (KidsIn (QB (w.heap.size + 4)) (· < w.heap.size + 4) W4 (some ⟨w.heap.size + 2, 0, none⟩) [e1]) := kids_oneB ((H1.out.agree (QB.liesP _) (fun b hb => hB0.block b hb) hB0.size).widen (by omega)) (by omega) ⟨_, _, _, _, _, _, rfl, hlit1⟩
  have HK2 : Hid (KidsIn (QB (w.heap.size + 4)) (· < w.heap.size + 4) W4 (some ⟨w.heap.size + 3, 0, none⟩) [e2]) := kids_oneB ((H2.out.agree (QB.liesP _) (fun b hb => hB0.block b hb) hB0.size).widen (by omega)) (by omega) ⟨_, _, _, _, _, _, rfl, hlit2⟩
  have HL1 : Hid (ElsLight [e1] ∧ ElsLight [e2]) := by
    constructor <;> (unfold ElsLight; refine ⟨by assumption, by unfold ElsLight; trivial⟩)
  have hb5 : Below W4.heap.size W4 (W4.alloc (.cells #[.slice (some ⟨w.heap.size + 2, 0, none⟩) 1 1, .slice (some ⟨w.heap.size + 3, 0, none⟩) 1 1] 48)) := (Below.refl _ W4).alloc (Nat.le_refl _) _
  have HI0 : Hid (SmI (w.heap.size + 4) w R (elN e1 + 1) (.slice (some ⟨w.heap.size + 4, 0, none⟩) 1 1) (W4.alloc (.cells #[.slice (some ⟨w.heap.size + 2, 0, none⟩) 1 1, .slice (some ⟨w.heap.size + 3, 0, none⟩) 1 1] 48)) (elN e1 + 1)) := by
    refine ⟨[⟨some ⟨w.heap.size + 2, 0, none⟩, 1, [e1], some ⟨w.heap.size + 3, 0, none⟩, 1, [e2]⟩], ?_, ?_, ?_, Nat.le_refl _, ?_, hB0.trans (hb5.mono hB0.size), by simp; omega⟩
    · exact ⟨rfl, .inr ⟨_, _, _, rfl, Nat.le_refl _, by rw [← hsz]; exact World.alloc_heap_new W4 _, Nat.le_refl _, by decide, rfl, rfl⟩⟩
    · intro r hr
      simp only [List.mem_singleton] at hr
      subst hr
      exact ⟨⟨HK1.out.agree (QB.liesP _) (fun b hb => hb5.block b (by omega)) hb5.size, HK2.out.agree (QB.liesP _) (fun b hb => hb5.block b (by omega)) hb5.size⟩, HL1.out, by simp, by simp⟩
    · simp [wP, PairX.p, elsN]
    · rw [← HR.out]
      simp [samP, PairX.p, sameEs]
  obtain ⟨μ, hμ⟩ := least_of (fun (s : Value × World) m => SmI (w.heap.size + 4) w R (elN e1 + 1) s.1 s.2 m)
  have Hμ : Hid (∀ s m, SmI (w.heap.size + 4) w R (elN e1 + 1) s.1 s.2 m → SmI (w.heap.size + 4) w R (elN e1 + 1) s.1 s.2 (μ s) ∧ μ s ≤ m) := hμ
  clear hμ HK1 HK2 HL1 H1 H2 hlit1 hlit2 HR
  generalize (W4.alloc (.cells #[.slice (some ⟨w.heap.size + 2, 0, none⟩) 1 1, .slice (some ⟨w.heap.size + 3, 0, none⟩) 1 1] 48)) = W5 at *
  clear hb5
  generalize hn1 : w.heap.size + 4 = n₁ at *
  have hwn : w.heap.size ≤ n₁ := by omega
  go_loopw [5] (fun v wr => ∃ m, Hid (SmI n₁ w R (elN e1 + 1) v wr m)) (fun v wr => μ (v, wr))
  case atStart => exact ⟨_, HI0⟩
  case round =>
    clear HI0
    obtain ⟨m, hm⟩ := hrel
    have hm2 : SmI n₁ w R (elN e1 + 1) u5 wr (μ (u5, wr)) := (Hμ.out (u5, wr) m hm.out).1
    obtain ⟨M, HM⟩ : ∃ M, Hid (μ (u5, wr) = M) := ⟨_, rfl⟩
    rw [HM.out] at hm2
    clear hm m
    obtain ⟨st0, hO, hR, hw, hwN, hall, hBel, hs1⟩ := hm2
    rcases List.eq_nil_or_concat st0 with rfl | ⟨st, r, hst⟩
    · have he : ∃ a c, u5 = .slice a 0 c := by
        rcases hO.2 with ⟨h, _⟩ | ⟨g, c, _, h, _⟩
        · exact ⟨_, _, h⟩
        · exact ⟨_, _, h⟩
      obtain ⟨a, c, rfl⟩ := he
      have Hall : Hid (R = true) := hall.symm
      have HBel : Hid (Below w.heap.size w wr) := hBel
      clear hall hO hR hw hBel
      go_wp2_with fail
      go_ret
      exact ⟨ret_bo Hall.out.symm, HBel.out⟩
    · rw [List.concat_eq_append] at hst
      subst hst
      obtain ⟨ra, rac, xs, rb, rbc, ys⟩ := r
      have hlen : (st ++ [(⟨ra, rac, xs, rb, rbc, ys⟩ : PairX)]).length = st.length + 1 := by simp
      rw [hlen] at hO
      obtain ⟨g, cap, rfl⟩ := ownsRow_succ hO
      obtain ⟨p0, p1⟩ := pairCs_last st ⟨ra, rac, xs, rb, rbc, ys⟩
      have m0 := (own_cell hO (j := st.length * 2) (by omega)).1.trans p0
      have m1 := (own_cell hO (j := st.length * 2 + 1) (by omega)).1.trans p1
      have hO1 := owns_cutn hO (m := st.length) (by omega)
      rw [pairCs_cut] at hO1
      have hgl := hO1.lt g rfl
      have hcap : st.length + 1 ≤ cap := by
        rcases hO.2 with ⟨h, _⟩ | ⟨g', cap', cur, h, _, _, h5, _⟩
        · cases h
        · cases h
          exact h5
      obtain ⟨⟨hK1, hK2⟩, ⟨hL1, hL2⟩, hx, hy⟩ := hR ⟨ra, rac, xs, rb, rbc, ys⟩ (by simp)
      have hRs := fun q hq => hR q (List.mem_append_left _ hq)
      simp only at m0 m1 hK1 hK2 hL1 hL2 hx hy
      have hwp : wP ((st ++ [(⟨ra, rac, xs, rb, rbc, ys⟩ : PairX)]).map PairX.p) = wP (st.map PairX.p) + (elsN xs + 1) := by
        rw [List.map_append, wP_append]
        simp [wP, PairX.p]
      have hallp : R = ((st.map PairX.p).all samP && (decide (xs.length = ys.length) && sameEs xs ys)) := by
        rw [← hall, List.map_append, List.all_append]
        simp [samP, PairX.p]
      have hM : elsN xs + st.length + 1 ≤ M := by
        have h4 := wP_len (st.map PairX.p)
        rw [List.length_map] at h4
        omega
      have HO1 : Hid (wr.ownsRow n₁ 48 2 (.slice (some ⟨g, 0, none⟩) st.length cap) st.length (pairCs st)) := hO1
      have HRs : Hid (∀ q ∈ st, (KidsIn (QB n₁) (· < n₁) wr q.a q.xs ∧ KidsIn (QB n₁) (· < n₁) wr q.b q.ys) ∧ (ElsLight q.xs ∧ ElsLight q.ys) ∧ q.xs.length ≤ 1099511627776 ∧ q.ys.length ≤ 1099511627776) := hRs
      have HK1 : Hid (KidsIn (QB n₁) (· < n₁) wr ra xs) := hK1
      have HK2 : Hid (KidsIn (QB n₁) (· < n₁) wr rb ys) := hK2
      have HL1 : Hid (ElsLight xs) := hL1
      have HL2 : Hid (ElsLight ys) := hL2
      have Hw : Hid (wP (st.map PairX.p) + (elsN xs + 1) = M) := by show _ = _; rw [← hwp]; exact hw
      have Hall : Hid (R = ((st.map PairX.p).all samP && (decide (xs.length = ys.length) && sameEs xs ys))) := hallp
      have HBel : Hid (Below w.heap.size w wr) := hBel
      clear hO hO1 hR hRs hK1 hK2 hL1 hL2 hw hwp hall hallp p0 p1 hlen hBel
      generalize hks : st.length = k at *
      have k0 : (0 : Int) ≤ (k : Int) := by omega
      have q0 : IntKind.i64.wrap (((k + 1 : Nat) : Int) - 1) = (k : Int) := by rw [show ((k + 1 : Nat) : Int) - 1 = (k : Int) by omega]; exact IntWalk.i64_in _ (by omega)
      have q1 : IntKind.i64.wrap ((k : Int) + 1 - 1) = (k : Int) := by rw [show (k : Int) + 1 - 1 = (k : Int) by omega]; exact IntWalk.i64_in _ (by omega)
      have q2 : (k : Int) < (k : Int) + 1 := by omega
      have q3 : (0 : Int) < (k : Int) + 1 := by omega
      have q4 : (k : Int) ≤ (cap : Int) := by omega
      go_wp2_with fail
      go_quiet (fail)
      go_wp2_with fail
      have hbq := drew_kd (Below.refl wr.heap.size wr) nq
      generalize wr.drewN nq = Wq at *
      have HE := implEqualFunc xs ys 0 0 ra rb _ _ rac rbc Wq rfl rfl ((HK1.out.agree (QB.liesP _) (fun b hb => hbq.block b (by omega)) hbq.size).wider (fun v l h => h.wide) (fun b _ => Nat.zero_le _)) ((HK2.out.agree (QB.liesP _) (fun b hb => hbq.block b (by omega)) hbq.size).wider (fun v l h => h.wide) (fun b _ => Nat.zero_le _)) HL1.out HL2.out hx hy
      cases hv : (decide (xs.length = ys.length) && aloneEs xs ys)
      · rw [hv] at HE
        have Hf : Hid (R = false) := by
          show _ = _
          rw [Hall.out]
          by_cases he : xs.length = ys.length
          · rw [decide_eq_true he, Bool.true_and] at hv
            rw [samP_alone xs ys he, hv]
            simp
          · rw [decide_eq_false he]
            simp
        clear Hall HRs HO1 HK1 HK2 HL1 HL2 Hw
        refine HE.mono ?_
        rintro e W3 ⟨rfl, b3⟩
        have Hb : Hid (Below w.heap.size w W3) := HBel.out.trans ((hbq.trans (b3.mono hbq.size)).mono HBel.out.size)
        clear b3 HBel hbq HE
        go_wp2_with fail
        go_ret
        exact ⟨ret_bo Hf.out.symm, Hb.out⟩
      rw [hv] at HE
      have he : xs.length = ys.length := by
        by_cases he : xs.length = ys.length
        · exact he
        · rw [decide_eq_false he] at hv
          cases hv
      have Hall2 : Hid (R = ((st.map PairX.p).all samP && (zk xs ys).all samP)) := by
        show _ = _
        rw [decide_eq_true he, Bool.true_and] at hv
        rw [Hall.out, samP_alone xs ys he, hv, decide_eq_true he, Bool.true_and, Bool.true_and]
      clear Hall hv
      refine HE.mono ?_
      rintro e W3 ⟨rfl, b3⟩
      have hb3 : Below wr.heap.size wr W3 := hbq.trans (b3.mono hbq.size)
      have HB3 : Hid (Below w.heap.size w W3) := HBel.out.trans (hb3.mono HBel.out.size)
      have HK13 : Hid (KidsIn (QB n₁) (· < n₁) W3 ra xs) := HK1.out.agree (QB.liesP _) (fun b hb => hb3.block b (by omega)) hb3.size
      have HK23 : Hid (KidsIn (QB n₁) (· < n₁) W3 rb ys) := HK2.out.agree (QB.liesP _) (fun b hb => hb3.block b (by omega)) hb3.size
      have HR3 : Hid (∀ q ∈ st, (KidsIn (QB n₁) (· < n₁) W3 q.a q.xs ∧ KidsIn (QB n₁) (· < n₁) W3 q.b q.ys) ∧ (ElsLight q.xs ∧ ElsLight q.ys) ∧ q.xs.length ≤ 1099511627776 ∧ q.ys.length ≤ 1099511627776) := fun q hq => ⟨⟨(HRs.out q hq).1.1.agree (QB.liesP _) (fun b hb => hb3.block b (by omega)) hb3.size, (HRs.out q hq).1.2.agree (QB.liesP _) (fun b hb => hb3.block b (by omega)) hb3.size⟩, (HRs.out q hq).2⟩
      have hs3 : n₁ ≤ W3.heap.size := Nat.le_trans hs1 hb3.size
      have HI0 : Hid (SmK n₁ W3 st ⟨ra, rac, xs, rb, rbc, ys⟩ 0 [] (.slice (some ⟨g, 0, none⟩) k cap) W3) := ⟨by rw [List.append_nil, hks]; exact owns_below HO1.out (Nat.le_refl _) hb3, rfl, fun q hq => absurd hq List.not_mem_nil, Below.refl _ _, hs3⟩
      clear b3 hbq HE hb3 HK1 HK2 HRs HO1 HBel
      go_wp2_with fail
      go_loopw [5, 9, 10, 42] (fun v _ _ iv wr2 => ∃ (j : Nat) (ps : List PairX), j ≤ xs.length ∧ iv = .int .i64 (j : Int) ∧ Hid (SmK n₁ W3 st ⟨ra, rac, xs, rb, rbc, ys⟩ j ps v wr2)) (fun _ _ _ iv _ => xs.length - (intOf iv).toNat)
      case atStart => exact ⟨0, [], Nat.zero_le _, rfl, HI0⟩
      case round =>
        clear HI0
        obtain ⟨j, ps, hj, rfl, HI⟩ := hrel
        have j0 : (0 : Int) ≤ (j : Int) := by omega
        have hbs := HI.out.lay
        have hbel := HI.out.below
        have hO := HI.out.own
        by_cases hlt : j < xs.length
        · have j1 : (j : Int) < (xs.length : Int) := by omega
          have hlt2 : j < ys.length := by omega
          have j2 : (j : Int) < (ys.length : Int) := by omega
          rcases HK13.out.agree (QB.liesP _) (fun b hb => hbel.block b hb) hbel.size with h | ⟨kb, ko, rfl, hkb, hc⟩
          · omega
          rcases HK23.out.agree (QB.liesP _) (fun b hb => hbel.block b hb) hbel.size with h | ⟨kb2, ko2, rfl, hkb2, hc2⟩
          · omega
          obtain ⟨akd, asp, anm, axa, axn, axc, atx, aka, akc, a0, a1, a2, a3, a4, a5, hakk⟩ := (hc.get j hlt).parts2 QB.slice
          obtain ⟨bkd, bsp, bnm, bxa, bxn, bxc, btx, bka, bkc, b0, b1, b2, b3, b4, b5, hbkk⟩ := (hc2.get j hlt2).parts2 QB.slice
          have Hst : Hid ((zk xs ys).take (j + 1) = (zk xs ys).take j ++ [(kidsE (xs[j]'hlt), kidsE (ys[j]'hlt2))]) := zk_step xs ys j hlt hlt2
          have Hak : Hid (KidsIn (QB n₁) (· < n₁) wr aka (kidsE (xs[j]'hlt))) := hakk
          have Hbk : Hid (KidsIn (QB n₁) (· < n₁) wr bka (kidsE (ys[j]'hlt2))) := hbkk
          have Hla := light_kids (HL1.out.get _ (List.getElem_mem hlt))
          have Hlb := light_kids (HL2.out.get _ (List.getElem_mem hlt2))
          generalize hkx : kidsE (xs[j]'hlt) = kx at *
          generalize hky : kidsE (ys[j]'hlt2) = ky at *
          have hlen : (st ++ ps).length = k + ps.length := by rw [List.length_append, hks]
          have hpsl : ps.length = j := by
            have h1 := congrArg List.length HI.out.rows
            rw [List.length_map, List.length_take] at h1
            simp only at h1
            rw [zk_len he] at h1
            omega
          rw [hlen, hpsl] at hO
          have hu : ∃ ua uc, u5 = .slice ua (k + j) uc := by
            rcases hO.2 with ⟨h, h'⟩ | ⟨g', c', _, h, _⟩
            · exact ⟨_, _, by rw [h, h']⟩
            · exact ⟨_, _, h⟩
          obtain ⟨ua, uc, rfl⟩ := hu
          have hnx := elsN_len xs
          have hone : ∀ y ∈ [Value.slice aka kx.length akc, .slice bka ky.length bkc], y.oneCell' = true := by simp [Value.oneCell']
          have h63 : k + j + 1 ≤ maxLen := by unfold maxLen; omega
          have hbyt : (k + j + 1) * 48 ≤ 140737488355328 := by omega
          clear hc hc2 hakk hbkk hlen
          have hbe : Below wr.heap.size wr (wr.alloc (.cells #[.int .i64 akd, .int .i64 asp, .string anm, .slice axa axn axc, .string atx, .slice aka kx.length akc] 31)) := (Below.refl _ wr).alloc (Nat.le_refl _) _
          have hs6 : (wr.alloc (.cells #[.int .i64 akd, .int .i64 asp, .string anm, .slice axa axn axc, .string atx, .slice aka kx.length akc] 31)).heap.size = wr.heap.size + 1 := by simp
          have hO6 := hO.alloc (.cells #[.int .i64 akd, .int .i64 asp, .string anm, .slice axa axn axc, .string atx, .slice aka kx.length akc] 31)
          have f5 : (wr.alloc (.cells #[.int .i64 akd, .int .i64 asp, .string anm, .slice axa axn axc, .string atx, .slice aka kx.length akc] 31)).cell? ⟨wr.heap.size, 5, none⟩ = some (.slice aka kx.length akc) := by simp
          have g5 := keep_cell hbe b5
          have hne := fun b hb => hO.lt b hb
          go_wp2_with fail
          clear a0 a1 a2 a3 a4 a5 b0 b1 b2 b3 b4 b5 hO m0 m1
          generalize (wr.alloc (.cells #[.int .i64 akd, .int .i64 asp, .string anm, .slice axa axn axc, .string atx, .slice aka kx.length akc] 31)) = W6 at *
          have hlt6 : wr.heap.size < W6.heap.size := by omega
          have hltk : kb2 < W6.heap.size := by omega
          have n1 : (Value.slice ua (k + j) uc).ownBlock ≠ some wr.heap.size := fun h => by have := (hne _ h).2; omega
          have n2 : (Value.slice ua (k + j) uc).ownBlock ≠ some kb2 := fun h => by have := (hne _ h).1; omega
          have HI' := HI
          have Hs6 : Hid (W6.heap.size = wr.heap.size + 1) := hs6
          have hs7 : n₁ ≤ W6.heap.size := by omega
          clear HI hne hnx hs6
          generalize hb6 : wr.heap.size = b6 at *
          go_region_held3 (fun w' => w'.cell? ⟨b6, 5, none⟩ = some (.slice aka kx.length akc) ∧ w'.cell? ⟨kb2, ko2 + j * 6 + 5, none⟩ = some (.slice bka ky.length bkc))
            (first
              | go_keep
              | (go_split_ands
                 refine ⟨?_, ?_⟩
                 · (rw [hgrow.cell_far _ (by simp; omega) (Ne.symm n1)]; assumption)
                 · (rw [hgrow.cell_far _ (by simp; omega) (Ne.symm n2)]; assumption)))
            ((refine step_append_lies _ (by rfl) _ _ _ (by rfl) n₁ 48 i0 _ 2 48 Try.underlying49 hi hz0 hz1 hz2 rfl (by omega) (.slice ua (k + j) uc) (k + j) _ (by rfl) ((hO6.alloc _).drew)
                ⟨W6.heap.size, 0, none⟩ 1 1 [.slice aka kx.length akc, .slice bka ky.length bkc] (by rfl) (by rfl) (World.news_of_block (cs := #[.slice aka kx.length akc, .slice bka ky.length bkc]) (t := 48) (fr := (0, 0)) (heap_alloc_new W6 _)) hone
                (by omega) h63 hbyt (by simp; omega) (W6.heap.size + 1) (by simp) ?_; intro gg cap6 w7 hown7 hgrow hat hlt7))
          have hbW : Below n₁ W6 w7 := grown_below ((hO6.alloc (.cells #[.slice aka kx.length akc, .slice bka ky.length bkc] 48)).drew) (((Below.refl n₁ W6).alloc hs7 _).drew) (Nat.le_refl _) hgrow (by simp; omega)
          have hb7 : Below n₁ wr w7 := (hbe.mono hbs).trans hbW
          have HI3 : Hid (SmK n₁ W3 st ⟨some ⟨kb, ko, none⟩, rac, xs, some ⟨kb2, ko2, none⟩, rbc, ys⟩ (j + 1) (ps ++ [(⟨aka, akc, kx, bka, bkc, ky⟩ : PairX)]) (.slice (some ⟨gg, 0, none⟩) (k + j + 1) cap6) w7) := by
            refine ⟨?_, ?_, ?_, hbel.trans hb7, by have := hb7.size; omega⟩
            · rw [← List.append_assoc, pairCs_append, List.length_append, List.length_append, hks, hpsl]
              exact hown7
            · rw [List.map_append, HI'.out.rows]
              exact Hst.out.symm
            · intro q hq
              rcases List.mem_append.1 hq with hq | hq
              · have h := HI'.out.kids q hq
                exact ⟨⟨h.1.1.agree (QB.liesP _) (fun b hb => hb7.block b hb) hb7.size, h.1.2.agree (QB.liesP _) (fun b hb => hb7.block b hb) hb7.size⟩, h.2⟩
              · simp only [List.mem_singleton] at hq
                subst hq
                exact ⟨⟨Hak.out.agree (QB.liesP _) (fun b hb => hb7.block b hb) hb7.size, Hbk.out.agree (QB.liesP _) (fun b hb => hb7.block b hb) hb7.size⟩, ⟨Hla.1, Hlb.1⟩, Hla.2, Hlb.2⟩
          clear hgrow hown7 hat hbW hb7 HI' hO6
          go_wp2_with fail
          go_roundw
          case rel => exact ⟨j + 1, _, by omega, by go_num, HI3⟩
          case measure => simp [intOf]; omega
        · have hje : j = xs.length := by omega
          subst hje
          have g1 : decide ((xs.length : Int) < (xs.length : Int)) = false := by simp
          have hrows := HI.out.rows
          simp only at hrows
          rw [← zk_len he, List.take_length] at hrows
          have hmap : (st ++ ps).map PairX.p = st.map PairX.p ++ zk xs ys := by rw [List.map_append, hrows]
          have HIn : Hid (∃ m, m < M ∧ SmI n₁ w R (elN e1 + 1) u5 wr m) := by
            have hwz := wP_zk xs ys
            have hwM := Hw.out
            have hwa := wP_append (st.map PairX.p) (zk xs ys)
            refine ⟨wP ((st ++ ps).map PairX.p), by rw [hmap]; omega, st ++ ps, hO, ?_, rfl, by rw [hmap]; omega, ?_, HB3.out.trans (hbel.mono hwn), hbs⟩
            · intro q hq
              rcases List.mem_append.1 hq with hq | hq
              · have h := HR3.out q hq
                exact ⟨⟨h.1.1.agree (QB.liesP _) (fun b hb => hbel.block b hb) hbel.size, h.1.2.agree (QB.liesP _) (fun b hb => hbel.block b hb) hbel.size⟩, h.2⟩
              · exact HI.out.kids q hq
            · rw [hmap, List.all_append, Hall2.out]
          clear HI hO hrows hmap HR3 Hw HK13 HK23 Hall2
          obtain ⟨m', hm', hI'⟩ := HIn.out
          have hlt' : μ (u5, wr) < M := Nat.lt_of_le_of_lt (Hμ.out (u5, wr) m' hI').2 hm'
          go_wp2_with fail
          go_roundw
          case rel => exact ⟨m', hI'⟩
          case measure =>
            show μ (_, _) < μ (_, _)
            rw [HM.out]
            exact hlt'

end Go.Proofs.Ytgpfekdfomlljaa.Sg
