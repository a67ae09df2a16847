/- Contract of the model's Mark. -/
import Derived.Test.YtlnegnikedinaaaCpPageN
namespace Go.Proofs.Ytlnegnikedinaaa.Sg
open Go.ChangeShapes Go.WideShapes Go.ChangeAt Go.RowKit

theorem OwnPgE.pg {w : World} {B : Nat} {iv ov fv : Value} {p : PgB} (h : OwnPgE w B iv ov fv p) : PgAt w (.agg #[iv, ov, fv, .int .i64 p.hd, .int .i64 p.bd]) p := by
  obtain ⟨ov', fv', h1, h2, h3⟩ := h
  obtain ⟨ia, ic, oa, oc, fa, fc, e, a1, a2, a3⟩ := pg_of_own ⟨iv, ov', fv', rfl, h1⟩
  injection e with e
  simp at e
  obtain ⟨rfl, rfl, rfl⟩ := e
  rcases h2 with rfl | ⟨e2, -, g2, rfl⟩
  · rcases h3 with rfl | ⟨e3, -, g3, rfl⟩
    · exact ⟨_, _, _, _, _, _, rfl, a1, a2, a3⟩
    · exact ⟨_, _, _, _, some ⟨g3, 0, none⟩, 0, by rw [e3]; rfl, a1, a2, ⟨.inl e3, by rw [e3]; exact Nat.le_refl _⟩⟩
  · rcases h3 with rfl | ⟨e3, -, g3, rfl⟩
    · exact ⟨_, _, some ⟨g2, 0, none⟩, 0, _, _, by rw [e2]; rfl, a1, ⟨.inl e2, by rw [e2]; exact Nat.le_refl _⟩, a3⟩
    · exact ⟨_, _, some ⟨g2, 0, none⟩, 0, some ⟨g3, 0, none⟩, 0, by rw [e2, e3]; rfl, a1, ⟨.inl e2, by rw [e2]; exact Nat.le_refl _⟩, ⟨.inl e3, by rw [e3]; exact Nat.le_refl _⟩⟩
theorem pg_type : (25 : Nat) ≠ 50 ∧ (25 : Nat) ≠ 84 ∧ (25 : Nat) ≠ 3 := by decide
/-- A page stays where nothing turns but a box and what is older. -/
theorem OwnPg3.past {w w' : World} {B c : Nat} {iv ov fv : Value} {p : PgB} {cs : Array Value} {f : Nat × Nat} (h : OwnPg3 w B iv ov fv p) (hp : w.heap[c]? = some (.cells cs 25 f)) (hk : Kb w w' (fun b => b = c ∨ b < B)) : OwnPg3 w' B iv ov fv p := by
  obtain ⟨L, h1, h2, h3, h4, h5, h6⟩ := h
  have go : ∀ {e : TypeId} {z : Nat} {v : Value} {n : Nat} {xs : List Value}, (25 : Nat) ≠ e → w.ownsRow B e z v n xs → w'.ownsRow B e z v n xs := fun hne hr => hk.owns hr fun b hb hS => by
    rcases hS with rfl | hS
    · exact owns_not hr hp hne hb
    · have := (hr.lt b hb).1; omega
  exact ⟨L, h1, go pg_type.1 h2, ⟨fun q hq => ⟨go pg_type.2.1 (h3.1 q hq).1, go pg_type.2.2 (h3.1 q hq).2⟩, h3.2⟩, go pg_type.2.2 h4, go pg_type.2.2 h5, h6⟩
theorem OwnPgE.past {w w' : World} {B c : Nat} {iv ov fv : Value} {p : PgB} {cs : Array Value} {f : Nat × Nat} (h : OwnPgE w B iv ov fv p) (hp : w.heap[c]? = some (.cells cs 25 f)) (hk : Kb w w' (fun b => b = c ∨ b < B)) : OwnPgE w' B iv ov fv p := by
  obtain ⟨ov', fv', h1, h2⟩ := h
  exact ⟨ov', fv', h1.past hp hk, h2⟩
theorem OwnPgE.keep {w w' : World} {B : Nat} {iv ov fv : Value} {p : PgB} (h : OwnPgE w B iv ov fv p) (hb : Below w.heap.size w w') : OwnPgE w' B iv ov fv p := by
  obtain ⟨ov', fv', h1, h2⟩ := h
  exact ⟨ov', fv', h1.keep hb, h2⟩

set_option maxRecDepth 20000 in
set_option maxHeartbeats 8000000 in
theorem specMark (p : PgB) (v : Value) (B0 : Nat) (w : World) (hv : OwnPg w B0 v p) (hz : PgSize p) (hn : p.its.length ≤ 1073741824) :
    Calls Try.prog 16 #[v] w fun e w' => ∃ x', e = .returned x' ∧ PgAt w' x' (markP p) ∧ Below w.heap.size w w' := by
  obtain ⟨iv0, ov0, fv0, rfl, o0⟩ := hv
  obtain ⟨L, h1, h2, h3, h4, h5, h6⟩ := o0
  obtain ⟨ia, ic, rfl, _⟩ := its_of_own (l := p.its) ⟨L, h1, h2, h3⟩
  obtain ⟨oa, oc, rfl⟩ := own_form h4
  obtain ⟨fa, fc, rfl⟩ := own_form h5
  obtain ⟨W2, HW2⟩ : ∃ W2, Hid (W2 = ((w.alloc (.cells #[.slice ia p.its.length ic, .slice oa p.opn.length oc, .slice fa p.fms.length fc, .int .i64 p.hd, .int .i64 p.bd] 25)).alloc (.cells #[.slice none 0 0, .slice none 0 0, .slice none 0 0, .int .i64 0, .int .i64 0] 25))) := ⟨_, rfl⟩
  have M0 : Many 5 W2 w.heap.size (fun i => [Value.slice ia p.its.length ic, .slice oa p.opn.length oc, .slice fa p.fms.length fc, .int .i64 p.hd, .int .i64 p.bd].getD i undef) := by
    rw [HW2.out]
    exact (Many.new w [Value.slice ia p.its.length ic, .slice oa p.opn.length oc, .slice fa p.fms.length fc, .int .i64 p.hd, .int .i64 p.bd] 25 undef).below (B := w.heap.size + 1) (Nat.lt_succ_self _) ((Below.refl _ _).alloc (by simp) _)
  have M1 : Many 5 W2 (w.heap.size + 1) (fun i => [Value.slice none 0 0, .slice none 0 0, .slice none 0 0, .int .i64 0, .int .i64 0].getD i undef) := by
    rw [HW2.out]
    have h := Many.new (w.alloc (.cells #[.slice ia p.its.length ic, .slice oa p.opn.length oc, .slice fa p.fms.length fc, .int .i64 p.hd, .int .i64 p.bd] 25)) [Value.slice none 0 0, .slice none 0 0, .slice none 0 0, .int .i64 0, .int .i64 0] 25 undef
    rw [show (w.alloc (.cells #[.slice ia p.its.length ic, .slice oa p.opn.length oc, .slice fa p.fms.length fc, .int .i64 p.hd, .int .i64 p.bd] 25)).heap.size = w.heap.size + 1 by simp] at h
    exact h
  have B2 : Below w.heap.size w W2 := by rw [HW2.out]; exact ((Below.refl _ _).alloc (Nat.le_refl _) _).alloc (by simp) _
  have hs2 : W2.heap.size = w.heap.size + 1 + 1 := by rw [HW2.out]; simp
  have C1 := specCopyPageN p _ _ _ B0 W2 (OwnIts.keep ⟨L, h1, h2, h3⟩ B2) (ints_of_own (owns_below h4 (Nat.le_refl _) B2)) (ints_of_own (owns_below h5 (Nat.le_refl _) B2)) hn hz.2.1 hz.2.2.1 hz.2.2.2
  have HM0 : Hid (Many 5 W2 w.heap.size _) := M0
  have HM1 : Hid (Many 5 W2 (w.heap.size + 1) _) := M1
  have HB2 : Hid (Below w.heap.size w W2 ∧ W2.heap.size = w.heap.size + 1 + 1) := ⟨B2, hs2⟩
  have hfl := hz.2.2.2
  clear M0 M1 B2 hz h1 h2 h3 h4 h5 h6 L hs2
  obtain ⟨R, HR⟩ : ∃ R, Hid (markP p = R) := ⟨_, rfl⟩
  rw [HR.out]
  go_enter Try.func16, Try.ntmps16
  go_wp2_with fail
  rw [← HW2.out]
  refine C1.mono ?_
  rintro e w1 ⟨iv, ov, fv, rfl, o1, b1⟩
  obtain ⟨ja, jc, na, nc, ma, mc, ej, _⟩ := o1.pg
  injection ej with ej
  simp at ej
  obtain ⟨rfl, rfl, rfl⟩ := ej
  have K0 := HM0.out.keep b1
  have K1 := HM1.out.keep b1
  have HB1 : Hid (Below w.heap.size w w1 ∧ w.heap.size + 1 + 1 ≤ w1.heap.size) := ⟨below_then HB2.out.1 b1, by have := b1.size; have := HB2.out.2; omega⟩
  clear C1 HW2
  go_upto_region 2 with fail
  obtain ⟨W3, HW3⟩ : ∃ W3, Hid (W3 = w1.alloc (.cells #[.slice ja p.its.length jc, .slice na p.opn.length nc, .slice ma p.fms.length mc, .int .i64 p.hd, .int .i64 p.bd] 25)) := ⟨_, rfl⟩
  rw [← HW3.out]
  have hb3 : Below w1.heap.size w1 W3 := by rw [HW3.out]; exact al_below _ _
  have hc3 : Hid (W3.heap[w1.heap.size]? = some (.cells #[.slice ja p.its.length jc, .slice na p.opn.length nc, .slice ma p.fms.length mc, .int .i64 p.hd, .int .i64 p.bd] 25)) := by show _ = _; rw [HW3.out]; exact (MapKept.heap_alloc _ _).1
  have M3 : Hid (Many 5 W3 w1.heap.size (fun i => [Value.slice ja p.its.length jc, .slice na p.opn.length nc, .slice ma p.fms.length mc, .int .i64 p.hd, .int .i64 p.bd].getD i undef)) := by
    show Many _ _ _ _
    rw [HW3.out]
    exact Many.new w1 [Value.slice ja p.its.length jc, .slice na p.opn.length nc, .slice ma p.fms.length mc, .int .i64 p.hd, .int .i64 p.bd] 25 undef
  have N0 : Hid (Many 5 W3 w.heap.size _) := K0.keep hb3
  have N1 : Hid (Many 5 W3 (w.heap.size + 1) _) := K1.keep hb3
  have O3 : Hid (OwnPgE W3 (w.heap.size + 1 + 1) (.slice ja p.its.length jc) (.slice na p.opn.length nc) (.slice ma p.fms.length mc) p) := by have h := o1.keep hb3; rw [HB2.out.2] at h; exact h
  have HB3 : Hid (Below w.heap.size w W3 ∧ w1.heap.size < W3.heap.size ∧ w.heap.size + 1 + 1 ≤ w1.heap.size) := ⟨below_then HB1.out.1 hb3, M3.out.1, HB1.out.2⟩
  have n20 : w1.heap.size ≠ w.heap.size := by have := HB1.out.2; omega
  have n21 : w1.heap.size ≠ w.heap.size + 1 := by have := HB1.out.2; omega
  have n10 : w.heap.size + 1 ≠ w.heap.size := by omega
  have n01 : w.heap.size ≠ w.heap.size + 1 := by omega
  clear HM0 HM1 HB2 HB1 K0 K1 o1 b1 HW3 hb3
  generalize w1.heap.size = c2 at *
  obtain ⟨q0, q1, q2, q3, q4⟩ := Many.five N0.out
  obtain ⟨z0, z1, z2, z3, z4⟩ := Many.five M3.out
  by_cases hlen : p.fms.length < 120
  · have g1 : (p.fms.length : Int) < 120 := by omega
    obtain rfl : R = { p with fms := p.fms ++ [-1] } := HR.out.symm.trans (if_pos hlen)
    clear HR
    have hsA : (W3.alloc (.cells #[.int .i64 (-1)] 3)).heap.size = W3.heap.size + 1 := by simp
    obtain ⟨ov', fv', o3, eo, ef⟩ := O3.out.keep (al_below W3 (.cells #[.int .i64 (-1)] 3))
    have HO3 : Hid (OwnPg3 (W3.alloc (.cells #[.int .i64 (-1)] 3)) (w.heap.size + 1 + 1) (.slice ja p.its.length jc) ov' fv' p) := o3
    have HEo : Hid (Value.slice na p.opn.length nc = ov' ∨ p.opn = [] ∧ ov' = .slice none 0 0 ∧ ∃ g, Value.slice na p.opn.length nc = .slice (some ⟨g, 0, none⟩) 0 0) := eo
    have HO : Hid (RowE (W3.alloc (.cells #[.int .i64 (-1)] 3)) (w.heap.size + 1 + 1) (.slice ma p.fms.length mc) fv' p.fms) := by
      obtain ⟨L, h1, h2, h3, h4, h5, h6⟩ := o3
      exact ⟨h5, ef⟩
    have hB : w.heap.size + 1 + 1 ≤ (W3.alloc (.cells #[.int .i64 (-1)] 3)).heap.size := by have := HB3.out; omega
    have hcell : (W3.alloc (.cells #[.int .i64 (-1)] 3)).cell? ⟨W3.heap.size, 0, none⟩ = some (.int .i64 (-1)) := by simp
    have HlF : Hid (∀ b, fv'.ownBlock = some b → w.heap.size + 1 + 1 ≤ b ∧ b ≠ c2) := fun b hb => ⟨(HO.out.1.lt b hb).1, fun e => owns_not HO.out.1 ((Below.heap_alloc _ _ _ HB3.out.2.1).trans hc3.out) pg_type.2.2 (by rw [← e]; exact hb)⟩
    clear o3 eo ef O3
    go_upto_region 3 with fail
    go_upto_region 4 with (first
      | (at_builtin; refine wpList_append_mark _ rfl _ _ rfl (w.heap.size + 1 + 1) hB _ _ p.fms (-1) rfl HO.out W3.heap.size 1 rfl hcell (by omega) ?_; intro xa xc w4 o4 g4 a4; have HK4 : Hid (Kb (W3.alloc (.cells #[.int .i64 (-1)] 3)) w4 (fun b => w.heap.size + 1 + 1 ≤ b ∧ b ≠ c2)) := Kb.of_grown g4 HlF.out; have HO4 : Hid (OwnPgE w4 (w.heap.size + 1 + 1) (.slice ja p.its.length jc) (.slice na p.opn.length nc) (.slice xa (p.fms.length + 1) xc) { p with fms := p.fms ++ [-1] }) := ⟨ov', _, HO3.out.growF (v' := .slice xa (p.fms.length + 1) xc) (zs := p.fms ++ [-1]) (by simpa using o4) g4 a4, HEo.out, .inl rfl⟩; have M4 : Hid (Many 5 w4 c2 _) := (M3.out.keep (al_below _ _)).kb HK4.out (fun h => h.2 rfl); have y2 := (M4.out.2 2 (by omega)).1; have y2f := (M4.out.2 2 (by omega)).2; simp only [List.getD_cons_zero, List.getD_cons_succ] at y2; clear o4 g4 a4)
      | go_in)
    have hc4 : Hid (w4.heap[c2]? = some _) := (HK4.out.block c2 (by have := HB3.out.2.1; omega) (fun h => h.2 rfl)).trans ((Below.heap_alloc _ _ _ HB3.out.2.1).trans hc3.out)
    have N4 : Hid (Many 5 (w4.setCell ⟨c2, 2, none⟩ (.slice xa (p.fms.length + 1) xc)) (w.heap.size + 1) (fun i => [Value.slice none 0 0, .slice none 0 0, .slice none 0 0, .int .i64 0, .int .i64 0].getD i undef)) := ((N1.out.keep (al_below _ _)).kb HK4.out (by omega)).other n21 _
    have P4 : Hid (Many 5 (w4.setCell ⟨c2, 2, none⟩ (.slice xa (p.fms.length + 1) xc)) c2 (fun i => [Value.slice ja p.its.length jc, .slice na p.opn.length nc, .slice xa (p.fms.length + 1) xc, .int .i64 p.hd, .int .i64 p.bd].getD i undef)) := (M4.out.set (i := 2) _).cong fun i hi => by
      match i, hi with
      | 0, _ => rfl
      | 1, _ => rfl
      | 2, _ => rfl
      | 3, _ => rfl
      | 4, _ => rfl
    have HB4 : Hid (Below w.heap.size w (w4.setCell ⟨c2, 2, none⟩ (.slice xa (p.fms.length + 1) xc))) := Below.setCell ((below_then HB3.out.1 (al_below _ _)).trans (HK4.out.below (by have := HB3.out; omega) fun b hb => by omega)) (p := ⟨c2, 2, none⟩) (by have := HB3.out; show _ ≤ c2; omega) _
    have LST : Hid (∀ W', Kb (w4.setCell ⟨c2, 2, none⟩ (.slice xa (p.fms.length + 1) xc)) W' (fun b => b < w.heap.size + 1 + 1) → PgAt W' (.agg #[.slice ja p.its.length jc, .slice na p.opn.length nc, .slice xa (p.fms.length + 1) xc, .int .i64 p.hd, .int .i64 p.bd]) { p with fms := p.fms ++ [-1] }) := fun W' hk =>
      (HO4.out.past hc4.out ((kb_set _ _ _ _ (S := fun b => b = c2 ∨ b < w.heap.size + 1 + 1) (.inl rfl)).trans (hk.more fun b hb => .inr hb))).pg
    generalize w4.setCell ⟨c2, 2, none⟩ (.slice xa (p.fms.length + 1) xc) = W4 at *
    clear y2 y2f q0 q1 q2 q3 q4 z0 z1 z2 z3 z4 HO HO3 HEo hB hcell HlF HK4 HO4 M4 hc4 hc3 M3 N0 N1 HB3 hsA
    obtain ⟨q0, q1, q2, q3, q4⟩ := Many.five P4.out
    obtain ⟨r0, r1, r2, r3, r4⟩ := Many.five N4.out
    have f0 := (N4.out.2 0 (by omega)).2
    have f1 := (N4.out.2 1 (by omega)).2
    have f2 := (N4.out.2 2 (by omega)).2
    have f3 := (N4.out.2 3 (by omega)).2
    have f4 := (N4.out.2 4 (by omega)).2
    have HT : Hid _ := st5_all (W := W4) (c := w.heap.size + 1) (x0 := .slice ja p.its.length jc) (x1 := .slice na p.opn.length nc) (x2 := .slice xa (p.fms.length + 1) xc) (x3 := .int .i64 p.hd) (x4 := .int .i64 p.bd) (fun i hi => ⟨_, (N4.out.2 i hi).1⟩)
    have HP : Hid _ := LST.out _ (st5_kb (W := W4) (c := w.heap.size + 1) (x0 := .slice ja p.its.length jc) (x1 := .slice na p.opn.length nc) (x2 := .slice xa (p.fms.length + 1) xc) (x3 := .int .i64 p.hd) (x4 := .int .i64 p.bd) (by omega))
    have HBF : Hid _ := st5_below (w := w) (W := W4) (c := w.heap.size + 1) (x0 := .slice ja p.its.length jc) (x1 := .slice na p.opn.length nc) (x2 := .slice xa (p.fms.length + 1) xc) (x3 := .int .i64 p.hd) (x4 := .int .i64 p.bd) (Nat.le_succ _) HB4.out
    clear LST N4 P4 HB4
    generalize w.heap.size + 1 = c1 at *
    go_wp2_with fail
    refine bodyPost_ret (v := .agg #[.slice ja p.its.length jc, .slice na p.opn.length nc, .slice xa (p.fms.length + 1) xc, .int .i64 p.hd, .int .i64 p.bd]) ?_ rfl ⟨_, rfl, HP.out, HBF.out⟩
    obtain ⟨t0, t1, t2, t3, t4⟩ := HT.out
    simp [results, Try.results16, go_sem, t0, t1, t2, t3, t4]
  · have g1 : ¬ (p.fms.length : Int) < 120 := by omega
    obtain rfl : R = p := HR.out.symm.trans (if_neg hlen)
    clear HR
    obtain ⟨r0, r1, r2, r3, r4⟩ := Many.five N1.out
    have f0 := (N1.out.2 0 (by omega)).2
    have f1 := (N1.out.2 1 (by omega)).2
    have f2 := (N1.out.2 2 (by omega)).2
    have f3 := (N1.out.2 3 (by omega)).2
    have f4 := (N1.out.2 4 (by omega)).2
    have HT : Hid _ := st5_all (W := W3) (c := w.heap.size + 1) (x0 := .slice ja R.its.length jc) (x1 := .slice na R.opn.length nc) (x2 := .slice ma R.fms.length mc) (x3 := .int .i64 R.hd) (x4 := .int .i64 R.bd) (fun i hi => ⟨_, (N1.out.2 i hi).1⟩)
    have HP : Hid _ := (O3.out.past hc3.out ((st5_kb (W := W3) (c := w.heap.size + 1) (H := w.heap.size + 1 + 1) (x0 := .slice ja R.its.length jc) (x1 := .slice na R.opn.length nc) (x2 := .slice ma R.fms.length mc) (x3 := .int .i64 R.hd) (x4 := .int .i64 R.bd) (by omega)).more fun b hb => .inr hb)).pg
    have HBF : Hid _ := st5_below (w := w) (W := W3) (c := w.heap.size + 1) (x0 := .slice ja R.its.length jc) (x1 := .slice na R.opn.length nc) (x2 := .slice ma R.fms.length mc) (x3 := .int .i64 R.hd) (x4 := .int .i64 R.bd) (Nat.le_succ _) HB3.out.1
    clear O3 hc3 N0 N1 HB3 M3
    generalize w.heap.size + 1 = c1 at *
    go_wp2_with fail
    refine bodyPost_ret (v := .agg #[.slice ja R.its.length jc, .slice na R.opn.length nc, .slice ma R.fms.length mc, .int .i64 R.hd, .int .i64 R.bd]) ?_ rfl ⟨_, rfl, HP.out, HBF.out⟩
    obtain ⟨t0, t1, t2, t3, t4⟩ := HT.out
    simp [results, Try.results16, go_sem, t0, t1, t2, t3, t4]

end Go.Proofs.Ytlnegnikedinaaa.Sg
