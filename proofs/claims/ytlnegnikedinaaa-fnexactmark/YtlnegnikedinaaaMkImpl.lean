/- Contract of the program's Mark. -/
import Derived.Test.YtlnegnikedinaaaOpBx
import Derived.Test.YtlnegnikedinaaaMkP
namespace Go.Proofs.Ytlnegnikedinaaa.Sg
open Go.ChangeShapes Go.WideShapes Go.ChangeAt Go.RowKit

/-- The formats of a page in a box grow. -/
theorem BxS.growF {wr w' : World} {bp B : Nat} {iv ov fv v' : Value} {q : PgB} {zs : List Int} (h : BxS wr bp B iv ov fv q) (ho : w'.ownsRow B 3 1 v' zs.length (intCellsI zs)) (hg : wr.grownBy w' fv.ownBlock) (hb : ∀ b, v'.ownBlock = some b → fv.ownBlock = some b ∨ wr.heap.size ≤ b) :
    BxS (w'.setCell ⟨bp, 2, none⟩ v') bp B iv ov v' { q with fms := zs } ∧ Many 5 w' bp (fun i => [iv, ov, fv, .int .i64 q.hd, .int .i64 q.bd].getD i undef) ∧ Kb wr (w'.setCell ⟨bp, 2, none⟩ v') (fun b => b = bp ∨ B ≤ b) := by
  have hlo : ∀ b, fv.ownBlock = some b → B ≤ b := fun b e => by obtain ⟨L, h1, h2, h3, h4, h5, h6⟩ := h.own; exact (h5.lt b e).1
  have k : Kb wr w' (fun b => b = bp ∨ B ≤ b) := Kb.of_grown hg fun b e => .inr (hlo b e)
  have M : Many 5 w' bp (fun i => [iv, ov, fv, .int .i64 q.hd, .int .i64 q.bd].getD i undef) := h.box.kb (Kb.of_grown hg (S := fun b => B ≤ b) fun b e => hlo b e) (by have := h.low; omega)
  refine ⟨⟨(M.set (i := 2) v').cong fun i hi => ?_, (h.own.growF ho hg hb).kb (kb_low _ h.low), h.low⟩, M, k.trans (kb_set _ _ _ _ (.inl rfl))⟩
  match i, hi with
  | 0, _ => rfl
  | 1, _ => rfl
  | 2, _ => rfl
  | 3, _ => rfl
  | 4, _ => rfl

set_option maxRecDepth 20000 in
set_option maxHeartbeats 8000000 in
/-- The program's mark, into a box. -/
theorem implMarkInto (p : PgB) (iv ov fv : Value) (bp B : Nat) (w : World) (h : BxS w bp B iv ov fv p) (hB0 : B ≤ w.heap.size) (hf : p.fms.length ≤ 1099511627776) :
    Calls Try.prog 38 #[.pointer (some ⟨bp, 0, none⟩)] w fun e w' => (∃ v, e = .returned v) ∧ (∃ iv' ov' fv', BxS w' bp B iv' ov' fv' (markP p)) ∧ Kb w w' (fun b => b = bp ∨ B ≤ b) := by
  have HS : Hid (BxS w bp B iv ov fv p) := h
  obtain ⟨ia, ic, oa, oc, fa, fc, rfl, rfl, rfl⟩ := h.forms
  clear h
  obtain ⟨q0, q1, q2, q3, q4⟩ := Many.five HS.out.box
  by_cases hlen : p.fms.length < 120
  · have g1 : (p.fms.length : Int) < 120 := by omega
    have e : markP p = { p with fms := p.fms ++ [-1] } := if_pos hlen
    rw [e]
    clear e
    have f2 := (HS.out.box.2 2 (by omega)).2
    go_enter Try.func38, Try.ntmps38
    go_upto_region 1 with fail
    have S3' := HS.out.keep (al_below w (.cells #[.int .i64 (-1)] 3))
    have HO : Hid (RowE (w.alloc (.cells #[.int .i64 (-1)] 3)) B (.slice fa p.fms.length fc) (.slice fa p.fms.length fc) p.fms) := by
      obtain ⟨L, h1, h2, h3, h4, h5, h6⟩ := S3'.own
      exact ⟨h5, .inl rfl⟩
    have hB : B ≤ (w.alloc (.cells #[.int .i64 (-1)] 3)).heap.size := by simp; omega
    have hcell : (w.alloc (.cells #[.int .i64 (-1)] 3)).cell? ⟨w.heap.size, 0, none⟩ = some (.int .i64 (-1)) := by simp
    have HS3 : Hid (BxS (w.alloc (.cells #[.int .i64 (-1)] 3)) bp B (.slice ia p.its.length ic) (.slice oa p.opn.length oc) (.slice fa p.fms.length fc) p) := S3'
    clear S3'
    go_wp2_with (first
      | (at_builtin; refine wpList_append_mark _ rfl _ _ rfl B hB _ _ p.fms (-1) rfl HO.out w.heap.size 1 rfl hcell (by omega) ?_; intro xa xc w4 o4 g4 a4; obtain ⟨s4, m4, k4⟩ := HS3.out.growF (v' := .slice xa (p.fms.length + 1) xc) (zs := p.fms ++ [-1]) (by simpa using o4) g4 a4; have HS4 : Hid _ := s4; have HK4 : Hid _ := k4; have y2 := (m4.2 2 (by omega)).1; have y2f := (m4.2 2 (by omega)).2; simp only [List.getD_cons_zero, List.getD_cons_succ] at y2; clear s4 m4 k4 o4 g4 a4)
      | go_in)
    refine bodyPost_end (results_none rfl _ _ _) rfl ?_
    exact ⟨⟨_, rfl⟩, ⟨_, _, _, HS4.out⟩, (Kb.of_below (al_below w (.cells #[.int .i64 (-1)] 3)) _).trans HK4.out⟩
  · have g1 : ¬ (p.fms.length : Int) < 120 := by omega
    have e : markP p = p := if_neg hlen
    rw [e]
    go_enter Try.func38, Try.ntmps38
    go_wp2_with fail
    refine bodyPost_end (results_none rfl _ _ _) rfl ?_
    exact ⟨⟨_, rfl⟩, ⟨_, _, _, HS.out⟩, Kb.refl _ _⟩

set_option maxRecDepth 20000 in
set_option maxHeartbeats 8000000 in
theorem implMark (p : PgB) (v : Value) (B0 : Nat) (w : World) (hv : OwnPg w B0 v p) (hz : PgSize p) (hn : p.its.length ≤ 1073741824) :
    Calls Try.prog 17 #[v] w fun e w' => ∃ x', e = .returned x' ∧ OwnPg w' w.heap.size x' (markP p) ∧ Below w.heap.size w w' := by
  have HV : Hid (OwnPg w B0 v p) := hv
  obtain ⟨ia, ic, oa, oc, fa, fc, rfl, _⟩ := pg_of_own hv
  clear hv
  obtain ⟨W2, HW2⟩ : ∃ W2, Hid (W2 = ((w.alloc (.cells #[.slice ia p.its.length ic, .slice oa p.opn.length oc, .slice fa p.fms.length fc, .int .i64 p.hd, .int .i64 p.bd] 25)).alloc (.cells #[.slice none 0 0, .slice none 0 0, .slice none 0 0, .int .i64 0, .int .i64 0] 25))) := ⟨_, rfl⟩
  have M0 : Many 5 W2 w.heap.size (fun i => [Value.slice ia p.its.length ic, .slice oa p.opn.length oc, .slice fa p.fms.length fc, .int .i64 p.hd, .int .i64 p.bd].getD i undef) := by
    rw [HW2.out]
    exact (Many.new w [Value.slice ia p.its.length ic, .slice oa p.opn.length oc, .slice fa p.fms.length fc, .int .i64 p.hd, .int .i64 p.bd] 25 undef).below (B := w.heap.size + 1) (Nat.lt_succ_self _) ((Below.refl _ _).alloc (by simp) _)
  have M1 : Many 5 W2 (w.heap.size + 1) (fun i => [Value.slice none 0 0, .slice none 0 0, .slice none 0 0, .int .i64 0, .int .i64 0].getD i undef) := by
    rw [HW2.out]
    have h := Many.new (w.alloc (.cells #[.slice ia p.its.length ic, .slice oa p.opn.length oc, .slice fa p.fms.length fc, .int .i64 p.hd, .int .i64 p.bd] 25)) [Value.slice none 0 0, .slice none 0 0, .slice none 0 0, .int .i64 0, .int .i64 0] 25 undef
    rw [show (w.alloc (.cells #[.slice ia p.its.length ic, .slice oa p.opn.length oc, .slice fa p.fms.length fc, .int .i64 p.hd, .int .i64 p.bd] 25)).heap.size = w.heap.size + 1 by simp] at h
    exact h
  have B2 : Below w.heap.size w W2 := by rw [HW2.out]; exact ((Below.refl _ _).alloc (Nat.le_refl _) _).alloc (by simp) _
  have hs2 : W2.heap.size = w.heap.size + 1 + 1 := by rw [HW2.out]; simp
  have C1 := implCopyPage p _ B0 W2 (HV.out.keep B2) hn hz.2.1 hz.2.2.1 hz.2.2.2
  have HM0 : Hid (Many 5 W2 w.heap.size _) := M0
  have HM1 : Hid (Many 5 W2 (w.heap.size + 1) _) := M1
  have HB2 : Hid (Below w.heap.size w W2) := B2
  obtain ⟨R, HR⟩ : ∃ R, Hid (markP p = R) := ⟨_, rfl⟩
  rw [HR.out]
  clear M0 M1 B2
  go_enter Try.func17, Try.ntmps17
  go_wp2_with fail
  rw [← HW2.out]
  refine C1.mono ?_
  rintro e w1 ⟨x1, rfl, o1, b1⟩
  obtain ⟨ja, jc, na, nc, ma, mc, rfl, _⟩ := pg_of_own o1
  obtain ⟨jv, nv, mv, ej, o3⟩ := o1
  injection ej with ej
  simp at ej
  obtain ⟨rfl, rfl, rfl⟩ := ej
  have K0 := HM0.out.keep b1
  have K1 := HM1.out.keep b1
  obtain ⟨q0, q1, q2, q3, q4⟩ := Many.five K0
  have f0 := (K0.2 0 (by omega)).2
  have f1 := (K0.2 1 (by omega)).2
  have f2 := (K0.2 2 (by omega)).2
  have f3 := (K0.2 3 (by omega)).2
  have f4 := (K0.2 4 (by omega)).2
  clear C1
  go_upto_region 2 with fail
  obtain ⟨W3, HW3⟩ : ∃ W3, Hid (W3 = (((((w1.setCell ⟨w.heap.size, 0, none⟩ (.slice ja p.its.length jc)).setCell ⟨w.heap.size, 1, none⟩ (.slice na p.opn.length nc)).setCell ⟨w.heap.size, 2, none⟩ (.slice ma p.fms.length mc)).setCell ⟨w.heap.size, 3, none⟩ (.int .i64 p.hd)).setCell ⟨w.heap.size, 4, none⟩ (.int .i64 p.bd))) := ⟨_, rfl⟩
  rw [← HW3.out]
  have hs1 := b1.size
  have S3 : BxS W3 w.heap.size (w.heap.size + 1 + 1) (.slice ja p.its.length jc) (.slice na p.opn.length nc) (.slice ma p.fms.length mc) p := by
    rw [HW3.out]
    exact ⟨many_st5 K0 _ _ _ _ _, by rw [← hs2]; exact o3.kb (st5_kb (by omega)), by omega⟩
  have k13 : Kb w1 W3 (fun b => b = w.heap.size) := by
    rw [HW3.out]
    exact ((((kb_set _ _ _ _ (S := fun b => b = w.heap.size) rfl).trans (kb_set _ _ _ _ (S := fun b => b = w.heap.size) rfl)).trans (kb_set _ _ _ _ (S := fun b => b = w.heap.size) rfl)).trans (kb_set _ _ _ _ (S := fun b => b = w.heap.size) rfl)).trans (kb_set _ _ _ _ (S := fun b => b = w.heap.size) rfl)
  have N1 : Hid (Many 5 W3 (w.heap.size + 1) _) := K1.kb k13 (by omega)
  have HB3 : Hid (Below w.heap.size w W3 ∧ w.heap.size + 1 + 1 ≤ W3.heap.size) := ⟨(below_then HB2.out b1).trans (k13.below (by have := HB2.out.size; omega) fun b hb => by omega), by have := k13.size; omega⟩
  have C2 := implMarkInto p _ _ _ w.heap.size (w.heap.size + 1 + 1) W3 S3 HB3.out.2 hz.2.2.2
  rw [HR.out] at C2
  clear HM0 HM1 HB2 K0 K1 q0 q1 q2 q3 q4 f0 f1 f2 f3 f4 hs1 hs2 S3 k13 o3 b1 HW3 HW2 HR
  go_wp2_with fail
  refine C2.mono ?_
  rintro e w4 ⟨⟨v4, rfl⟩, ⟨iv4, ov4, fv4, s4⟩, k4⟩
  obtain ⟨xa, xc, ya, yc, za, zc, rfl, rfl, rfl⟩ := s4.forms
  have K1 := N1.out.kb k4 (by omega)
  obtain ⟨q0, q1, q2, q3, q4⟩ := Many.five s4.box
  obtain ⟨r0, r1, r2, r3, r4⟩ := Many.five K1
  have f0 := (K1.2 0 (by omega)).2
  have f1 := (K1.2 1 (by omega)).2
  have f2 := (K1.2 2 (by omega)).2
  have f3 := (K1.2 3 (by omega)).2
  have f4 := (K1.2 4 (by omega)).2
  have HT : Hid _ := st5_all (W := w4) (c := w.heap.size + 1) (x0 := .slice xa R.its.length xc) (x1 := .slice ya R.opn.length yc) (x2 := .slice za R.fms.length zc) (x3 := .int .i64 R.hd) (x4 := .int .i64 R.bd) (fun i hi => ⟨_, (K1.2 i hi).1⟩)
  have HP : Hid (OwnPg (((((w4.setCell ⟨w.heap.size + 1, 0, none⟩ (.slice xa R.its.length xc)).setCell ⟨w.heap.size + 1, 1, none⟩ (.slice ya R.opn.length yc)).setCell ⟨w.heap.size + 1, 2, none⟩ (.slice za R.fms.length zc)).setCell ⟨w.heap.size + 1, 3, none⟩ (.int .i64 R.hd)).setCell ⟨w.heap.size + 1, 4, none⟩ (.int .i64 R.bd)) w.heap.size (.agg #[.slice xa R.its.length xc, .slice ya R.opn.length yc, .slice za R.fms.length zc, .int .i64 R.hd, .int .i64 R.bd]) R) :=
    ⟨_, _, _, rfl, (s4.own.kb (st5_kb (by omega))).base (by omega)⟩
  have HBF : Hid (Below w.heap.size w (((((w4.setCell ⟨w.heap.size + 1, 0, none⟩ (.slice xa R.its.length xc)).setCell ⟨w.heap.size + 1, 1, none⟩ (.slice ya R.opn.length yc)).setCell ⟨w.heap.size + 1, 2, none⟩ (.slice za R.fms.length zc)).setCell ⟨w.heap.size + 1, 3, none⟩ (.int .i64 R.hd)).setCell ⟨w.heap.size + 1, 4, none⟩ (.int .i64 R.bd))) :=
    st5_below (Nat.le_succ _) (HB3.out.1.trans (k4.below (by have := HB3.out.2; omega) fun b hb => by omega))
  have n01 : w.heap.size ≠ w.heap.size + 1 := by omega
  have n10 : w.heap.size + 1 ≠ w.heap.size := by omega
  clear K1 N1 HB3 s4 k4 C2
  generalize w.heap.size + 1 = c1 at *
  go_wp2_with fail
  refine bodyPost_ret (v := .agg #[.slice xa R.its.length xc, .slice ya R.opn.length yc, .slice za R.fms.length zc, .int .i64 R.hd, .int .i64 R.bd]) ?_ rfl ⟨_, rfl, HP.out, HBF.out⟩
  obtain ⟨t0, t1, t2, t3, t4⟩ := HT.out
  simp [results, Try.results17, go_sem, t0, t1, t2, t3, t4]

end Go.Proofs.Ytlnegnikedinaaa.Sg
