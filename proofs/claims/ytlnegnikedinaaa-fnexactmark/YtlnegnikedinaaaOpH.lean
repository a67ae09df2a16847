/- Contract of the program's copyPage. -/
import Derived.Test.YtlnegnikedinaaaOpF
import Derived.Test.YtlnegnikedinaaaOpG
import Derived.Test.YtlnegnikedinaaaCpPopP
namespace Go.Proofs.Ytlnegnikedinaaa.Sg
open Go.ChangeShapes Go.WideShapes Go.ChangeAt Go.RowKit

theorem kb_low {W : World} {c i H : Nat} (x : Value) (h : c < H) : Kb W (W.setCell ⟨c, i, none⟩ x) (fun b => b < H) := kb_set W c i x h
theorem own_late {w w' : World} {B H : Nat} {e : TypeId} {z : Nat} {v : Value} {n : Nat} {xs : List Value} (h : w.ownsRow B e z v n xs) (hB : H ≤ B) (hk : Kb w w' (fun b => b < H)) : w'.ownsRow B e z v n xs :=
  hk.owns h fun b hb hlt => by have := (h.lt b hb).1; omega

set_option maxRecDepth 20000 in
set_option maxHeartbeats 8000000 in
theorem implCopyPage (p : PgB) (v : Value) (B0 : Nat) (w : World) (hv : OwnPg w B0 v p) (hn : p.its.length ≤ 1073741824) (hat : ∀ t ∈ p.its, t.ats.length ≤ 1099511627776 ∧ t.kids.length ≤ 1099511627776) (ho : p.opn.length ≤ 1099511627776) (hf : p.fms.length ≤ 1099511627776) :
    Calls Try.prog 36 #[v] w fun e w' => ∃ x', e = .returned x' ∧ OwnPg w' w.heap.size x' p ∧ Below w.heap.size w w' := by
  obtain ⟨its, opn, fms, hd, bd⟩ := p
  simp only at *
  obtain ⟨iv, ov, fv, rfl, L, hL, hi, hie, hO, hF, -⟩ := hv
  simp only at hL hO hF ⊢
  have hI : OwnIts w B0 iv its := ⟨L, hL, hi, hie⟩
  clear hi hie hL L
  obtain ⟨ia, ic, rfl⟩ : ∃ a c, iv = .slice a its.length c := by obtain ⟨a, c, h, _⟩ := its_of_own hI; exact ⟨a, c, h⟩
  obtain ⟨oa, oc, rfl⟩ := own_form hO
  obtain ⟨fa, fc, rfl⟩ := own_form hF
  obtain ⟨W2, HW2⟩ : ∃ W2, Hid (W2 = ((w.alloc (.cells #[.slice ia its.length ic, .slice oa opn.length oc, .slice fa fms.length fc, .int .i64 hd, .int .i64 bd] 25)).alloc (.cells #[.slice none 0 0, .slice none 0 0, .slice none 0 0, .int .i64 0, .int .i64 0] 25))) := ⟨_, rfl⟩
  have M0 : Many 5 W2 w.heap.size (fun i => [Value.slice ia its.length ic, .slice oa opn.length oc, .slice fa fms.length fc, .int .i64 hd, .int .i64 bd].getD i undef) := by
    rw [HW2.out]
    exact (Many.new w [Value.slice ia its.length ic, .slice oa opn.length oc, .slice fa fms.length fc, .int .i64 hd, .int .i64 bd] 25 undef).below (B := w.heap.size + 1) (Nat.lt_succ_self _) ((Below.refl _ _).alloc (by simp) _)
  have M1 : Many 5 W2 (w.heap.size + 1) (fun i => [Value.slice none 0 0, .slice none 0 0, .slice none 0 0, .int .i64 0, .int .i64 0].getD i undef) := by
    rw [HW2.out]
    have h := Many.new (w.alloc (.cells #[.slice ia its.length ic, .slice oa opn.length oc, .slice fa fms.length fc, .int .i64 hd, .int .i64 bd] 25)) [Value.slice none 0 0, .slice none 0 0, .slice none 0 0, .int .i64 0, .int .i64 0] 25 undef
    rw [show (w.alloc (.cells #[.slice ia its.length ic, .slice oa opn.length oc, .slice fa fms.length fc, .int .i64 hd, .int .i64 bd] 25)).heap.size = w.heap.size + 1 by simp] at h
    exact h
  have B2 : Below w.heap.size w W2 := by rw [HW2.out]; exact ((Below.refl _ _).alloc (Nat.le_refl _) _).alloc (by simp) _
  have hs2 : W2.heap.size = w.heap.size + 1 + 1 := by rw [HW2.out]; simp
  have C1 := implCopyItems its _ B0 W2 (hI.keep B2) hn hat
  have ko : Hid (W2.ownsRow B0 3 1 (.slice oa opn.length oc) opn.length (intCellsI opn)) := owns_below hO (Nat.le_refl _) B2
  have kf : Hid (W2.ownsRow B0 3 1 (.slice fa fms.length fc) fms.length (intCellsI fms)) := owns_below hF (Nat.le_refl _) B2
  have lo : Hid (∀ b, (Value.slice oa opn.length oc).ownBlock = some b → b < w.heap.size) := fun b hb => (hO.lt b hb).2
  have lf : Hid (∀ b, (Value.slice fa fms.length fc).ownBlock = some b → b < w.heap.size) := fun b hb => (hF.lt b hb).2
  have HM0 : Hid (Many 5 W2 w.heap.size _) := M0
  have HM1 : Hid (Many 5 W2 (w.heap.size + 1) _) := M1
  have HB2 : Hid (Below w.heap.size w W2) := B2
  clear hI hO hF hat M0 M1 B2
  go_enter Try.func36, Try.ntmps36
  go_wp2_with fail
  rw [← HW2.out]
  refine C1.mono ?_
  rintro e w1 ⟨v1, rfl, o1, b1⟩
  obtain ⟨ja, jc, rfl⟩ : ∃ a c, v1 = .slice a its.length c := by obtain ⟨a, c, h, _⟩ := its_of_own o1; exact ⟨a, c, h⟩
  have K0 := HM0.out.keep b1
  have K1 := HM1.out.keep b1
  have x0 := (K0.2 0 (by omega)).1
  have f0 := (K0.2 0 (by omega)).2
  simp at x0
  go_upto_region 2 with fail
  obtain ⟨W3, HW3⟩ : ∃ W3, Hid (W3 = w1.setCell ⟨w.heap.size, 0, none⟩ (.slice ja its.length jc)) := ⟨_, rfl⟩
  rw [← HW3.out]
  have hs3 : W3.heap.size = w1.heap.size := by rw [HW3.out]; simp
  have hs1 := b1.size
  have M0' := K0.set (i := 0) (.slice ja its.length jc)
  rw [← HW3.out] at M0'
  have M0 : Hid (Many 5 W3 w.heap.size _) := M0'
  clear M0'
  have M1' := K1.other (i := 0) (show w.heap.size ≠ w.heap.size + 1 by omega) (.slice ja its.length jc)
  rw [← HW3.out] at M1'
  have M1 : Hid (Many 5 W3 (w.heap.size + 1) _) := M1'
  clear M1'
  have k13 : Hid (Kb w1 W3 (fun b => b < w.heap.size + 1 + 1)) := by rw [HW3.out]; exact kb_low _ (by omega)
  have k23 : Kb W2 W3 (fun b => b = w.heap.size) := by rw [HW3.out]; exact (Kb.of_below b1 _).trans (kb_set _ _ _ _ rfl)
  have HB3 : Hid (Below w.heap.size w W3) := by show Below _ _ _; rw [HW3.out]; exact (below_then HB2.out b1).setCell (p := ⟨w.heap.size, 0, none⟩) (Nat.le_refl _) _
  have C2 := implCopied opn _ B0 W3 (k23.owns ko.out fun b hb e => by have := lo.out b hb; omega) ho
  have kf3 : Hid (W3.ownsRow B0 3 1 (.slice fa fms.length fc) fms.length (intCellsI fms)) := k23.owns kf.out fun b hb e => by have := lf.out b hb; omega
  have O1 : Hid (OwnIts w1 W2.heap.size (.slice ja its.length jc) its) := o1
  have Hs3 : Hid (W3.heap.size = w1.heap.size ∧ W2.heap.size ≤ w1.heap.size ∧ W2.heap.size = w.heap.size + 1 + 1) := ⟨hs3, hs1, hs2⟩
  have y1 := (M0.out.2 1 (by omega)).1
  simp at y1
  clear HM0 HM1 HB2 ko kf lo K0 K1 x0 f0 hs3 hs1 b1 o1 C1 k23 hs2 HW3 HW2
  go_wp2_with fail
  refine C2.mono ?_
  rintro e w4 ⟨v2, rfl, o2, b4⟩
  obtain ⟨na, nc, rfl⟩ := own_form o2
  have K0 := M0.out.keep b4
  have K1 := M1.out.keep b4
  have x1 := (K0.2 1 (by omega)).1
  have f1 := (K0.2 1 (by omega)).2
  simp at x1
  clear y1 C2
  go_upto_region 3 with fail
  obtain ⟨W5, HW5⟩ : ∃ W5, Hid (W5 = w4.setCell ⟨w.heap.size, 1, none⟩ (.slice na opn.length nc)) := ⟨_, rfl⟩
  rw [← HW5.out]
  have hs5 : W5.heap.size = w4.heap.size := by rw [HW5.out]; simp
  have hs4 := b4.size
  have N0' := K0.set (i := 1) (.slice na opn.length nc)
  rw [← HW5.out] at N0'
  have N0 : Hid (Many 5 W5 w.heap.size _) := N0'
  clear N0'
  have N1' := K1.other (i := 1) (show w.heap.size ≠ w.heap.size + 1 by omega) (.slice na opn.length nc)
  rw [← HW5.out] at N1'
  have N1 : Hid (Many 5 W5 (w.heap.size + 1) _) := N1'
  clear N1'
  have k45 : Hid (Kb w4 W5 (fun b => b < w.heap.size + 1 + 1)) := by rw [HW5.out]; exact kb_low _ (by omega)
  have k35 : Kb W3 W5 (fun b => b = w.heap.size) := by rw [HW5.out]; exact (Kb.of_below b4 _).trans (kb_set _ _ _ _ rfl)
  have k15 : Hid (Kb w1 W5 (fun b => b < w.heap.size + 1 + 1)) := (k13.out.trans (Kb.of_below b4 _)).trans k45.out
  have HB5 : Hid (Below w.heap.size w W5) := by show Below _ _ _; rw [HW5.out]; exact (below_then HB3.out b4).setCell (p := ⟨w.heap.size, 1, none⟩) (Nat.le_refl _) _
  have C3 := implCopied fms _ B0 W5 (k35.owns kf3.out fun b hb e => by have := lf.out b hb; omega) hf
  have O2 : Hid (w4.ownsRow W3.heap.size 3 1 (.slice na opn.length nc) opn.length (intCellsI opn)) := o2
  have Hs5 : Hid (W5.heap.size = w4.heap.size ∧ W3.heap.size ≤ w4.heap.size) := ⟨hs5, hs4⟩
  have y2 := (N0.out.2 2 (by omega)).1
  simp at y2
  clear M0 M1 HB3 kf3 lf K0 K1 x1 f1 hs5 hs4 b4 o2 k35 HW5 k13
  go_wp2_with fail
  refine C3.mono ?_
  rintro e w6 ⟨v3, rfl, o3, b6⟩
  obtain ⟨ma, mc, rfl⟩ := own_form o3
  clear y2 C3
  have K0 := N0.out.keep b6
  have K1 := N1.out.keep b6
  have y0 := (K0.2 0 (by omega)).1
  have y1 := (K0.2 1 (by omega)).1
  have y2 := (K0.2 2 (by omega)).1
  have y3 := (K0.2 3 (by omega)).1
  have y4 := (K0.2 4 (by omega)).1
  have f2 := (K0.2 2 (by omega)).2
  have r0 := (K1.2 0 (by omega)).1
  have r1 := (K1.2 1 (by omega)).1
  have r2 := (K1.2 2 (by omega)).1
  have r3 := (K1.2 3 (by omega)).1
  have r4 := (K1.2 4 (by omega)).1
  have s0 := (K1.2 0 (by omega)).2
  have s1 := (K1.2 1 (by omega)).2
  have s2 := (K1.2 2 (by omega)).2
  have s3 := (K1.2 3 (by omega)).2
  have s4 := (K1.2 4 (by omega)).2
  simp at y0 y1 y2 y3 y4 r0 r1 r2 r3 r4
  have HT : Hid _ := st5_all (W := w6.setCell ⟨w.heap.size, 2, none⟩ (.slice ma fms.length mc)) (c := w.heap.size + 1) (x0 := .slice ja its.length jc) (x1 := .slice na opn.length nc) (x2 := .slice ma fms.length mc) (x3 := .int .i64 hd) (x4 := .int .i64 bd) (fun i hi => ⟨_, ((K1.other (i := 2) (show w.heap.size ≠ w.heap.size + 1 by omega) (.slice ma fms.length mc)).2 i hi).1⟩)
  have kF : Kb w6 (((((((w6.setCell ⟨w.heap.size, 2, none⟩ (.slice ma fms.length mc)).setCell ⟨w.heap.size + 1, 0, none⟩ (.slice ja its.length jc)).setCell ⟨w.heap.size + 1, 1, none⟩ (.slice na opn.length nc)).setCell ⟨w.heap.size + 1, 2, none⟩ (.slice ma fms.length mc)).setCell ⟨w.heap.size + 1, 3, none⟩ (.int .i64 hd)).setCell ⟨w.heap.size + 1, 4, none⟩ (.int .i64 bd))) (fun b => b < w.heap.size + 1 + 1) := (kb_low _ (by omega)).trans (st5_kb (by omega))
  have HBF : Hid (Below w.heap.size w (((((((w6.setCell ⟨w.heap.size, 2, none⟩ (.slice ma fms.length mc)).setCell ⟨w.heap.size + 1, 0, none⟩ (.slice ja its.length jc)).setCell ⟨w.heap.size + 1, 1, none⟩ (.slice na opn.length nc)).setCell ⟨w.heap.size + 1, 2, none⟩ (.slice ma fms.length mc)).setCell ⟨w.heap.size + 1, 3, none⟩ (.int .i64 hd)).setCell ⟨w.heap.size + 1, 4, none⟩ (.int .i64 bd)))) := st5_below (Nat.le_succ _) ((below_then HB5.out b6).setCell (p := ⟨w.heap.size, 2, none⟩) (Nat.le_refl _) _)
  have HP : Hid (OwnPg (((((((w6.setCell ⟨w.heap.size, 2, none⟩ (.slice ma fms.length mc)).setCell ⟨w.heap.size + 1, 0, none⟩ (.slice ja its.length jc)).setCell ⟨w.heap.size + 1, 1, none⟩ (.slice na opn.length nc)).setCell ⟨w.heap.size + 1, 2, none⟩ (.slice ma fms.length mc)).setCell ⟨w.heap.size + 1, 3, none⟩ (.int .i64 hd)).setCell ⟨w.heap.size + 1, 4, none⟩ (.int .i64 bd))) w.heap.size (.agg #[.slice ja its.length jc, .slice na opn.length nc, .slice ma fms.length mc, .int .i64 hd, .int .i64 bd]) ⟨its, opn, fms, hd, bd⟩) := by
    obtain ⟨L, g1, g2, g3⟩ := O1.out
    obtain ⟨e1, e2, e3⟩ := Hs3.out
    obtain ⟨e4, e5⟩ := Hs5.out
    have k1F := (k15.out.trans (Kb.of_below b6 _)).trans kF
    have k4F := (k45.out.trans (Kb.of_below b6 _)).trans kF
    refine ⟨_, _, _, rfl, L, g1, own_mono (own_late g2 (by omega) k1F) (by omega), ⟨fun q hq => ⟨own_mono (own_late (g3.1 q hq).1 (by omega) k1F) (by omega), own_mono (own_late (g3.1 q hq).2 (by omega) k1F) (by omega)⟩, g3.2⟩, own_mono (own_late O2.out (by omega) k4F) (by omega), own_mono (own_late o3 (by omega) kF) (by omega), ⟨fun b hb e => ?_, fun q hq b hb => ⟨fun e => ?_, fun e => ?_⟩⟩⟩
    · have h1 := (O2.out.lt b hb).2
      have h2 := (o3.lt b e).1
      omega
    · have h1 := ((g3.1 q hq).2.lt b hb).2
      have h2 := (O2.out.lt b e).1
      omega
    · have h1 := ((g3.1 q hq).2.lt b hb).2
      have h2 := (o3.lt b e).1
      omega
  have n01 : w.heap.size ≠ w.heap.size + 1 := by omega
  have n10 : w.heap.size + 1 ≠ w.heap.size := by omega
  clear K0 K1 N0 N1 kF k45 k15 HB5 O1 O2 o3 b6 Hs3 Hs5
  generalize w.heap.size + 1 = c1 at *
  go_wp2_with fail
  refine bodyPost_ret (v := .agg #[.slice ja its.length jc, .slice na opn.length nc, .slice ma fms.length mc, .int .i64 hd, .int .i64 bd]) ?_ rfl ⟨_, rfl, HP.out, HBF.out⟩
  obtain ⟨t0, t1, t2, t3, t4⟩ := HT.out
  simp [results, Try.results36, go_sem, t0, t1, t2, t3, t4]

end Go.Proofs.Ytlnegnikedinaaa.Sg
