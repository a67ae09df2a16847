/- The laws' items, laid anew. -/
import Derived.Test.YtlnegnikedinaaaLwIt
import Derived.Test.YtlnegnikedinaaaLwTo3
import Derived.Test.YtlnegnikedinaaaSgInts
import Derived.Test.YtlnegnikedinaaaGMany
namespace Go.Proofs.Ytlnegnikedinaaa.Sg
open Go.ChangeShapes Go.WideShapes Go.ChangeAt Go.RowKit

theorem row_own {w : World} {B g : Nat} {e : TypeId} {zs : List Int} (hB : B ≤ g) (hm : zs.length ≤ maxLen) (h : w.rowIs g e zs.length (fun i => .int .i64 (zs.getD i 0))) : w.ownsRow B e 1 (.slice (some ⟨g, 0, none⟩) zs.length zs.length) zs.length (intCellsI zs) :=
  own_of_list hB hm (by rw [Nat.mul_one]; exact h) (by unfold intCellsI; rw [List.length_map, Nat.mul_one]) (fun j hj => by
    rw [Nat.mul_one] at hj
    unfold intCellsI
    simp [List.getD, hj])

set_option maxRecDepth 20000 in
set_option maxHeartbeats 8000000 in
theorem toItem_any (t : ItB) (sv kv : Value) (w : World) (hs : SlAttrsIn w sv t.ats) (hi : SlInts w kv t.kids) (hn : t.ats.length ≤ 1099511627776) (hk : t.kids.length ≤ 1099511627776) :
    Calls Try.prog 41 #[.agg (itV (t, sv, kv)).toArray] w fun e w' => ∃ sv' kv', e = .returned (.agg (itV (t, sv', kv')).toArray) ∧ w'.ownsRow w.heap.size 84 2 sv' t.ats.length (attrCells t.ats) ∧ w'.ownsRow w.heap.size 3 1 kv' t.kids.length (intCellsI t.kids) ∧ Below w.heap.size w w' := by
  obtain ⟨kd, sp, nm, at', tx, up, kids⟩ := t
  obtain ⟨a, cap, rfl, hA⟩ := hs
  obtain ⟨ka, kc, rfl, hI⟩ := hi
  simp only at hn hk hA hI
  have HA : Hid (∀ W, Below w.heap.size w W → Calls Try.prog 56 #[.slice a at'.length cap] W fun e w' => e = .returned (.slice (some ⟨W.heap.size, 0, none⟩) at'.length at'.length) ∧ w'.ownsRow W.heap.size 84 2 (.slice (some ⟨W.heap.size, 0, none⟩) at'.length at'.length) at'.length (attrCells at') ∧ Below W.heap.size W w') := fun W hW => toAttrS_any at' a at'.length cap W (hA.keep hW) rfl hn
  have HI : Hid (∀ W, Below w.heap.size w W → Calls Try.prog 35 #[.slice ka kids.length kc] W fun e w' => e = .returned (.slice (some ⟨W.heap.size, 0, none⟩) kids.length kids.length) ∧ w'.rowIs W.heap.size 3 kids.length (fun i => .int .i64 (kids.getD i 0)) ∧ Below W.heap.size W w') := fun W hW => toIntS_any kids ka kc W (hI.below (Nat.le_refl _) hW) (by omega)
  clear hA hI
  simp only [itV]
  go_enter Try.func41, Try.ntmps41
  go_wp2_with fail
  refine (HA.out _ ?_).mono ?_
  · exact (((Below.refl _ _).alloc (Nat.le_refl _) _).alloc (by simp) _).alloc (by simp; omega) _
  rintro e w1 ⟨rfl, o1, b1⟩
  have e1 : (w.alloc (.cells #[.int .i64 kd, .int .i64 sp, .string nm, .slice a at'.length cap, .string tx, .int .i64 up, .slice ka kids.length kc] 61)).heap.size = w.heap.size + 1 := by simp
  have e2 : ((w.alloc (.cells #[.int .i64 kd, .int .i64 sp, .string nm, .slice a at'.length cap, .string tx, .int .i64 up, .slice ka kids.length kc] 61)).alloc (.cells #[.int .i64 0, .int .i64 0, .string ⟨#[]⟩, .slice none 0 0, .string ⟨#[]⟩, .int .i64 0, .slice none 0 0] 50)).heap.size = w.heap.size + 1 + 1 := by simp
  have e3 : (((w.alloc (.cells #[.int .i64 kd, .int .i64 sp, .string nm, .slice a at'.length cap, .string tx, .int .i64 up, .slice ka kids.length kc] 61)).alloc (.cells #[.int .i64 0, .int .i64 0, .string ⟨#[]⟩, .slice none 0 0, .string ⟨#[]⟩, .int .i64 0, .slice none 0 0] 50)).alloc (.cells #[.int .i64 kd, .int .i64 sp, .string nm, .slice none 0 0, .string ⟨#[]⟩, .int .i64 0, .slice none 0 0] 50)).heap.size = w.heap.size + 1 + 1 + 1 := by simp
  have F0 : Many 7 w1 w.heap.size (fun i => [Value.int .i64 kd, .int .i64 sp, .string nm, .slice a at'.length cap, .string tx, .int .i64 up, .slice ka kids.length kc].getD i undef) :=
    ((Many.new w [.int .i64 kd, .int .i64 sp, .string nm, .slice a at'.length cap, .string tx, .int .i64 up, .slice ka kids.length kc] 61 undef).below (B := w.heap.size + 1) (Nat.lt_succ_self _) (((Below.refl _ _).alloc (by rw [e1]; exact Nat.le_refl _) _).alloc (by rw [e2]; omega) _)).below (by rw [e3]; omega) b1
  have F1 : Many 7 w1 (w.heap.size + 1) (fun i => [Value.int .i64 0, .int .i64 0, .string ⟨#[]⟩, .slice none 0 0, .string ⟨#[]⟩, .int .i64 0, .slice none 0 0].getD i undef) := by
    have h := Many.new (w.alloc (.cells #[.int .i64 kd, .int .i64 sp, .string nm, .slice a at'.length cap, .string tx, .int .i64 up, .slice ka kids.length kc] 61)) [.int .i64 0, .int .i64 0, .string ⟨#[]⟩, .slice none 0 0, .string ⟨#[]⟩, .int .i64 0, .slice none 0 0] 50 undef
    rw [e1] at h
    exact (h.below (B := w.heap.size + 1 + 1) (Nat.lt_succ_self _) ((Below.refl _ _).alloc (by rw [e2]; exact Nat.le_refl _) _)).below (by rw [e3]; omega) b1
  have F2 : Many 7 w1 (w.heap.size + 1 + 1) (fun i => [Value.int .i64 kd, .int .i64 sp, .string nm, .slice none 0 0, .string ⟨#[]⟩, .int .i64 0, .slice none 0 0].getD i undef) := by
    have h := Many.new ((w.alloc (.cells #[.int .i64 kd, .int .i64 sp, .string nm, .slice a at'.length cap, .string tx, .int .i64 up, .slice ka kids.length kc] 61)).alloc (.cells #[.int .i64 0, .int .i64 0, .string ⟨#[]⟩, .slice none 0 0, .string ⟨#[]⟩, .int .i64 0, .slice none 0 0] 50)) [.int .i64 kd, .int .i64 sp, .string nm, .slice none 0 0, .string ⟨#[]⟩, .int .i64 0, .slice none 0 0] 50 undef
    rw [e2] at h
    exact h.below (by rw [e3]; omega) b1
  have bW : Below w.heap.size w w1 := ((((Below.refl _ _).alloc (Nat.le_refl _) _).alloc (by simp) _).alloc (by simp; omega) _).trans (b1.mono (by simp; omega))
  have hs1 : w.heap.size + 1 + 1 + 1 ≤ w1.heap.size := by have := b1.size; rw [e3] at this; exact this
  rw [e3] at o1 ⊢
  have o2 := own_mono (B := w.heap.size) o1 (by omega)
  clear b1 e1 e2 e3 HA o1
  have HE : Hid (w.heap.size < w.heap.size + 1 ∧ w.heap.size + 1 < w.heap.size + 1 + 1 ∧ w.heap.size + 1 + 1 < w.heap.size + 1 + 1 + 1) := by
    show _ ∧ _ ∧ _
    omega
  generalize w.heap.size + 1 + 1 + 1 = c3 at *
  generalize w.heap.size + 1 + 1 = c2 at *
  generalize w.heap.size + 1 = c1 at *
  have x4 := (F0.2 4 (by omega)).1
  have x5 := (F0.2 5 (by omega)).1
  have x6 := (F0.2 6 (by omega)).1
  have y3 := (F2.2 3 (by omega)).1
  have y4 := (F2.2 4 (by omega)).1
  have y5 := (F2.2 5 (by omega)).1
  have z3 := (F2.2 3 (by omega)).2
  have z4 := (F2.2 4 (by omega)).2
  have z5 := (F2.2 5 (by omega)).2
  simp only [List.getD_cons_zero, List.getD_cons_succ] at x4 x5 x6 y3 y4 y5
  have n02 : w.heap.size ≠ c2 := by have := HE.out; omega
  have n20 : c2 ≠ w.heap.size := Ne.symm n02
  have n12 : c1 ≠ c2 := by have := HE.out; omega
  have n21 : c2 ≠ c1 := Ne.symm n12
  have n32 : c3 ≠ c2 := by have := HE.out; omega
  have n31 : c3 ≠ c1 := by have := HE.out; omega
  have l1 : w.heap.size ≤ c1 := by have := HE.out; omega
  have l2 : w.heap.size ≤ c2 := by have := HE.out; omega
  have HF0 : Hid (Many 7 (((w1.setCell ⟨c2, 3, none⟩ (.slice (some ⟨c3, 0, none⟩) at'.length at'.length)).setCell ⟨c2, 4, none⟩ (.string tx)).setCell ⟨c2, 5, none⟩ (.int .i64 up)) w.heap.size _) := ((F0.other n20 _).other n20 _).other n20 _
  have HF1 : Hid (Many 7 (((w1.setCell ⟨c2, 3, none⟩ (.slice (some ⟨c3, 0, none⟩) at'.length at'.length)).setCell ⟨c2, 4, none⟩ (.string tx)).setCell ⟨c2, 5, none⟩ (.int .i64 up)) c1 _) := ((F1.other n21 _).other n21 _).other n21 _
  have HF2 : Hid (Many 7 (((w1.setCell ⟨c2, 3, none⟩ (.slice (some ⟨c3, 0, none⟩) at'.length at'.length)).setCell ⟨c2, 4, none⟩ (.string tx)).setCell ⟨c2, 5, none⟩ (.int .i64 up)) c2 _) := ((F2.set (i := 3) _).set (i := 4) _).set (i := 5) _
  have HB : Hid (Below w.heap.size w (((w1.setCell ⟨c2, 3, none⟩ (.slice (some ⟨c3, 0, none⟩) at'.length at'.length)).setCell ⟨c2, 4, none⟩ (.string tx)).setCell ⟨c2, 5, none⟩ (.int .i64 up))) := ((bW.setCell (p := ⟨c2, 3, none⟩) l2 _).setCell (p := ⟨c2, 4, none⟩) l2 _).setCell (p := ⟨c2, 5, none⟩) l2 _
  have HO : Hid (World.ownsRow (((w1.setCell ⟨c2, 3, none⟩ (.slice (some ⟨c3, 0, none⟩) at'.length at'.length)).setCell ⟨c2, 4, none⟩ (.string tx)).setCell ⟨c2, 5, none⟩ (.int .i64 up)) w.heap.size 84 2 (.slice (some ⟨c3, 0, none⟩) at'.length at'.length) at'.length (attrCells at')) := owns_grown o2 (grown_trans (grown_trans (grown_set w1 c2 3 _) (grown_set _ c2 4 _)) (grown_set _ c2 5 _)) (fun b hb h => by cases hb; exact n32 (Option.some.inj h).symm)
  clear F0 F1 F2 o2
  go_wp2_with fail
  refine (HI.out _ HB.out).mono ?_
  rintro e w2 ⟨rfl, r2, b2⟩
  clear x4 x5 x6 y3 y4 y5 z3 z4 z5
  obtain ⟨W, HW⟩ : ∃ W, Hid (W = ((w1.setCell ⟨c2, 3, none⟩ (.slice (some ⟨c3, 0, none⟩) at'.length at'.length)).setCell ⟨c2, 4, none⟩ (.string tx)).setCell ⟨c2, 5, none⟩ (.int .i64 up)) := ⟨_, rfl⟩
  rw [← HW.out] at HF0 HF1 HF2 HB HO r2 b2 ⊢
  clear HW
  have lg1 : c1 < W.heap.size := HF1.out.1
  have lg2 : c2 < W.heap.size := HF2.out.1
  have lgw : w.heap.size ≤ W.heap.size := HB.out.size
  have G1 := HF1.out.below lg1 b2
  have G2 := HF2.out.below lg2 b2
  have ob := owns_below HO.out (Nat.le_refl _) b2
  have ok0 := row_own (B := w.heap.size) (e := 3) (zs := kids) lgw (by unfold maxLen; omega) r2
  have bw2 : Below w.heap.size w w2 := HB.out.trans (b2.mono lgw)
  have hsz2 := b2.size
  clear HF0 HF1 HF2 HB HO r2 b2
  generalize W.heap.size = g at *
  have ng1 : g ≠ c1 := Nat.ne_of_gt lg1
  have ng2 : g ≠ c2 := Nat.ne_of_gt lg2
  have y0 := (G2.2 0 (by omega)).1
  have y1 := (G2.2 1 (by omega)).1
  have y2 := (G2.2 2 (by omega)).1
  have y3 := (G2.2 3 (by omega)).1
  have y4 := (G2.2 4 (by omega)).1
  have y5 := (G2.2 5 (by omega)).1
  have y6 := (G2.2 6 (by omega)).1
  have z6 := (G2.2 6 (by omega)).2
  have r0 := (G1.2 0 (by omega)).1
  have r1 := (G1.2 1 (by omega)).1
  have r2 := (G1.2 2 (by omega)).1
  have r3 := (G1.2 3 (by omega)).1
  have r4 := (G1.2 4 (by omega)).1
  have r5 := (G1.2 5 (by omega)).1
  have r6 := (G1.2 6 (by omega)).1
  have s0 := (G1.2 0 (by omega)).2
  have s1 := (G1.2 1 (by omega)).2
  have s2 := (G1.2 2 (by omega)).2
  have s3 := (G1.2 3 (by omega)).2
  have s4 := (G1.2 4 (by omega)).2
  have s5 := (G1.2 5 (by omega)).2
  have s6 := (G1.2 6 (by omega)).2
  simp at y0 y1 y2 y3 y4 y5 y6 r0 r1 r2 r3 r4 r5 r6
  have HFF : Hid (Many 7 ((((((((w2.setCell ⟨c2, 6, none⟩ (.slice (some ⟨g, 0, none⟩) kids.length kids.length)).setCell ⟨c1, 0, none⟩ (.int .i64 kd)).setCell ⟨c1, 1, none⟩ (.int .i64 sp)).setCell ⟨c1, 2, none⟩ (.string nm)).setCell ⟨c1, 3, none⟩ (.slice (some ⟨c3, 0, none⟩) at'.length at'.length)).setCell ⟨c1, 4, none⟩ (.string tx)).setCell ⟨c1, 5, none⟩ (.int .i64 up)).setCell ⟨c1, 6, none⟩ (.slice (some ⟨g, 0, none⟩) kids.length kids.length)) c1 _) := ((((((((G1.other n21 (i := 6) (.slice (some ⟨g, 0, none⟩) kids.length kids.length)).set (i := 0) (.int .i64 kd)).set (i := 1) (.int .i64 sp)).set (i := 2) (.string nm)).set (i := 3) (.slice (some ⟨c3, 0, none⟩) at'.length at'.length)).set (i := 4) (.string tx)).set (i := 5) (.int .i64 up)).set (i := 6) (.slice (some ⟨g, 0, none⟩) kids.length kids.length))
  have oa2 := owns_grown ob (grown_set w2 c2 6 (.slice (some ⟨g, 0, none⟩) kids.length kids.length)) (fun b hb h => by cases hb; exact n32 (Option.some.inj h).symm)
  have oa3 := owns_grown oa2 (grown_trans (grown_trans (grown_trans (grown_trans (grown_trans (grown_trans (grown_set _ c1 0 (.int .i64 kd)) (grown_set _ c1 1 (.int .i64 sp))) (grown_set _ c1 2 (.string nm))) (grown_set _ c1 3 (.slice (some ⟨c3, 0, none⟩) at'.length at'.length))) (grown_set _ c1 4 (.string tx))) (grown_set _ c1 5 (.int .i64 up))) (grown_set _ c1 6 (.slice (some ⟨g, 0, none⟩) kids.length kids.length))) (fun b hb h => by cases hb; exact n31 (Option.some.inj h).symm)
  have HOA : Hid (World.ownsRow ((((((((w2.setCell ⟨c2, 6, none⟩ (.slice (some ⟨g, 0, none⟩) kids.length kids.length)).setCell ⟨c1, 0, none⟩ (.int .i64 kd)).setCell ⟨c1, 1, none⟩ (.int .i64 sp)).setCell ⟨c1, 2, none⟩ (.string nm)).setCell ⟨c1, 3, none⟩ (.slice (some ⟨c3, 0, none⟩) at'.length at'.length)).setCell ⟨c1, 4, none⟩ (.string tx)).setCell ⟨c1, 5, none⟩ (.int .i64 up)).setCell ⟨c1, 6, none⟩ (.slice (some ⟨g, 0, none⟩) kids.length kids.length)) w.heap.size 84 2 (.slice (some ⟨c3, 0, none⟩) at'.length at'.length) at'.length (attrCells at')) := oa3
  have ok2 := owns_grown ok0 (grown_set w2 c2 6 (.slice (some ⟨g, 0, none⟩) kids.length kids.length)) (fun b hb h => by cases hb; exact ng2 (Option.some.inj h).symm)
  have ok3 := owns_grown ok2 (grown_trans (grown_trans (grown_trans (grown_trans (grown_trans (grown_trans (grown_set _ c1 0 (.int .i64 kd)) (grown_set _ c1 1 (.int .i64 sp))) (grown_set _ c1 2 (.string nm))) (grown_set _ c1 3 (.slice (some ⟨c3, 0, none⟩) at'.length at'.length))) (grown_set _ c1 4 (.string tx))) (grown_set _ c1 5 (.int .i64 up))) (grown_set _ c1 6 (.slice (some ⟨g, 0, none⟩) kids.length kids.length))) (fun b hb h => by cases hb; exact ng1 (Option.some.inj h).symm)
  have HOK : Hid (World.ownsRow ((((((((w2.setCell ⟨c2, 6, none⟩ (.slice (some ⟨g, 0, none⟩) kids.length kids.length)).setCell ⟨c1, 0, none⟩ (.int .i64 kd)).setCell ⟨c1, 1, none⟩ (.int .i64 sp)).setCell ⟨c1, 2, none⟩ (.string nm)).setCell ⟨c1, 3, none⟩ (.slice (some ⟨c3, 0, none⟩) at'.length at'.length)).setCell ⟨c1, 4, none⟩ (.string tx)).setCell ⟨c1, 5, none⟩ (.int .i64 up)).setCell ⟨c1, 6, none⟩ (.slice (some ⟨g, 0, none⟩) kids.length kids.length)) w.heap.size 3 1 (.slice (some ⟨g, 0, none⟩) kids.length kids.length) kids.length (intCellsI kids)) := ok3
  have HBB : Below w.heap.size w ((((((((w2.setCell ⟨c2, 6, none⟩ (.slice (some ⟨g, 0, none⟩) kids.length kids.length)).setCell ⟨c1, 0, none⟩ (.int .i64 kd)).setCell ⟨c1, 1, none⟩ (.int .i64 sp)).setCell ⟨c1, 2, none⟩ (.string nm)).setCell ⟨c1, 3, none⟩ (.slice (some ⟨c3, 0, none⟩) at'.length at'.length)).setCell ⟨c1, 4, none⟩ (.string tx)).setCell ⟨c1, 5, none⟩ (.int .i64 up)).setCell ⟨c1, 6, none⟩ (.slice (some ⟨g, 0, none⟩) kids.length kids.length)) := ((((((((bw2.setCell (p := ⟨c2, 6, none⟩) l2 (.slice (some ⟨g, 0, none⟩) kids.length kids.length)).setCell (p := ⟨c1, 0, none⟩) l1 (.int .i64 kd)).setCell (p := ⟨c1, 1, none⟩) l1 (.int .i64 sp)).setCell (p := ⟨c1, 2, none⟩) l1 (.string nm)).setCell (p := ⟨c1, 3, none⟩) l1 (.slice (some ⟨c3, 0, none⟩) at'.length at'.length)).setCell (p := ⟨c1, 4, none⟩) l1 (.string tx)).setCell (p := ⟨c1, 5, none⟩) l1 (.int .i64 up)).setCell (p := ⟨c1, 6, none⟩) l1 (.slice (some ⟨g, 0, none⟩) kids.length kids.length))
  clear G1 G2 ob oa2 oa3 ok0 ok2 ok3 bw2
  go_wp2_with fail
  refine bodyPost_ret (v := .agg #[.int .i64 kd, .int .i64 sp, .string nm, .slice (some ⟨c3, 0, none⟩) at'.length at'.length, .string tx, .int .i64 up, .slice (some ⟨g, 0, none⟩) kids.length kids.length]) ?_ rfl ⟨_, _, rfl, HOA.out, HOK.out, HBB⟩
  have t0 := (HFF.out.2 0 (by omega)).1
  have t1 := (HFF.out.2 1 (by omega)).1
  have t2 := (HFF.out.2 2 (by omega)).1
  have t3 := (HFF.out.2 3 (by omega)).1
  have t4 := (HFF.out.2 4 (by omega)).1
  have t5 := (HFF.out.2 5 (by omega)).1
  have t6 := (HFF.out.2 6 (by omega)).1
  simp at t0 t1 t2 t3 t4 t5 t6
  simp [results, Try.results41, go_sem, t0, t1, t2, t3, t4, t5, t6]

end Go.Proofs.Ytlnegnikedinaaa.Sg
