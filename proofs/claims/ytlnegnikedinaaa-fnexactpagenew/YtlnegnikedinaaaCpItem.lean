/- Contract of the model's l6Item. -/
import Derived.Test.YtlnegnikedinaaaCpP
import Derived.Test.YtlnegnikedinaaaLwPgSt
import Derived.Deep.Cut
namespace Go.Proofs.Ytlnegnikedinaaa.Sg
open Go.ChangeShapes Go.WideShapes Go.ChangeAt Go.RowKit

set_option maxRecDepth 20000 in
set_option maxHeartbeats 8000000 in
theorem specItem (t : ItB) (sv kv : Value) (B0 : Nat) (w : World) (hs : w.ownsRow B0 84 2 sv t.ats.length (attrCells t.ats)) (hk : w.ownsRow B0 3 1 kv t.kids.length (intCellsI t.kids)) (hn : t.ats.length ≤ 1099511627776) (hc : t.kids.length ≤ 1099511627776) :
    Calls Try.prog 60 #[.agg (itV (t, sv, kv)).toArray] w fun e w' => ∃ sv' kv', e = .returned (.agg (itV (t, sv', kv')).toArray) ∧ w'.ownsRow w.heap.size 84 2 sv' t.ats.length (attrCells t.ats) ∧ w'.ownsRow w.heap.size 3 1 kv' t.kids.length (intCellsI t.kids) ∧ Below w.heap.size w w' := by
  obtain ⟨i0, hi, hz0, hz1, hz2⟩ := info_parts info_at'
  obtain ⟨j0, gi, gz0, gz1, gz2⟩ := info_parts info_int
  obtain ⟨kd, sp, nm, at', tx, up, kids⟩ := t
  simp only at hs hk hn hc
  obtain ⟨sa, sc, rfl⟩ := own_form hs
  obtain ⟨ka, kc, rfl⟩ := own_form hk
  simp only [itV]
  obtain ⟨W3, HW3⟩ : ∃ W3, Hid (W3 = (((w.alloc (.cells #[.int .i64 kd, .int .i64 sp, .string nm, .slice sa at'.length sc, .string tx, .int .i64 up, .slice ka kids.length kc] 50)).alloc (.cells #[.int .i64 0, .int .i64 0, .string ⟨#[]⟩, .slice none 0 0, .string ⟨#[]⟩, .int .i64 0, .slice none 0 0] 50)).alloc (.cells #[] 84))) := ⟨_, rfl⟩
  have bW : Below w.heap.size w W3 := by rw [HW3.out]; exact (((Below.refl _ _).alloc (Nat.le_refl _) _).alloc (by simp) _).alloc (by simp; omega) _
  have hsz : W3.heap.size = w.heap.size + 1 + 1 + 1 := by rw [HW3.out]; simp
  have HE : W3.ownsRow (w.heap.size + 1 + 1) 84 2 (.slice (some ⟨w.heap.size + 1 + 1, 0, none⟩) 0 0) 0 [] := own_empty (Nat.le_refl _) (by
    have h := (MapKept.heap_alloc ((w.alloc (.cells #[.int .i64 kd, .int .i64 sp, .string nm, .slice sa at'.length sc, .string tx, .int .i64 up, .slice ka kids.length kc] 50)).alloc (.cells #[.int .i64 0, .int .i64 0, .string ⟨#[]⟩, .slice none 0 0, .string ⟨#[]⟩, .int .i64 0, .slice none 0 0] 50)) (.cells #[] 84)).1
    rw [← HW3.out] at h
    simpa using h)
  have HU : W3.ownsRow B0 84 2 (.slice sa at'.length sc) at'.length (attrCells at') := owns_below hs (Nat.le_refl _) bW
  have HKd : Hid (W3.ownsRow B0 3 1 (.slice ka kids.length kc) kids.length (intCellsI kids)) := owns_below hk (Nat.le_refl _) bW
  have M0 : Hid (Many 7 W3 w.heap.size (fun i => [Value.int .i64 kd, .int .i64 sp, .string nm, .slice sa at'.length sc, .string tx, .int .i64 up, .slice ka kids.length kc].getD i undef)) := by
    show Many _ _ _ _
    rw [HW3.out]
    exact (Many.new w [Value.int .i64 kd, .int .i64 sp, .string nm, .slice sa at'.length sc, .string tx, .int .i64 up, .slice ka kids.length kc] 50 undef).below (B := w.heap.size + 1) (Nat.lt_succ_self _) (((Below.refl _ _).alloc (by simp) _).alloc (by simp) _)
  have M1 : Hid (Many 7 W3 (w.heap.size + 1) (fun i => [Value.int .i64 0, .int .i64 0, .string ⟨#[]⟩, .slice none 0 0, .string ⟨#[]⟩, .int .i64 0, .slice none 0 0].getD i undef)) := by
    show Many _ _ _ _
    rw [HW3.out]
    have h := Many.new (w.alloc (.cells #[.int .i64 kd, .int .i64 sp, .string nm, .slice sa at'.length sc, .string tx, .int .i64 up, .slice ka kids.length kc] 50)) [Value.int .i64 0, .int .i64 0, .string ⟨#[]⟩, .slice none 0 0, .string ⟨#[]⟩, .int .i64 0, .slice none 0 0] 50 undef
    rw [show (w.alloc (.cells #[.int .i64 kd, .int .i64 sp, .string nm, .slice sa at'.length sc, .string tx, .int .i64 up, .slice ka kids.length kc] 50)).heap.size = w.heap.size + 1 by simp] at h
    exact h.below (B := w.heap.size + 1 + 1) (Nat.lt_succ_self _) ((Below.refl _ _).alloc (by simp) _)
  have hmx : at'.length ≤ maxLen := by unfold maxLen; omega
  have hby : at'.length * 32 ≤ 140737488355328 := by omega
  have hmk : kids.length ≤ maxLen := by unfold maxLen; omega
  have hbk : kids.length * 8 ≤ 140737488355328 := by omega
  have hbs : w.heap.size + 1 + 1 ≤ W3.heap.size := by omega
  have Hone := attr_one at'
  have HBW : Hid (Below w.heap.size w W3) := bW
  have Hkl : Hid (∀ b, (Value.slice ka kids.length kc).ownBlock = some b → b < w.heap.size) := fun b hb => (hk.lt b hb).2
  clear hs hk bW
  have KB : Hid (∀ w1, W3.grownBy w1 (Value.slice (some ⟨w.heap.size + 1 + 1, 0, none⟩) 0 0).ownBlock → Kb W3 w1 (fun b => b = w.heap.size + 1 + 1)) := fun w1 g1 => Kb.of_grown g1 fun b e => by simpa [Value.ownBlock] using e.symm
  have CX : ∀ w1, W3.grownBy w1 (Value.slice (some ⟨w.heap.size + 1 + 1, 0, none⟩) 0 0).ownBlock → w1.cell? ⟨w.heap.size, 3, none⟩ = some (.slice sa at'.length sc) ∧ w1.frozen? ⟨w.heap.size, 3, none⟩ = false := fun w1 g1 => (M0.out.kb (KB.out w1 g1) (by omega)).2 3 (by omega)
  go_enter Try.func60, Try.ntmps60
  go_upto_region 2 with (first
    | (at_builtin; rw [← HW3.out]; refine wpList_append_copy _ rfl _ _ 48 rfl (w.heap.size + 1 + 1) 84 i0 (.agg #[.string ⟨#[]⟩, .string ⟨#[]⟩]) 2 32 Try.underlying48 hi hz0 hz1 hz2 rfl (by decide) _ rfl HE B0 _ _ _ rfl HU Hone hmx hby hbs ?_; intro v1 w1 o1 g1; obtain ⟨a1, q1, rfl⟩ := own_form o1; obtain ⟨x3, f3⟩ := CX w1 g1)
    | go_in)
  obtain ⟨W4, HW4⟩ : ∃ W4, Hid (W4 = w1.setCell ⟨w.heap.size, 3, none⟩ (.slice a1 at'.length q1)) := ⟨_, rfl⟩
  rw [← HW4.out]
  have kb1 := KB.out w1 g1
  have hs4 : W4.heap.size = w1.heap.size := by rw [HW4.out]; simp
  have hs1 := g1.size
  have N0 := (M0.out.kb kb1 (by omega)).set (i := 3) (.slice a1 at'.length q1)
  have N1 := (M1.out.kb kb1 (by omega)).other (i := 3) (show w.heap.size ≠ w.heap.size + 1 by omega) (.slice a1 at'.length q1)
  rw [← HW4.out] at N0 N1
  have P1 : W4.ownsRow (w.heap.size + 1 + 1) 84 2 (.slice a1 at'.length q1) at'.length (attrCells at') := by rw [HW4.out]; exact row_set_low o1 (by omega) _
  have PK : W4.ownsRow B0 3 1 (.slice ka kids.length kc) kids.length (intCellsI kids) := by
    rw [HW4.out]
    exact owns_grown (kb1.owns HKd.out fun b hb e => by have := Hkl.out b hb; omega) (grown_set w1 w.heap.size 3 _) (fun b hb e => by have := Hkl.out b hb; have := Option.some.inj e; omega)
  have B4 : Below w.heap.size w W4 := by rw [HW4.out]; exact (HBW.out.trans (kb1.below HBW.out.size fun b hb => by omega)).setCell (p := ⟨w.heap.size, 3, none⟩) (Nat.le_refl _) _
  have ge4 : w.heap.size + 1 + 1 + 1 ≤ W4.heap.size := by omega
  clear x3 f3 o1 kb1 HW4 HE HU HKd M0 M1 CX KB HBW Hone hsz hs4 hs1 g1 HW3
  obtain ⟨W5, HW5⟩ : ∃ W5, Hid (W5 = W4.alloc (.cells #[] 3)) := ⟨_, rfl⟩
  have b5 : Below W4.heap.size W4 W5 := by rw [HW5.out]; exact (Below.refl _ _).alloc (Nat.le_refl _) _
  have hs5 : W5.heap.size = W4.heap.size + 1 := by rw [HW5.out]; simp
  have HE : W5.ownsRow W4.heap.size 3 1 (.slice (some ⟨W4.heap.size, 0, none⟩) 0 0) 0 [] := own_empty (Nat.le_refl _) (by
    have h := (MapKept.heap_alloc W4 (.cells #[] 3)).1
    rw [← HW5.out] at h
    exact h)
  have HU := owns_below PK (Nat.le_refl _) b5
  have Q0 : Hid (Many 7 W5 w.heap.size _) := N0.keep b5
  have Q1 : Hid (Many 7 W5 (w.heap.size + 1) _) := N1.keep b5
  have R1 : Hid (W5.ownsRow (w.heap.size + 1 + 1) 84 2 (.slice a1 at'.length q1) at'.length (attrCells at')) := owns_below P1 (Nat.le_refl _) b5
  have R1l : Hid (∀ b, (Value.slice a1 at'.length q1).ownBlock = some b → b < W4.heap.size) := fun b hb => (P1.lt b hb).2
  have B5 : Hid (Below w.heap.size w W5) := B4.trans (b5.mono (by omega))
  have y6 := (N0.2 6 (by omega)).1
  simp at y6
  have lt40 : w.heap.size < W4.heap.size := by omega
  have hbs2 : W4.heap.size ≤ W5.heap.size := by omega
  have Hone2 := int_one kids
  have KB2 : Hid (∀ w6, W5.grownBy w6 (Value.slice (some ⟨W4.heap.size, 0, none⟩) 0 0).ownBlock → Kb W5 w6 (fun b => b = W4.heap.size)) := fun w6 g6 => Kb.of_grown g6 fun b e => by simpa [Value.ownBlock] using e.symm
  have CX2 : ∀ w6, W5.grownBy w6 (Value.slice (some ⟨W4.heap.size, 0, none⟩) 0 0).ownBlock → w6.cell? ⟨w.heap.size, 6, none⟩ = some (.slice ka kids.length kc) ∧ w6.frozen? ⟨w.heap.size, 6, none⟩ = false := fun w6 g6 => by
    have h := (Q0.out.kb (KB2.out w6 g6) (by omega)).2 6 (by omega)
    simpa using h
  clear N0 N1 P1 PK B4 b5
  go_upto_region 3 with (first
    | (at_builtin; rw [← HW5.out]; refine wpList_append_copy _ rfl _ _ 23 rfl W4.heap.size 3 j0 (.int .i64 0) 1 8 Try.underlying23 gi gz0 gz1 gz2 rfl (by decide) _ rfl HE B0 _ _ _ rfl HU Hone2 hmk hbk hbs2 ?_; intro v2 w6 o6 g6; obtain ⟨a2, q2, rfl⟩ := own_form o6; obtain ⟨x6, f6⟩ := CX2 w6 g6)
    | go_in)
  have kb2 := KB2.out w6 g6
  have N0 := Q0.out.kb kb2 (by omega)
  have N1 := Q1.out.kb kb2 (by omega)
  have P1 := kb2.owns R1.out fun b hb e => by have := R1l.out b hb; omega
  have B6 : Below w.heap.size w w6 := B5.out.trans (kb2.below B5.out.size fun b hb => by omega)
  have dlt : w.heap.size + 1 + 1 + 1 ≤ W4.heap.size := ge4
  clear HE HU Q0 Q1 R1 R1l B5 y6 KB2 CX2 HW5 kb2 g6 hs5 hbs2 Hone2 ge4 lt40
  generalize W4.heap.size = d at *
  have l02 : w.heap.size < w.heap.size + 1 + 1 := by omega
  have l12 : w.heap.size + 1 < w.heap.size + 1 + 1 := by omega
  have l0d : w.heap.size < d := by omega
  have l1d : w.heap.size + 1 < d := by omega
  have l01 : w.heap.size ≤ w.heap.size + 1 := by omega
  have l2w : w.heap.size ≤ w.heap.size + 1 + 1 := by omega
  have ldw : w.heap.size ≤ d := by omega
  have n01 : w.heap.size ≠ w.heap.size + 1 := by omega
  have n10 : w.heap.size + 1 ≠ w.heap.size := by omega
  generalize w.heap.size + 1 + 1 = c2 at *
  generalize w.heap.size + 1 = c1 at *
  have y0 := (N0.2 0 (by omega)).1
  have r0 := (N1.2 0 (by omega)).1
  have s0 := (N1.2 0 (by omega)).2
  have y1 := (N0.2 1 (by omega)).1
  have r1 := (N1.2 1 (by omega)).1
  have s1 := (N1.2 1 (by omega)).2
  have y2 := (N0.2 2 (by omega)).1
  have r2 := (N1.2 2 (by omega)).1
  have s2 := (N1.2 2 (by omega)).2
  have y3 := (N0.2 3 (by omega)).1
  have r3 := (N1.2 3 (by omega)).1
  have s3 := (N1.2 3 (by omega)).2
  have y4 := (N0.2 4 (by omega)).1
  have r4 := (N1.2 4 (by omega)).1
  have s4 := (N1.2 4 (by omega)).2
  have y5 := (N0.2 5 (by omega)).1
  have r5 := (N1.2 5 (by omega)).1
  have s5 := (N1.2 5 (by omega)).2
  have y6 := (N0.2 6 (by omega)).1
  have r6 := (N1.2 6 (by omega)).1
  have s6 := (N1.2 6 (by omega)).2
  simp at y0 r0 y1 r1 y2 r2 y3 r3 y4 r4 y5 r5 y6 r6
  have HM : Hid (Many 7 ((((((((w6.setCell ⟨w.heap.size, 6, none⟩ (.slice a2 kids.length q2)).setCell ⟨c1, 0, none⟩ (.int .i64 kd)).setCell ⟨c1, 1, none⟩ (.int .i64 sp)).setCell ⟨c1, 2, none⟩ (.string nm)).setCell ⟨c1, 3, none⟩ (.slice a1 at'.length q1)).setCell ⟨c1, 4, none⟩ (.string tx)).setCell ⟨c1, 5, none⟩ (.int .i64 up)).setCell ⟨c1, 6, none⟩ (.slice a2 kids.length q2)) c1 _) := ((((((((N1.other n01 (i := 6) (.slice a2 kids.length q2)).set (i := 0) (.int .i64 kd)).set (i := 1) (.int .i64 sp)).set (i := 2) (.string nm)).set (i := 3) (.slice a1 at'.length q1)).set (i := 4) (.string tx)).set (i := 5) (.int .i64 up)).set (i := 6) (.slice a2 kids.length q2))
  have H1 : Hid (((((((((w6.setCell ⟨w.heap.size, 6, none⟩ (.slice a2 kids.length q2)).setCell ⟨c1, 0, none⟩ (.int .i64 kd)).setCell ⟨c1, 1, none⟩ (.int .i64 sp)).setCell ⟨c1, 2, none⟩ (.string nm)).setCell ⟨c1, 3, none⟩ (.slice a1 at'.length q1)).setCell ⟨c1, 4, none⟩ (.string tx)).setCell ⟨c1, 5, none⟩ (.int .i64 up)).setCell ⟨c1, 6, none⟩ (.slice a2 kids.length q2)).ownsRow w.heap.size 84 2 (.slice a1 at'.length q1) at'.length (attrCells at')) := own_mono (row_set_low (row_set_low (row_set_low (row_set_low (row_set_low (row_set_low (row_set_low (row_set_low P1 (i := 6) l02 (.slice a2 kids.length q2)) (i := 0) l12 (.int .i64 kd)) (i := 1) l12 (.int .i64 sp)) (i := 2) l12 (.string nm)) (i := 3) l12 (.slice a1 at'.length q1)) (i := 4) l12 (.string tx)) (i := 5) l12 (.int .i64 up)) (i := 6) l12 (.slice a2 kids.length q2)) l2w
  have H2 : Hid (((((((((w6.setCell ⟨w.heap.size, 6, none⟩ (.slice a2 kids.length q2)).setCell ⟨c1, 0, none⟩ (.int .i64 kd)).setCell ⟨c1, 1, none⟩ (.int .i64 sp)).setCell ⟨c1, 2, none⟩ (.string nm)).setCell ⟨c1, 3, none⟩ (.slice a1 at'.length q1)).setCell ⟨c1, 4, none⟩ (.string tx)).setCell ⟨c1, 5, none⟩ (.int .i64 up)).setCell ⟨c1, 6, none⟩ (.slice a2 kids.length q2)).ownsRow w.heap.size 3 1 (.slice a2 kids.length q2) kids.length (intCellsI kids)) := own_mono (row_set_low (row_set_low (row_set_low (row_set_low (row_set_low (row_set_low (row_set_low (row_set_low o6 (i := 6) l0d (.slice a2 kids.length q2)) (i := 0) l1d (.int .i64 kd)) (i := 1) l1d (.int .i64 sp)) (i := 2) l1d (.string nm)) (i := 3) l1d (.slice a1 at'.length q1)) (i := 4) l1d (.string tx)) (i := 5) l1d (.int .i64 up)) (i := 6) l1d (.slice a2 kids.length q2)) ldw
  have HB : Hid (Below w.heap.size w ((((((((w6.setCell ⟨w.heap.size, 6, none⟩ (.slice a2 kids.length q2)).setCell ⟨c1, 0, none⟩ (.int .i64 kd)).setCell ⟨c1, 1, none⟩ (.int .i64 sp)).setCell ⟨c1, 2, none⟩ (.string nm)).setCell ⟨c1, 3, none⟩ (.slice a1 at'.length q1)).setCell ⟨c1, 4, none⟩ (.string tx)).setCell ⟨c1, 5, none⟩ (.int .i64 up)).setCell ⟨c1, 6, none⟩ (.slice a2 kids.length q2))) := ((((((((B6.setCell (p := ⟨w.heap.size, 6, none⟩) (Nat.le_refl _) (.slice a2 kids.length q2)).setCell (p := ⟨c1, 0, none⟩) l01 (.int .i64 kd)).setCell (p := ⟨c1, 1, none⟩) l01 (.int .i64 sp)).setCell (p := ⟨c1, 2, none⟩) l01 (.string nm)).setCell (p := ⟨c1, 3, none⟩) l01 (.slice a1 at'.length q1)).setCell (p := ⟨c1, 4, none⟩) l01 (.string tx)).setCell (p := ⟨c1, 5, none⟩) l01 (.int .i64 up)).setCell (p := ⟨c1, 6, none⟩) l01 (.slice a2 kids.length q2))
  clear N0 N1 P1 o6 B6
  go_wp2_with fail
  refine bodyPost_ret (v := .agg #[.int .i64 kd, .int .i64 sp, .string nm, (.slice a1 at'.length q1), .string tx, .int .i64 up, (.slice a2 kids.length q2)]) ?_ rfl ⟨_, _, rfl, H1.out, H2.out, HB.out⟩
  have t0 := (HM.out.2 0 (by omega)).1
  have t1 := (HM.out.2 1 (by omega)).1
  have t2 := (HM.out.2 2 (by omega)).1
  have t3 := (HM.out.2 3 (by omega)).1
  have t4 := (HM.out.2 4 (by omega)).1
  have t5 := (HM.out.2 5 (by omega)).1
  have t6 := (HM.out.2 6 (by omega)).1
  simp at t0 t1 t2 t3 t4 t5 t6
  simp [results, Try.results60, go_sem, t0, t1, t2, t3, t4, t5, t6]

end Go.Proofs.Ytlnegnikedinaaa.Sg
