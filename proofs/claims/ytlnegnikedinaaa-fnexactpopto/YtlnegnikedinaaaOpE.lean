/- Contracts of slices.Clone over attributes and over numbers, and of the program's copyItem. -/
import Derived.Lib.SliceRun
import Derived.Test.YtlnegnikedinaaaCpItem
import Derived.Test.YtlnegnikedinaaaMDPopTo03
namespace Go.Proofs.Ytlnegnikedinaaa.Sg
open Go.ChangeShapes Go.WideShapes Go.ChangeAt Go.RowKit

theorem new_empty (w : World) (e : TypeId) (z : Nat) : (w.alloc (.cells #[] e)).ownsRow w.heap.size e z (.slice (some ⟨w.heap.size, 0, none⟩) 0 0) 0 [] := own_empty (Nat.le_refl _) (MapKept.heap_alloc w (.cells #[] e)).1
theorem grown_new {w w1 : World} {o : Obj} {a : Option Addr} {n c : Nat} (ha : ∀ b, (Value.slice a n c).ownBlock = some b → w.heap.size ≤ b) (g : (w.alloc o).grownBy w1 (Value.slice a n c).ownBlock) : Below w.heap.size w w1 :=
  ((Below.refl _ w).alloc (Nat.le_refl _) o).grown g (by simp) (fun k e => ha k e)

set_option maxRecDepth 20000 in
set_option maxHeartbeats 4000000 in
theorem implCloneI (zs : List Int) (kv : Value) (B0 : Nat) (w : World) (hk : w.ownsRow B0 3 1 kv zs.length (intCellsI zs)) (hc : zs.length ≤ 1099511627776) :
    Calls Try.prog 81 #[kv] w fun e w' => ∃ kv', e = .returned kv' ∧ w'.ownsRow w.heap.size 3 1 kv' zs.length (intCellsI zs) ∧ Below w.heap.size w w' := by
  obtain ⟨j0, gi, gz0, gz1, gz2⟩ := info_parts info_int
  have q : ∀ (w : World) (a : Option Addr) (n c : Nat), (binOp .eql 23 (.slice a n c) (.slice none 0 0)).run Try.prog w = .ok (.bool a.isNone) w := fun w a n c => Lib.run_eql_slice_nil w _ _ a n c 0 0 Try.underlying23
  have hk' := hk
  rcases hk.2 with ⟨rfl, h0⟩ | ⟨g, cap, cur, rfl, hrest⟩
  · obtain rfl := List.eq_nil_of_length_eq_zero h0
    clear hk hk' hc h0
    go_enter Try.func81, Try.ntmps81
    go_wp2_with fail
    go_ret
    exact ⟨_, rfl, nil_row _ _ _ _, Below.refl _ _⟩
  · have HE := new_empty w 3 1
    have HU := owns_below hk' (Nat.le_refl _) ((Below.refl w.heap.size w).alloc (Nat.le_refl _) (.cells #[] 3))
    have Hone := int_one zs
    have hmk : zs.length ≤ maxLen := by unfold maxLen; omega
    have hbk : zs.length * 8 ≤ 140737488355328 := by omega
    have hbs : w.heap.size ≤ (w.alloc (.cells #[] 3)).heap.size := by simp
    clear hk hk' hrest hc
    go_enter Try.func81, Try.ntmps81
    go_wp2_with (at_builtin; refine wpList_append_copy _ rfl _ _ 23 rfl w.heap.size 3 j0 (.int .i64 0) 1 8 Try.underlying23 gi gz0 gz1 gz2 rfl (by decide) _ rfl HE B0 _ _ _ rfl HU Hone hmk hbk hbs ?_; intro v2 w6 o6 g6)
    go_ret
    exact ⟨_, rfl, o6, grown_new (fun b e => by simp [Value.ownBlock] at e; omega) g6⟩

set_option maxRecDepth 20000 in
set_option maxHeartbeats 4000000 in
theorem implCloneA (zs : List AttrB) (kv : Value) (B0 : Nat) (w : World) (hk : w.ownsRow B0 84 2 kv zs.length (attrCells zs)) (hc : zs.length ≤ 1099511627776) :
    Calls Try.prog 80 #[kv] w fun e w' => ∃ kv', e = .returned kv' ∧ w'.ownsRow w.heap.size 84 2 kv' zs.length (attrCells zs) ∧ Below w.heap.size w w' := by
  obtain ⟨j0, gi, gz0, gz1, gz2⟩ := info_parts info_at'
  have q : ∀ (w : World) (a : Option Addr) (n c : Nat), (binOp .eql 48 (.slice a n c) (.slice none 0 0)).run Try.prog w = .ok (.bool a.isNone) w := fun w a n c => Lib.run_eql_slice_nil w _ _ a n c 0 0 Try.underlying48
  have hk' := hk
  rcases hk.2 with ⟨rfl, h0⟩ | ⟨g, cap, cur, rfl, hrest⟩
  · obtain rfl := List.eq_nil_of_length_eq_zero h0
    clear hk hk' hc h0
    go_enter Try.func80, Try.ntmps80
    go_wp2_with fail
    go_ret
    exact ⟨_, rfl, nil_row _ _ _ _, Below.refl _ _⟩
  · have HE := new_empty w 84 2
    have HU := owns_below hk' (Nat.le_refl _) ((Below.refl w.heap.size w).alloc (Nat.le_refl _) (.cells #[] 84))
    have Hone := attr_one zs
    have hmk : zs.length ≤ maxLen := by unfold maxLen; omega
    have hbk : zs.length * 32 ≤ 140737488355328 := by omega
    have hbs : w.heap.size ≤ (w.alloc (.cells #[] 84)).heap.size := by simp
    clear hk hk' hrest hc
    go_enter Try.func80, Try.ntmps80
    go_wp2_with (at_builtin; refine wpList_append_copy _ rfl _ _ 48 rfl w.heap.size 84 j0 (.agg #[.string ⟨#[]⟩, .string ⟨#[]⟩]) 2 32 Try.underlying48 gi gz0 gz1 gz2 rfl (by decide) _ rfl HE B0 _ _ _ rfl HU Hone hmk hbk hbs ?_; intro v2 w6 o6 g6)
    go_ret
    exact ⟨_, rfl, o6, grown_new (fun b e => by simp [Value.ownBlock] at e; omega) g6⟩

set_option maxRecDepth 20000 in
set_option maxHeartbeats 8000000 in
theorem implCopyItem (t : ItB) (sv kv : Value) (B0 : Nat) (w : World) (hs : w.ownsRow B0 84 2 sv t.ats.length (attrCells t.ats)) (hk : w.ownsRow B0 3 1 kv t.kids.length (intCellsI t.kids)) (hn : t.ats.length ≤ 1099511627776) (hc : t.kids.length ≤ 1099511627776) :
    Calls Try.prog 61 #[.agg (itV (t, sv, kv)).toArray] w fun e w' => ∃ sv' kv', e = .returned (.agg (itV (t, sv', kv')).toArray) ∧ w'.ownsRow w.heap.size 84 2 sv' t.ats.length (attrCells t.ats) ∧ w'.ownsRow w.heap.size 3 1 kv' t.kids.length (intCellsI t.kids) ∧ Below w.heap.size w w' := by
  obtain ⟨kd, sp, nm, at', tx, up, kids⟩ := t
  simp only at hs hk hn hc
  obtain ⟨sa, sc, rfl⟩ := own_form hs
  obtain ⟨ka, kc, rfl⟩ := own_form hk
  simp only [itV]
  obtain ⟨W3, HW3⟩ : ∃ W3, Hid (W3 = ((w.alloc (.cells #[.int .i64 kd, .int .i64 sp, .string nm, .slice sa at'.length sc, .string tx, .int .i64 up, .slice ka kids.length kc] 50)).alloc (.cells #[.int .i64 0, .int .i64 0, .string ⟨#[]⟩, .slice none 0 0, .string ⟨#[]⟩, .int .i64 0, .slice none 0 0] 50))) := ⟨_, rfl⟩
  have bW : Below w.heap.size w W3 := by rw [HW3.out]; exact ((Below.refl _ _).alloc (Nat.le_refl _) _).alloc (by simp) _
  have hsz : W3.heap.size = w.heap.size + 1 + 1 := by rw [HW3.out]; simp
  have HCA : Hid (Calls Try.prog 80 #[.slice sa at'.length sc] W3 fun e w' => ∃ kv', e = .returned kv' ∧ w'.ownsRow W3.heap.size 84 2 kv' at'.length (attrCells at') ∧ Below W3.heap.size W3 w') := implCloneA at' _ B0 W3 (owns_below hs (Nat.le_refl _) bW) hn
  have HKd : Hid (W3.ownsRow B0 3 1 (.slice ka kids.length kc) kids.length (intCellsI kids)) := owns_below hk (Nat.le_refl _) bW
  have M0 : Hid (Many 7 W3 w.heap.size (fun i => [Value.int .i64 kd, .int .i64 sp, .string nm, .slice sa at'.length sc, .string tx, .int .i64 up, .slice ka kids.length kc].getD i undef)) := by
    show Many _ _ _ _
    rw [HW3.out]
    exact (Many.new w [Value.int .i64 kd, .int .i64 sp, .string nm, .slice sa at'.length sc, .string tx, .int .i64 up, .slice ka kids.length kc] 50 undef).below (B := w.heap.size + 1) (Nat.lt_succ_self _) ((Below.refl _ _).alloc (by simp) _)
  have M1 : Hid (Many 7 W3 (w.heap.size + 1) (fun i => [Value.int .i64 0, .int .i64 0, .string ⟨#[]⟩, .slice none 0 0, .string ⟨#[]⟩, .int .i64 0, .slice none 0 0].getD i undef)) := by
    show Many _ _ _ _
    rw [HW3.out]
    have h := Many.new (w.alloc (.cells #[.int .i64 kd, .int .i64 sp, .string nm, .slice sa at'.length sc, .string tx, .int .i64 up, .slice ka kids.length kc] 50)) [Value.int .i64 0, .int .i64 0, .string ⟨#[]⟩, .slice none 0 0, .string ⟨#[]⟩, .int .i64 0, .slice none 0 0] 50 undef
    rw [show (w.alloc (.cells #[.int .i64 kd, .int .i64 sp, .string nm, .slice sa at'.length sc, .string tx, .int .i64 up, .slice ka kids.length kc] 50)).heap.size = w.heap.size + 1 by simp] at h
    exact h
  have HBW : Hid (Below w.heap.size w W3) := bW
  have Hkl : Hid (∀ b, (Value.slice ka kids.length kc).ownBlock = some b → b < w.heap.size) := fun b hb => (hk.lt b hb).2
  clear hs hk bW
  go_enter Try.func61, Try.ntmps61
  go_wp2_with fail
  rw [← HW3.out]
  refine HCA.out.mono ?_
  rintro e w1 ⟨v1, rfl, o1, b1⟩
  obtain ⟨a1, q1, rfl⟩ := own_form o1
  have K0 := M0.out.keep b1
  have K1 := M1.out.keep b1
  have x3 := (K0.2 3 (by omega)).1
  have f3 := (K0.2 3 (by omega)).2
  simp at x3
  go_upto_region 2 with fail
  obtain ⟨W4, HW4⟩ : ∃ W4, Hid (W4 = w1.setCell ⟨w.heap.size, 3, none⟩ (.slice a1 at'.length q1)) := ⟨_, rfl⟩
  rw [← HW4.out]
  have hs4 : W4.heap.size = w1.heap.size := by rw [HW4.out]; simp
  have hs1 := b1.size
  have N0 := K0.set (i := 3) (.slice a1 at'.length q1)
  have N1 := K1.other (i := 3) (show w.heap.size ≠ w.heap.size + 1 by omega) (.slice a1 at'.length q1)
  rw [← HW4.out] at N0 N1
  have P1 : W4.ownsRow (w.heap.size + 1 + 1) 84 2 (.slice a1 at'.length q1) at'.length (attrCells at') := by rw [HW4.out, ← hsz]; exact row_set_low o1 (by omega) _
  have PK : W4.ownsRow B0 3 1 (.slice ka kids.length kc) kids.length (intCellsI kids) := by
    rw [HW4.out]
    exact owns_grown (owns_below HKd.out (Nat.le_refl _) b1) (grown_set w1 w.heap.size 3 _) (fun b hb e => by have := Hkl.out b hb; have := Option.some.inj e; omega)
  have B4 : Below w.heap.size w W4 := by rw [HW4.out]; exact (HBW.out.trans (b1.mono HBW.out.size)).setCell (p := ⟨w.heap.size, 3, none⟩) (Nat.le_refl _) _
  have ge4 : w.heap.size + 1 + 1 ≤ W4.heap.size := by omega
  clear x3 f3 o1 K0 K1 HW4 HKd M0 M1 HBW hsz hs4 hs1 b1 HW3 HCA
  have HCI : Hid (Calls Try.prog 81 #[.slice ka kids.length kc] W4 fun e w' => ∃ kv', e = .returned kv' ∧ w'.ownsRow W4.heap.size 3 1 kv' kids.length (intCellsI kids) ∧ Below W4.heap.size W4 w') := implCloneI kids _ B0 W4 PK hc
  have y6 := (N0.2 6 (by omega)).1
  simp at y6
  go_wp2_with fail
  refine HCI.out.mono ?_
  rintro e w6 ⟨v2, rfl, o6, b6⟩
  obtain ⟨a2, q2, rfl⟩ := own_form o6
  replace N0 := N0.keep b6
  replace N1 := N1.keep b6
  replace P1 := owns_below P1 (Nat.le_refl _) b6
  have B6 : Below w.heap.size w w6 := B4.trans (b6.mono B4.size)
  have lt40 : w.heap.size < W4.heap.size := by omega
  have f6 := (N0.2 6 (by omega)).2
  clear HCI y6 PK B4 b6
  have dlt : w.heap.size + 1 + 1 ≤ W4.heap.size := ge4
  clear ge4 lt40
  generalize W4.heap.size = d at *
  have l02 : w.heap.size < w.heap.size + 1 + 1 := by omega
  have l12 : w.heap.size + 1 < w.heap.size + 1 + 1 := by omega
  have l0d : w.heap.size < d := by omega
  have l1d : w.heap.size + 1 < d := by omega
  have l01 : w.heap.size ≤ w.heap.size + 1 := by omega
  have l2w : w.heap.size ≤ w.heap.size + 1 + 1 := by omega
  have ldw : w.heap.size ≤ d := by omega
  have n01 : w.heap.size ≠ w.heap.size + 1 := by omega
  have n10 : w.heap.size + 1 ≠ w.heap.size := by omega
  generalize w.heap.size + 1 + 1 = c2 at *
  generalize w.heap.size + 1 = c1 at *
  have y0 := (N0.2 0 (by omega)).1
  have r0 := (N1.2 0 (by omega)).1
  have s0 := (N1.2 0 (by omega)).2
  have y1 := (N0.2 1 (by omega)).1
  have r1 := (N1.2 1 (by omega)).1
  have s1 := (N1.2 1 (by omega)).2
  have y2 := (N0.2 2 (by omega)).1
  have r2 := (N1.2 2 (by omega)).1
  have s2 := (N1.2 2 (by omega)).2
  have y3 := (N0.2 3 (by omega)).1
  have r3 := (N1.2 3 (by omega)).1
  have s3 := (N1.2 3 (by omega)).2
  have y4 := (N0.2 4 (by omega)).1
  have r4 := (N1.2 4 (by omega)).1
  have s4 := (N1.2 4 (by omega)).2
  have y5 := (N0.2 5 (by omega)).1
  have r5 := (N1.2 5 (by omega)).1
  have s5 := (N1.2 5 (by omega)).2
  have y6 := (N0.2 6 (by omega)).1
  have r6 := (N1.2 6 (by omega)).1
  have s6 := (N1.2 6 (by omega)).2
  simp at y0 r0 y1 r1 y2 r2 y3 r3 y4 r4 y5 r5 y6 r6
  have HM : Hid (Many 7 ((((((((w6.setCell ⟨w.heap.size, 6, none⟩ (.slice a2 kids.length q2)).setCell ⟨c1, 0, none⟩ (.int .i64 kd)).setCell ⟨c1, 1, none⟩ (.int .i64 sp)).setCell ⟨c1, 2, none⟩ (.string nm)).setCell ⟨c1, 3, none⟩ (.slice a1 at'.length q1)).setCell ⟨c1, 4, none⟩ (.string tx)).setCell ⟨c1, 5, none⟩ (.int .i64 up)).setCell ⟨c1, 6, none⟩ (.slice a2 kids.length q2)) c1 _) := ((((((((N1.other n01 (i := 6) (.slice a2 kids.length q2)).set (i := 0) (.int .i64 kd)).set (i := 1) (.int .i64 sp)).set (i := 2) (.string nm)).set (i := 3) (.slice a1 at'.length q1)).set (i := 4) (.string tx)).set (i := 5) (.int .i64 up)).set (i := 6) (.slice a2 kids.length q2))
  have H1 : Hid (((((((((w6.setCell ⟨w.heap.size, 6, none⟩ (.slice a2 kids.length q2)).setCell ⟨c1, 0, none⟩ (.int .i64 kd)).setCell ⟨c1, 1, none⟩ (.int .i64 sp)).setCell ⟨c1, 2, none⟩ (.string nm)).setCell ⟨c1, 3, none⟩ (.slice a1 at'.length q1)).setCell ⟨c1, 4, none⟩ (.string tx)).setCell ⟨c1, 5, none⟩ (.int .i64 up)).setCell ⟨c1, 6, none⟩ (.slice a2 kids.length q2)).ownsRow w.heap.size 84 2 (.slice a1 at'.length q1) at'.length (attrCells at')) := own_mono (row_set_low (row_set_low (row_set_low (row_set_low (row_set_low (row_set_low (row_set_low (row_set_low P1 (i := 6) l02 (.slice a2 kids.length q2)) (i := 0) l12 (.int .i64 kd)) (i := 1) l12 (.int .i64 sp)) (i := 2) l12 (.string nm)) (i := 3) l12 (.slice a1 at'.length q1)) (i := 4) l12 (.string tx)) (i := 5) l12 (.int .i64 up)) (i := 6) l12 (.slice a2 kids.length q2)) l2w
  have H2 : Hid (((((((((w6.setCell ⟨w.heap.size, 6, none⟩ (.slice a2 kids.length q2)).setCell ⟨c1, 0, none⟩ (.int .i64 kd)).setCell ⟨c1, 1, none⟩ (.int .i64 sp)).setCell ⟨c1, 2, none⟩ (.string nm)).setCell ⟨c1, 3, none⟩ (.slice a1 at'.length q1)).setCell ⟨c1, 4, none⟩ (.string tx)).setCell ⟨c1, 5, none⟩ (.int .i64 up)).setCell ⟨c1, 6, none⟩ (.slice a2 kids.length q2)).ownsRow w.heap.size 3 1 (.slice a2 kids.length q2) kids.length (intCellsI kids)) := own_mono (row_set_low (row_set_low (row_set_low (row_set_low (row_set_low (row_set_low (row_set_low (row_set_low o6 (i := 6) l0d (.slice a2 kids.length q2)) (i := 0) l1d (.int .i64 kd)) (i := 1) l1d (.int .i64 sp)) (i := 2) l1d (.string nm)) (i := 3) l1d (.slice a1 at'.length q1)) (i := 4) l1d (.string tx)) (i := 5) l1d (.int .i64 up)) (i := 6) l1d (.slice a2 kids.length q2)) ldw
  have HB : Hid (Below w.heap.size w ((((((((w6.setCell ⟨w.heap.size, 6, none⟩ (.slice a2 kids.length q2)).setCell ⟨c1, 0, none⟩ (.int .i64 kd)).setCell ⟨c1, 1, none⟩ (.int .i64 sp)).setCell ⟨c1, 2, none⟩ (.string nm)).setCell ⟨c1, 3, none⟩ (.slice a1 at'.length q1)).setCell ⟨c1, 4, none⟩ (.string tx)).setCell ⟨c1, 5, none⟩ (.int .i64 up)).setCell ⟨c1, 6, none⟩ (.slice a2 kids.length q2))) := ((((((((B6.setCell (p := ⟨w.heap.size, 6, none⟩) (Nat.le_refl _) (.slice a2 kids.length q2)).setCell (p := ⟨c1, 0, none⟩) l01 (.int .i64 kd)).setCell (p := ⟨c1, 1, none⟩) l01 (.int .i64 sp)).setCell (p := ⟨c1, 2, none⟩) l01 (.string nm)).setCell (p := ⟨c1, 3, none⟩) l01 (.slice a1 at'.length q1)).setCell (p := ⟨c1, 4, none⟩) l01 (.string tx)).setCell (p := ⟨c1, 5, none⟩) l01 (.int .i64 up)).setCell (p := ⟨c1, 6, none⟩) l01 (.slice a2 kids.length q2))
  clear N0 N1 P1 o6 B6
  go_wp2_with fail
  refine bodyPost_ret (v := .agg #[.int .i64 kd, .int .i64 sp, .string nm, (.slice a1 at'.length q1), .string tx, .int .i64 up, (.slice a2 kids.length q2)]) ?_ rfl ⟨_, _, rfl, H1.out, H2.out, HB.out⟩
  have t0 := (HM.out.2 0 (by omega)).1
  have t1 := (HM.out.2 1 (by omega)).1
  have t2 := (HM.out.2 2 (by omega)).1
  have t3 := (HM.out.2 3 (by omega)).1
  have t4 := (HM.out.2 4 (by omega)).1
  have t5 := (HM.out.2 5 (by omega)).1
  have t6 := (HM.out.2 6 (by omega)).1
  simp at t0 t1 t2 t3 t4 t5 t6
  simp [results, Try.results61, go_sem, t0, t1, t2, t3, t4, t5, t6]

end Go.Proofs.Ytlnegnikedinaaa.Sg
