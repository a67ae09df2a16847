/- Contracts of slices.Clone over attributes and over numbers, and of the program's copyItem. Contract of the program's copyItems. Contract of the program's copied: numbers in new memory, without room behind them. Contract of the program's copyPage. A page in a box, its lists owned. -/
import Derived.Lib.SliceRun
import Derived.Test.YtmkgabbgmhoneaaCpItem
import Derived.Test.YtmkgabbgmhoneaaPgNewS
import Derived.Laws.MakeOwn
import Derived.Test.YtmkgabbgmhoneaaCpItems
import Derived.Laws.CopyOwn
import Derived.Test.YtmkgabbgmhoneaaCpP
import Derived.Test.YtmkgabbgmhoneaaCpPopP
namespace Go.Proofs.Ytmkgabbgmhoneaa.Sg
open Go.ChangeShapes Go.WideShapes Go.ChangeAt Go.RowKit

theorem new_empty (w : World) (e : TypeId) (z : Nat) : (w.alloc (.cells #[] e)).ownsRow w.heap.size e z (.slice (some ⟨w.heap.size, 0, none⟩) 0 0) 0 [] := own_empty (Nat.le_refl _) (MapKept.heap_alloc w (.cells #[] e)).1
theorem grown_new {w w1 : World} {o : Obj} {a : Option Addr} {n c : Nat} (ha : ∀ b, (Value.slice a n c).ownBlock = some b → w.heap.size ≤ b) (g : (w.alloc o).grownBy w1 (Value.slice a n c).ownBlock) : Below w.heap.size w w1 :=
  ((Below.refl _ w).alloc (Nat.le_refl _) o).grown g (by simp) (fun k e => ha k e)

set_option maxRecDepth 20000 in
set_option maxHeartbeats 4000000 in
theorem implCloneI (zs : List Int) (kv : Value) (B0 : Nat) (w : World) (hk : w.ownsRow B0 3 1 kv zs.length (intCellsI zs)) (hc : zs.length ≤ 1099511627776) :
    Calls Try.prog 41 #[kv] w fun e w' => ∃ kv', e = .returned kv' ∧ w'.ownsRow w.heap.size 3 1 kv' zs.length (intCellsI zs) ∧ Below w.heap.size w w' := by
  obtain ⟨j0, gi, gz0, gz1, gz2⟩ := info_parts info_int
  have q : ∀ (w : World) (a : Option Addr) (n c : Nat), (binOp .eql 23 (.slice a n c) (.slice none 0 0)).run Try.prog w = .ok (.bool a.isNone) w := fun w a n c => Lib.run_eql_slice_nil w _ _ a n c 0 0 Try.underlying23
  have hk' := hk
  rcases hk.2 with ⟨rfl, h0⟩ | ⟨g, cap, cur, rfl, hrest⟩
  · obtain rfl := List.eq_nil_of_length_eq_zero h0
    clear hk hk' hc h0
    go_enter Try.func41, Try.ntmps41
    go_wp2_with fail
    go_ret
    exact ⟨_, rfl, nil_row _ _ _ _, Below.refl _ _⟩
  · have HE := new_empty w 3 1
    have HU := owns_below hk' (Nat.le_refl _) ((Below.refl w.heap.size w).alloc (Nat.le_refl _) (.cells #[] 3))
    have Hone := int_one zs
    have hmk : zs.length ≤ maxLen := by unfold maxLen; omega
    have hbk : zs.length * 8 ≤ 140737488355328 := by omega
    have hbs : w.heap.size ≤ (w.alloc (.cells #[] 3)).heap.size := by simp
    clear hk hk' hrest hc
    go_enter Try.func41, Try.ntmps41
    go_wp2_with (at_builtin; refine wpList_append_copy _ rfl _ _ 23 rfl w.heap.size 3 j0 (.int .i64 0) 1 8 Try.underlying23 gi gz0 gz1 gz2 rfl (by decide) _ rfl HE B0 _ _ _ rfl HU Hone hmk hbk hbs ?_; intro v2 w6 o6 g6)
    go_ret
    exact ⟨_, rfl, o6, grown_new (fun b e => by simp [Value.ownBlock] at e; omega) g6⟩

set_option maxRecDepth 20000 in
set_option maxHeartbeats 4000000 in
theorem implCloneA (zs : List AttrB) (kv : Value) (B0 : Nat) (w : World) (hk : w.ownsRow B0 64 2 kv zs.length (attrCells zs)) (hc : zs.length ≤ 1099511627776) :
    Calls Try.prog 40 #[kv] w fun e w' => ∃ kv', e = .returned kv' ∧ w'.ownsRow w.heap.size 64 2 kv' zs.length (attrCells zs) ∧ Below w.heap.size w w' := by
  obtain ⟨j0, gi, gz0, gz1, gz2⟩ := info_parts info_at'
  have q : ∀ (w : World) (a : Option Addr) (n c : Nat), (binOp .eql 49 (.slice a n c) (.slice none 0 0)).run Try.prog w = .ok (.bool a.isNone) w := fun w a n c => Lib.run_eql_slice_nil w _ _ a n c 0 0 Try.underlying49
  have hk' := hk
  rcases hk.2 with ⟨rfl, h0⟩ | ⟨g, cap, cur, rfl, hrest⟩
  · obtain rfl := List.eq_nil_of_length_eq_zero h0
    clear hk hk' hc h0
    go_enter Try.func40, Try.ntmps40
    go_wp2_with fail
    go_ret
    exact ⟨_, rfl, nil_row _ _ _ _, Below.refl _ _⟩
  · have HE := new_empty w 64 2
    have HU := owns_below hk' (Nat.le_refl _) ((Below.refl w.heap.size w).alloc (Nat.le_refl _) (.cells #[] 64))
    have Hone := attr_one zs
    have hmk : zs.length ≤ maxLen := by unfold maxLen; omega
    have hbk : zs.length * 32 ≤ 140737488355328 := by omega
    have hbs : w.heap.size ≤ (w.alloc (.cells #[] 64)).heap.size := by simp
    clear hk hk' hrest hc
    go_enter Try.func40, Try.ntmps40
    go_wp2_with (at_builtin; refine wpList_append_copy _ rfl _ _ 49 rfl w.heap.size 64 j0 (.agg #[.string ⟨#[]⟩, .string ⟨#[]⟩]) 2 32 Try.underlying49 gi gz0 gz1 gz2 rfl (by decide) _ rfl HE B0 _ _ _ rfl HU Hone hmk hbk hbs ?_; intro v2 w6 o6 g6)
    go_ret
    exact ⟨_, rfl, o6, grown_new (fun b e => by simp [Value.ownBlock] at e; omega) g6⟩

set_option maxRecDepth 20000 in
set_option maxHeartbeats 8000000 in
theorem implCopyItem (t : ItB) (sv kv : Value) (B0 : Nat) (w : World) (hs : w.ownsRow B0 64 2 sv t.ats.length (attrCells t.ats)) (hk : w.ownsRow B0 3 1 kv t.kids.length (intCellsI t.kids)) (hn : t.ats.length ≤ 1099511627776) (hc : t.kids.length ≤ 1099511627776) :
    Calls Try.prog 36 #[.agg (itV (t, sv, kv)).toArray] w fun e w' => ∃ sv' kv', e = .returned (.agg (itV (t, sv', kv')).toArray) ∧ w'.ownsRow w.heap.size 64 2 sv' t.ats.length (attrCells t.ats) ∧ w'.ownsRow w.heap.size 3 1 kv' t.kids.length (intCellsI t.kids) ∧ Below w.heap.size w w' := by
  obtain ⟨kd, sp, nm, at', tx, up, kids⟩ := t
  simp only at hs hk hn hc
  obtain ⟨sa, sc, rfl⟩ := own_form hs
  obtain ⟨ka, kc, rfl⟩ := own_form hk
  simp only [itV]
  obtain ⟨W3, HW3⟩ : ∃ W3, Hid (W3 = ((w.alloc (.cells #[.int .i64 kd, .int .i64 sp, .string nm, .slice sa at'.length sc, .string tx, .int .i64 up, .slice ka kids.length kc] 51)).alloc (.cells #[.int .i64 0, .int .i64 0, .string ⟨#[]⟩, .slice none 0 0, .string ⟨#[]⟩, .int .i64 0, .slice none 0 0] 51))) := ⟨_, rfl⟩
  have bW : Below w.heap.size w W3 := by rw [HW3.out]; exact ((Below.refl _ _).alloc (Nat.le_refl _) _).alloc (by simp) _
  have hsz : W3.heap.size = w.heap.size + 1 + 1 := by rw [HW3.out]; simp
  have HCA : Hid (Calls Try.prog 40 #[.slice sa at'.length sc] W3 fun e w' => ∃ kv', e = .returned kv' ∧ w'.ownsRow W3.heap.size 64 2 kv' at'.length (attrCells at') ∧ Below W3.heap.size W3 w') := implCloneA at' _ B0 W3 (owns_below hs (Nat.le_refl _) bW) hn
  have HKd : Hid (W3.ownsRow B0 3 1 (.slice ka kids.length kc) kids.length (intCellsI kids)) := owns_below hk (Nat.le_refl _) bW
  have M0 : Hid (Many 7 W3 w.heap.size (fun i => [Value.int .i64 kd, .int .i64 sp, .string nm, .slice sa at'.length sc, .string tx, .int .i64 up, .slice ka kids.length kc].getD i undef)) := by
    show Many _ _ _ _
    rw [HW3.out]
    exact (Many.new w [Value.int .i64 kd, .int .i64 sp, .string nm, .slice sa at'.length sc, .string tx, .int .i64 up, .slice ka kids.length kc] 51 undef).below (B := w.heap.size + 1) (Nat.lt_succ_self _) ((Below.refl _ _).alloc (by simp) _)
  have M1 : Hid (Many 7 W3 (w.heap.size + 1) (fun i => [Value.int .i64 0, .int .i64 0, .string ⟨#[]⟩, .slice none 0 0, .string ⟨#[]⟩, .int .i64 0, .slice none 0 0].getD i undef)) := by
    show Many _ _ _ _
    rw [HW3.out]
    have h := Many.new (w.alloc (.cells #[.int .i64 kd, .int .i64 sp, .string nm, .slice sa at'.length sc, .string tx, .int .i64 up, .slice ka kids.length kc] 51)) [Value.int .i64 0, .int .i64 0, .string ⟨#[]⟩, .slice none 0 0, .string ⟨#[]⟩, .int .i64 0, .slice none 0 0] 51 undef
    rw [show (w.alloc (.cells #[.int .i64 kd, .int .i64 sp, .string nm, .slice sa at'.length sc, .string tx, .int .i64 up, .slice ka kids.length kc] 51)).heap.size = w.heap.size + 1 by simp] at h
    exact h
  have HBW : Hid (Below w.heap.size w W3) := bW
  have Hkl : Hid (∀ b, (Value.slice ka kids.length kc).ownBlock = some b → b < w.heap.size) := fun b hb => (hk.lt b hb).2
  clear hs hk bW
  go_enter Try.func36, Try.ntmps36
  go_wp2_with fail
  rw [← HW3.out]
  refine HCA.out.mono ?_
  rintro e w1 ⟨v1, rfl, o1, b1⟩
  obtain ⟨a1, q1, rfl⟩ := own_form o1
  have K0 := M0.out.keep b1
  have K1 := M1.out.keep b1
  have x3 := (K0.2 3 (by omega)).1
  have f3 := (K0.2 3 (by omega)).2
  simp at x3
  go_upto_region 2 with fail
  obtain ⟨W4, HW4⟩ : ∃ W4, Hid (W4 = w1.setCell ⟨w.heap.size, 3, none⟩ (.slice a1 at'.length q1)) := ⟨_, rfl⟩
  rw [← HW4.out]
  have hs4 : W4.heap.size = w1.heap.size := by rw [HW4.out]; simp
  have hs1 := b1.size
  have N0 := K0.set (i := 3) (.slice a1 at'.length q1)
  have N1 := K1.other (i := 3) (show w.heap.size ≠ w.heap.size + 1 by omega) (.slice a1 at'.length q1)
  rw [← HW4.out] at N0 N1
  have P1 : W4.ownsRow (w.heap.size + 1 + 1) 64 2 (.slice a1 at'.length q1) at'.length (attrCells at') := by rw [HW4.out, ← hsz]; exact row_set_low o1 (by omega) _
  have PK : W4.ownsRow B0 3 1 (.slice ka kids.length kc) kids.length (intCellsI kids) := by
    rw [HW4.out]
    exact owns_grown (owns_below HKd.out (Nat.le_refl _) b1) (grown_set w1 w.heap.size 3 _) (fun b hb e => by have := Hkl.out b hb; have := Option.some.inj e; omega)
  have B4 : Below w.heap.size w W4 := by rw [HW4.out]; exact (HBW.out.trans (b1.mono HBW.out.size)).setCell (p := ⟨w.heap.size, 3, none⟩) (Nat.le_refl _) _
  have ge4 : w.heap.size + 1 + 1 ≤ W4.heap.size := by omega
  clear x3 f3 o1 K0 K1 HW4 HKd M0 M1 HBW hsz hs4 hs1 b1 HW3 HCA
  have HCI : Hid (Calls Try.prog 41 #[.slice ka kids.length kc] W4 fun e w' => ∃ kv', e = .returned kv' ∧ w'.ownsRow W4.heap.size 3 1 kv' kids.length (intCellsI kids) ∧ Below W4.heap.size W4 w') := implCloneI kids _ B0 W4 PK hc
  have y6 := (N0.2 6 (by omega)).1
  simp at y6
  go_wp2_with fail
  refine HCI.out.mono ?_
  rintro e w6 ⟨v2, rfl, o6, b6⟩
  obtain ⟨a2, q2, rfl⟩ := own_form o6
  replace N0 := N0.keep b6
  replace N1 := N1.keep b6
  replace P1 := owns_below P1 (Nat.le_refl _) b6
  have B6 : Below w.heap.size w w6 := B4.trans (b6.mono B4.size)
  have lt40 : w.heap.size < W4.heap.size := by omega
  have f6 := (N0.2 6 (by omega)).2
  clear HCI y6 PK B4 b6
  have dlt : w.heap.size + 1 + 1 ≤ W4.heap.size := ge4
  clear ge4 lt40
  generalize W4.heap.size = d at *
  have l02 : w.heap.size < w.heap.size + 1 + 1 := by omega
  have l12 : w.heap.size + 1 < w.heap.size + 1 + 1 := by omega
  have l0d : w.heap.size < d := by omega
  have l1d : w.heap.size + 1 < d := by omega
  have l01 : w.heap.size ≤ w.heap.size + 1 := by omega
  have l2w : w.heap.size ≤ w.heap.size + 1 + 1 := by omega
  have ldw : w.heap.size ≤ d := by omega
  have n01 : w.heap.size ≠ w.heap.size + 1 := by omega
  have n10 : w.heap.size + 1 ≠ w.heap.size := by omega
  generalize w.heap.size + 1 + 1 = c2 at *
  generalize w.heap.size + 1 = c1 at *
  have y0 := (N0.2 0 (by omega)).1
  have r0 := (N1.2 0 (by omega)).1
  have s0 := (N1.2 0 (by omega)).2
  have y1 := (N0.2 1 (by omega)).1
  have r1 := (N1.2 1 (by omega)).1
  have s1 := (N1.2 1 (by omega)).2
  have y2 := (N0.2 2 (by omega)).1
  have r2 := (N1.2 2 (by omega)).1
  have s2 := (N1.2 2 (by omega)).2
  have y3 := (N0.2 3 (by omega)).1
  have r3 := (N1.2 3 (by omega)).1
  have s3 := (N1.2 3 (by omega)).2
  have y4 := (N0.2 4 (by omega)).1
  have r4 := (N1.2 4 (by omega)).1
  have s4 := (N1.2 4 (by omega)).2
  have y5 := (N0.2 5 (by omega)).1
  have r5 := (N1.2 5 (by omega)).1
  have s5 := (N1.2 5 (by omega)).2
  have y6 := (N0.2 6 (by omega)).1
  have r6 := (N1.2 6 (by omega)).1
  have s6 := (N1.2 6 (by omega)).2
  simp at y0 r0 y1 r1 y2 r2 y3 r3 y4 r4 y5 r5 y6 r6
  have HM : Hid (Many 7 ((((((((w6.setCell ⟨w.heap.size, 6, none⟩ (.slice a2 kids.length q2)).setCell ⟨c1, 0, none⟩ (.int .i64 kd)).setCell ⟨c1, 1, none⟩ (.int .i64 sp)).setCell ⟨c1, 2, none⟩ (.string nm)).setCell ⟨c1, 3, none⟩ (.slice a1 at'.length q1)).setCell ⟨c1, 4, none⟩ (.string tx)).setCell ⟨c1, 5, none⟩ (.int .i64 up)).setCell ⟨c1, 6, none⟩ (.slice a2 kids.length q2)) c1 _) := ((((((((N1.other n01 (i := 6) (.slice a2 kids.length q2)).set (i := 0) (.int .i64 kd)).set (i := 1) (.int .i64 sp)).set (i := 2) (.string nm)).set (i := 3) (.slice a1 at'.length q1)).set (i := 4) (.string tx)).set (i := 5) (.int .i64 up)).set (i := 6) (.slice a2 kids.length q2))
  have H1 : Hid (((((((((w6.setCell ⟨w.heap.size, 6, none⟩ (.slice a2 kids.length q2)).setCell ⟨c1, 0, none⟩ (.int .i64 kd)).setCell ⟨c1, 1, none⟩ (.int .i64 sp)).setCell ⟨c1, 2, none⟩ (.string nm)).setCell ⟨c1, 3, none⟩ (.slice a1 at'.length q1)).setCell ⟨c1, 4, none⟩ (.string tx)).setCell ⟨c1, 5, none⟩ (.int .i64 up)).setCell ⟨c1, 6, none⟩ (.slice a2 kids.length q2)).ownsRow w.heap.size 64 2 (.slice a1 at'.length q1) at'.length (attrCells at')) := own_mono (row_set_low (row_set_low (row_set_low (row_set_low (row_set_low (row_set_low (row_set_low (row_set_low P1 (i := 6) l02 (.slice a2 kids.length q2)) (i := 0) l12 (.int .i64 kd)) (i := 1) l12 (.int .i64 sp)) (i := 2) l12 (.string nm)) (i := 3) l12 (.slice a1 at'.length q1)) (i := 4) l12 (.string tx)) (i := 5) l12 (.int .i64 up)) (i := 6) l12 (.slice a2 kids.length q2)) l2w
  have H2 : Hid (((((((((w6.setCell ⟨w.heap.size, 6, none⟩ (.slice a2 kids.length q2)).setCell ⟨c1, 0, none⟩ (.int .i64 kd)).setCell ⟨c1, 1, none⟩ (.int .i64 sp)).setCell ⟨c1, 2, none⟩ (.string nm)).setCell ⟨c1, 3, none⟩ (.slice a1 at'.length q1)).setCell ⟨c1, 4, none⟩ (.string tx)).setCell ⟨c1, 5, none⟩ (.int .i64 up)).setCell ⟨c1, 6, none⟩ (.slice a2 kids.length q2)).ownsRow w.heap.size 3 1 (.slice a2 kids.length q2) kids.length (intCellsI kids)) := own_mono (row_set_low (row_set_low (row_set_low (row_set_low (row_set_low (row_set_low (row_set_low (row_set_low o6 (i := 6) l0d (.slice a2 kids.length q2)) (i := 0) l1d (.int .i64 kd)) (i := 1) l1d (.int .i64 sp)) (i := 2) l1d (.string nm)) (i := 3) l1d (.slice a1 at'.length q1)) (i := 4) l1d (.string tx)) (i := 5) l1d (.int .i64 up)) (i := 6) l1d (.slice a2 kids.length q2)) ldw
  have HB : Hid (Below w.heap.size w ((((((((w6.setCell ⟨w.heap.size, 6, none⟩ (.slice a2 kids.length q2)).setCell ⟨c1, 0, none⟩ (.int .i64 kd)).setCell ⟨c1, 1, none⟩ (.int .i64 sp)).setCell ⟨c1, 2, none⟩ (.string nm)).setCell ⟨c1, 3, none⟩ (.slice a1 at'.length q1)).setCell ⟨c1, 4, none⟩ (.string tx)).setCell ⟨c1, 5, none⟩ (.int .i64 up)).setCell ⟨c1, 6, none⟩ (.slice a2 kids.length q2))) := ((((((((B6.setCell (p := ⟨w.heap.size, 6, none⟩) (Nat.le_refl _) (.slice a2 kids.length q2)).setCell (p := ⟨c1, 0, none⟩) l01 (.int .i64 kd)).setCell (p := ⟨c1, 1, none⟩) l01 (.int .i64 sp)).setCell (p := ⟨c1, 2, none⟩) l01 (.string nm)).setCell (p := ⟨c1, 3, none⟩) l01 (.slice a1 at'.length q1)).setCell (p := ⟨c1, 4, none⟩) l01 (.string tx)).setCell (p := ⟨c1, 5, none⟩) l01 (.int .i64 up)).setCell (p := ⟨c1, 6, none⟩) l01 (.slice a2 kids.length q2))
  clear N0 N1 P1 o6 B6
  go_wp2_with fail
  refine bodyPost_ret (v := .agg #[.int .i64 kd, .int .i64 sp, .string nm, (.slice a1 at'.length q1), .string tx, .int .i64 up, (.slice a2 kids.length q2)]) ?_ rfl ⟨_, _, rfl, H1.out, H2.out, HB.out⟩
  have t0 := (HM.out.2 0 (by omega)).1
  have t1 := (HM.out.2 1 (by omega)).1
  have t2 := (HM.out.2 2 (by omega)).1
  have t3 := (HM.out.2 3 (by omega)).1
  have t4 := (HM.out.2 4 (by omega)).1
  have t5 := (HM.out.2 5 (by omega)).1
  have t6 := (HM.out.2 6 (by omega)).1
  simp at t0 t1 t2 t3 t4 t5 t6
  simp [results, Try.results36, go_sem, t0, t1, t2, t3, t4, t5, t6]

end Go.Proofs.Ytmkgabbgmhoneaa.Sg

namespace Go.Proofs.Ytmkgabbgmhoneaa.Sg
open Go.ChangeShapes Go.WideShapes Go.ChangeAt Go.RowKit

set_option maxRecDepth 20000 in
set_option maxHeartbeats 8000000 in
theorem implCopyItems (l : List ItB) (v : Value) (B0 : Nat) (w : World) (ho : OwnIts w B0 v l) (hn : l.length ≤ 1073741824) (hat : ∀ t ∈ l, t.ats.length ≤ 1099511627776 ∧ t.kids.length ≤ 1099511627776) :
    Calls Try.prog 27 #[v] w fun e w' => ∃ v', e = .returned v' ∧ OwnIts w' w.heap.size v' l ∧ Below w.heap.size w w' := by
  obtain ⟨i0, hi, hz0, hz1, hz2⟩ := info_parts info_it'
  obtain ⟨L0, rfl, hrow, heach⟩ := ho
  rw [List.length_map] at hn
  obtain ⟨sa, sc, rfl⟩ := own_form hrow
  obtain ⟨n, Hn⟩ : ∃ n, Hid (L0.length = n) := ⟨_, rfl⟩
  have Hrow : Hid (w.ownsRow B0 51 7 (.slice sa L0.length sc) L0.length (itCells L0)) := hrow
  have Heach : Hid (OwnEachI w B0 L0) := heach
  have Hat : Hid (∀ q ∈ L0, q.1.ats.length ≤ 1099511627776 ∧ q.1.kids.length ≤ 1099511627776) := fun q hq => hat q.1 (List.mem_map.2 ⟨q, hq, rfl⟩)
  rw [Hn.out] at Hrow hn ⊢
  obtain ⟨Wm, hmk, hem, gm⟩ := run_make_own (P := Try.prog) w w.heap.size 27 51 i0 (.agg #[.int .i64 0, .int .i64 0, .string ⟨#[]⟩, .slice none 0 0, .string ⟨#[]⟩, .int .i64 0, .slice none 0 0]) 7 Try.underlying27 hi hz0 hz1 .i64 .i64 (n + 1) (by rw [hz2]; omega) (by unfold maxLen; omega) (Nat.le_refl _)
  rw [Int.natCast_add, Int.natCast_one] at hmk
  have gw : IntKind.i64.wrap ((n : Int) + 1) = (n : Int) + 1 := IntWalk.i64_in _ (by omega)
  have HE : Hid (Wm.ownsRow w.heap.size 51 7 (.slice (some ⟨w.heap.size, 0, none⟩) 0 (n + 1)) 0 []) := hem
  have HBm : Hid (Below w.heap.size w Wm) := (Below.refl _ w).grown gm (Nat.le_refl _) (fun k e => by cases e)
  clear hem gm
  clear hrow heach hat
  go_enter Try.func27, Try.ntmps27
  go_wp2_with fail
  go_loopw [3, 12] (fun ov iv wr => ∃ (i : Nat) (L : List It3), i ≤ n ∧ iv = .int .i64 (i : Int) ∧ Hid (L.map (·.1) = (L0.map (·.1)).take i) ∧ Hid (L.length = i) ∧ Hid (wr.ownsRow w.heap.size 51 7 ov i (itCells L)) ∧ Hid (OwnEachI wr w.heap.size L) ∧ Hid (Below w.heap.size w wr)) (fun _ iv _ => n - (intOf iv).toNat)
  case atStart => exact ⟨0, [], Nat.zero_le _, rfl, rfl, rfl, HE, ⟨fun _ h => absurd h List.not_mem_nil, List.Pairwise.nil⟩, HBm.out⟩
  case round =>
    clear HE HBm hmk
    obtain ⟨i, L, hil, rfl, Hmap, HLl, HR, HEa, HB⟩ := hrel
    by_cases hlt : i < n
    · have hi0 : i < L0.length := by rw [Hn.out]; exact hlt
      have srow := owns_below Hrow.out (Nat.le_refl _) HB.out
      have sea := Heach.out.keep HB.out
      rcases srow.2 with ⟨h1, h2⟩ | ⟨g, cap, cur, hv, _⟩
      · exact absurd h2 (by omega)
      cases hv
      have cc : ∀ c, c < 7 → wr.cell? ⟨g, i * 7 + c, none⟩ = (itV (L0[i]'hi0))[c]? := fun c hc => (own_cell srow (j := i * 7 + c) (by omega)).1.trans (itCells_at L0 i c hi0 hc)
      obtain ⟨r1, r2⟩ := sea.1 _ (List.getElem_mem hi0)
      have hlen := Hat.out _ (List.getElem_mem hi0)
      have Htk : Hid ((L0.map (·.1)).take (i + 1) = (L0.map (·.1)).take i ++ [(L0[i]'hi0).1]) := by
        show _ = _
        rw [List.take_add_one, List.getElem?_map, List.getElem?_eq_getElem hi0]
        rfl
      obtain ⟨⟨t, sv, kv⟩, hpe⟩ : ∃ p : It3, L0[i]'hi0 = p := ⟨_, rfl⟩
      rw [hpe] at cc r1 r2 hlen Htk
      simp only at r1 r2 hlen Htk
      obtain ⟨ta, tc, rfl⟩ := own_form r1
      obtain ⟨ka, kc, rfl⟩ := own_form r2
      obtain ⟨kd, sp, nm, ats, tx, up, kids⟩ := t
      simp only at *
      have bb : Below wr.heap.size wr (wr.alloc (.cells #[.int .i64 kd, .int .i64 sp, .string nm, .slice ta ats.length tc, .string tx, .int .i64 up, .slice ka kids.length kc] 51)) := (Below.refl _ _).alloc (Nat.le_refl _) _
      have C := implCopyItem ⟨kd, sp, nm, ats, tx, up, kids⟩ _ _ B0 (wr.alloc (.cells #[.int .i64 kd, .int .i64 sp, .string nm, .slice ta ats.length tc, .string tx, .int .i64 up, .slice ka kids.length kc] 51)) (owns_below r1 (Nat.le_refl _) bb) (owns_below r2 (Nat.le_refl _) bb) hlen.1 hlen.2
      have HBb : Hid (Below wr.heap.size wr (wr.alloc (.cells #[.int .i64 kd, .int .i64 sp, .string nm, .slice ta ats.length tc, .string tx, .int .i64 up, .slice ka kids.length kc] 51))) := bb
      clear bb
      have c0 : wr.cell? ⟨g, i * 7, none⟩ = some (.int .i64 kd) := cc 0 (by omega)
      have c1 : wr.cell? ⟨g, i * 7 + 1, none⟩ = some (.int .i64 sp) := cc 1 (by omega)
      have c2 : wr.cell? ⟨g, i * 7 + 2, none⟩ = some (.string nm) := cc 2 (by omega)
      have c3 : wr.cell? ⟨g, i * 7 + 3, none⟩ = some (.slice ta ats.length tc) := cc 3 (by omega)
      have c4 : wr.cell? ⟨g, i * 7 + 4, none⟩ = some (.string tx) := cc 4 (by omega)
      have c5 : wr.cell? ⟨g, i * 7 + 5, none⟩ = some (.int .i64 up) := cc 5 (by omega)
      have c6 : wr.cell? ⟨g, i * 7 + 6, none⟩ = some (.slice ka kids.length kc) := cc 6 (by omega)
      have k0 : (0 : Int) ≤ (i : Int) := by omega
      have k1 : (i : Int) < (n : Int) := by omega
      clear cc srow sea r1 r2 hpe hlen
      simp only [itV] at C
      go_wp2_with fail
      refine C.mono ?_
      rintro e w1 ⟨sv', kv', rfl, o1, o2, b1⟩
      replace o1 := own_mono o1 HBb.out.size
      replace o2 := own_mono o2 HBb.out.size
      replace b1 := HBb.out.trans (b1.mono HBb.out.size)
      clear HBb
      clear C c0 c1 c2 c3 c4 c5 c6
      obtain ⟨xa, xc, rfl⟩ := own_form o1
      obtain ⟨ya, yc, rfl⟩ := own_form o2
      have hgw : w.heap.size ≤ wr.heap.size := HB.out.size
      have bl1 := b1.size
      obtain ⟨W2, HW2⟩ : ∃ W2, Hid (W2 = w1.alloc (.cells #[.int .i64 kd, .int .i64 sp, .string nm, .slice xa ats.length xc, .string tx, .int .i64 up, .slice ya kids.length yc] 51)) := ⟨_, rfl⟩
      have b2 : Below w1.heap.size w1 W2 := by rw [HW2.out]; exact (Below.refl _ _).alloc (Nat.le_refl _) _
      have hs2 : W2.heap.size = w1.heap.size + 1 := by rw [HW2.out]; simp
      have hblk : W2.heap[w1.heap.size]? = some (.cells #[.int .i64 kd, .int .i64 sp, .string nm, .slice xa ats.length xc, .string tx, .int .i64 up, .slice ya kids.length yc] 51 (0, 0)) := by
        have h := (MapKept.heap_alloc w1 (.cells #[.int .i64 kd, .int .i64 sp, .string nm, .slice xa ats.length xc, .string tx, .int .i64 up, .slice ya kids.length yc] 51)).1
        rw [← HW2.out] at h
        exact h
      have R2 := owns_below (owns_below HR.out (Nat.le_refl _) b1) (Nat.le_refl _) b2
      have E2 : Hid (OwnEachI W2 w.heap.size L) := (HEa.out.keep b1).keep b2
      have O1 : Hid (W2.ownsRow w.heap.size 64 2 (.slice xa ats.length xc) ats.length (attrCells ats)) := own_mono (owns_below o1 (Nat.le_refl _) b2) hgw
      have O2 : Hid (W2.ownsRow w.heap.size 3 1 (.slice ya kids.length yc) kids.length (intCellsI kids)) := own_mono (owns_below o2 (Nat.le_refl _) b2) hgw
      have NW : Hid (∀ q ∈ L, (∀ b, q.2.1.ownBlock = some b → (Value.slice xa ats.length xc).ownBlock ≠ some b) ∧ (∀ b, q.2.2.ownBlock = some b → (Value.slice ya kids.length yc).ownBlock ≠ some b)) := fun q hq =>
        ⟨fun b hb e => by have h1 := ((HEa.out.1 q hq).1.lt b hb).2; have h2 := (o1.lt b e).1; omega, fun b hb e => by have h1 := ((HEa.out.1 q hq).2.lt b hb).2; have h2 := (o2.lt b e).1; omega⟩
      have B2 : Hid (Below w.heap.size w W2) := (HB.out.trans (b1.mono hgw)).trans (b2.mono (Nat.le_trans hgw bl1))
      have hnews := World.news_of_block hblk
      have hone : ∀ y ∈ (#[.int .i64 kd, .int .i64 sp, .string nm, .slice xa ats.length xc, .string tx, .int .i64 up, .slice ya kids.length yc] : Array Value).toList, y.oneCell' = true := itV_one (⟨kd, sp, nm, ats, tx, up, kids⟩, .slice xa ats.length xc, .slice ya kids.length yc) rfl rfl
      have h63 : i + 1 ≤ maxLen := by unfold maxLen; omega
      have hbyt : (i + 1) * 104 ≤ 140737488355328 := by omega
      have hbas : w.heap.size ≤ W2.heap.size := by omega
      have HRr : Hid (wr.ownsRow w.heap.size 51 7 u3 i (itCells L)) := HR.out
      clear o1 o2 b1 b2 HR HEa hs2 hblk
      go_wp2_with (first
        | (at_builtin; rw [← HW2.out]; refine wpList_append_own _ rfl _ _ 27 rfl w.heap.size 51 i0 (.agg #[.int .i64 0, .int .i64 0, .string ⟨#[]⟩, .slice none 0 0, .string ⟨#[]⟩, .int .i64 0, .slice none 0 0]) 7 104 Try.underlying27 hi hz0 hz1 hz2 rfl (by decide) _ _ _ rfl R2 ⟨w1.heap.size, 0, none⟩ 1 1 (#[.int .i64 kd, .int .i64 sp, .string nm, .slice xa ats.length xc, .string tx, .int .i64 up, .slice ya kids.length yc] : Array Value).toList rfl rfl hnews hone h63 hbyt hbas ?_; intro v3 w3 o3 g3 hnil3)
        | go_in)
      have E3 : Hid (OwnEachI w3 w.heap.size (L ++ [(⟨kd, sp, nm, ats, tx, up, kids⟩, .slice xa ats.length xc, .slice ya kids.length yc)])) := each_more E2.out (fun q hq => ⟨fun b hb e => owns_apart R2 (E2.out.1 q hq).1 it_type.1 b e hb, fun b hb e => owns_apart R2 (E2.out.1 q hq).2 it_type.2.1 b e hb⟩) g3 (owns_grown O1.out g3 fun b hb e => owns_apart R2 O1.out it_type.1 b e hb) (owns_grown O2.out g3 fun b hb e => owns_apart R2 O2.out it_type.2.1 b e hb) NW.out
      have R3 : Hid (w3.ownsRow w.heap.size 51 7 v3 (i + 1) (itCells (L ++ [(⟨kd, sp, nm, ats, tx, up, kids⟩, .slice xa ats.length xc, .slice ya kids.length yc)]))) := by
        show World.ownsRow _ _ _ _ _ _ _
        rw [itCells_more]
        exact o3
      have B3 : Hid (Below w.heap.size w w3) := grown_below R2 B2.out (Nat.le_refl _) g3 hbas
      have M3 : Hid ((L ++ [((⟨kd, sp, nm, ats, tx, up, kids⟩, .slice xa ats.length xc, .slice ya kids.length yc) : It3)]).map (·.1) = (L0.map (·.1)).take (i + 1)) := by
        show _ = _
        rw [Htk.out, List.map_append, Hmap.out]
        rfl
      have L3 : Hid ((L ++ [((⟨kd, sp, nm, ats, tx, up, kids⟩, .slice xa ats.length xc, .slice ya kids.length yc) : It3)]).length = i + 1) := by show _ = _; rw [List.length_append, HLl.out]; rfl
      clear o3 g3 E2 O1 O2 NW R2 hnews hone B2 hbas
      go_roundw
      case rel => exact ⟨i + 1, _, by omega, by go_num, M3, L3, R3, E3, B3⟩
      case measure => simp [intOf]; omega
    · have hin : i = n := by omega
      subst hin
      have hfull : (L0.map (·.1)).take i = L0.map (·.1) := List.take_of_length_le (by rw [List.length_map, Hn.out]; exact Nat.le_refl _)
      have HF : Hid (OwnIts wr w.heap.size u3 (L0.map (·.1))) := ⟨L, Hmap.out.trans hfull, by rw [HLl.out]; exact HR.out, HEa.out⟩
      clear hfull
      go_wp2_with fail
      go_ret
      exact ⟨_, rfl, HF.out, HB.out⟩

end Go.Proofs.Ytmkgabbgmhoneaa.Sg

namespace Go.Proofs.Ytmkgabbgmhoneaa.Sg
open Go.ChangeShapes Go.WideShapes Go.ChangeAt Go.RowKit

set_option maxRecDepth 20000 in
set_option maxHeartbeats 4000000 in
theorem implCopied (zs : List Int) (kv : Value) (B0 : Nat) (w : World) (hk : w.ownsRow B0 3 1 kv zs.length (intCellsI zs)) (hc : zs.length ≤ 1099511627776) :
    Calls Try.prog 28 #[kv] w fun e w' => ∃ kv', e = .returned kv' ∧ w'.ownsRow w.heap.size 3 1 kv' zs.length (intCellsI zs) ∧ Below w.heap.size w w' := by
  obtain ⟨j0, gi, gz0, gz1, gz2⟩ := info_parts info_int
  obtain ⟨sa, sc, rfl⟩ := own_form hk
  have hcs : (intCellsI zs).length = zs.length := by unfold intCellsI; rw [List.length_map]
  obtain ⟨n, Hn⟩ : ∃ n, Hid (zs.length = n) := ⟨_, rfl⟩
  rw [Hn.out] at hk hc hcs ⊢
  have hmk := run_make (P := Try.prog) w 53 3 j0 _ Try.underlying53 gi gz0 .i64 .i64 n n (by omega) (Int.le_refl _) (by rw [gz2]; omega) (by omega)
  rw [gz1, Nat.mul_one, Int.toNat_natCast] at hmk
  obtain ⟨C, hC⟩ : ∃ C, madeCells (Value.int .i64 0).cells n = C := ⟨_, rfl⟩
  have hCs : C.toList.length = n := by rw [← hC, Array.length_toList, size_madeCells]
  rw [hC] at hmk
  have hg : (w.alloc (.cells C 3)).heap[w.heap.size]? = some (.cells C.toList.toArray 3 (0, 0)) := by
    rw [Array.toArray_toList]
    exact (MapKept.heap_alloc w (.cells C 3)).1
  have hb : Below w.heap.size w (w.alloc (.cells C 3)) := (Below.refl _ _).alloc (Nat.le_refl _) _
  have hsz : (Try.prog.info? 3).map (·.size) = some 1 := by rw [gi]; simp [gz1]
  have hpos : 0 < (intCellsI zs).length → (some (⟨w.heap.size, 0, none⟩ : Addr)) = some ⟨w.heap.size, 0, none⟩ ∧ ∃ ad, sa = some ad ∧ ∀ j v, (intCellsI zs)[j]? = some v → (w.alloc (.cells C 3)).cell? (ad.add j) = some v := fun h0 => by
    refine ⟨rfl, ?_⟩
    rcases hk.2 with ⟨h1, h2⟩ | ⟨g, cap, cur, h1, _⟩
    · omega
    · cases h1
      refine ⟨_, rfl, fun j v hj => ?_⟩
      have hjl : j < n * 1 := by have := (List.getElem?_eq_some_iff.1 hj).1; omega
      have hc := (own_cell hk hjl).1
      rw [hj] at hc
      have e : (⟨g, 0, none⟩ : Addr).add j = ⟨g, j, none⟩ := by unfold Addr.add; by_cases h : j = 0 <;> simp [h]
      rw [e]
      exact keep_cell hb hc
  have hmin : (intCellsI zs).length = Nat.min n n := by rw [hcs]; exact (Nat.min_self n).symm
  have hfit : 0 + (intCellsI zs).length ≤ C.toList.length := by omega
  have Hone := int_one zs
  have Hres : Hid (∀ w' : World, w'.heap[w.heap.size]? = some (.cells (splice C.toList 0 (intCellsI zs)).toArray 3 (0, 0)) → w'.ownsRow w.heap.size 3 1 (.slice (some ⟨w.heap.size, 0, none⟩) n n) n (intCellsI zs)) := fun w' h => by
    have e : splice C.toList 0 (intCellsI zs) = intCellsI zs := by
      unfold splice
      rw [List.take_zero, List.nil_append, List.drop_eq_nil_of_le (by omega), List.append_nil]
    rw [e] at h
    exact ⟨by omega, .inr ⟨_, n, _, rfl, Nat.le_refl _, h, Nat.le_refl _, by unfold maxLen; omega, by rw [List.size_toArray]; omega, by rw [List.toList_toArray]; exact List.take_of_length_le (by omega)⟩⟩
  generalize intCellsI zs = cs at *
  clear hk hC hcs hCs
  go_enter Try.func28, Try.ntmps28
  go_wp2_with (refine wpList_copy_splice rfl _ _ 53 53 rfl 3 Try.underlying53 hsz (some ⟨w.heap.size, 0, none⟩) sa n n n sc rfl rfl w.heap.size 0 C.toList 3 hg cs hmin hpos hfit Hone w.heap.size w hb (Nat.le_refl _) ?_; intro w' hg' hb')

  go_ret
  exact ⟨_, rfl, Hres.out _ hg'.out, hb'⟩

end Go.Proofs.Ytmkgabbgmhoneaa.Sg

namespace Go.Proofs.Ytmkgabbgmhoneaa.Sg
open Go.ChangeShapes Go.WideShapes Go.ChangeAt Go.RowKit

theorem kb_low {W : World} {c i H : Nat} (x : Value) (h : c < H) : Kb W (W.setCell ⟨c, i, none⟩ x) (fun b => b < H) := kb_set W c i x h
theorem own_late {w w' : World} {B H : Nat} {e : TypeId} {z : Nat} {v : Value} {n : Nat} {xs : List Value} (h : w.ownsRow B e z v n xs) (hB : H ≤ B) (hk : Kb w w' (fun b => b < H)) : w'.ownsRow B e z v n xs :=
  hk.owns h fun b hb hlt => by have := (h.lt b hb).1; omega

set_option maxRecDepth 20000 in
set_option maxHeartbeats 8000000 in
theorem implCopyPage (p : PgB) (v : Value) (B0 : Nat) (w : World) (hv : OwnPg w B0 v p) (hn : p.its.length ≤ 1073741824) (hat : ∀ t ∈ p.its, t.ats.length ≤ 1099511627776 ∧ t.kids.length ≤ 1099511627776) (ho : p.opn.length ≤ 1099511627776) (hf : p.fms.length ≤ 1099511627776) :
    Calls Try.prog 16 #[v] w fun e w' => ∃ x', e = .returned x' ∧ OwnPg w' w.heap.size x' p ∧ Below w.heap.size w w' := by
  obtain ⟨its, opn, fms, hd, bd⟩ := p
  simp only at *
  obtain ⟨iv, ov, fv, rfl, L, hL, hi, hie, hO, hF, -⟩ := hv
  simp only at hL hO hF ⊢
  have hI : OwnIts w B0 iv its := ⟨L, hL, hi, hie⟩
  clear hi hie hL L
  obtain ⟨ia, ic, rfl⟩ : ∃ a c, iv = .slice a its.length c := by obtain ⟨a, c, h, _⟩ := its_of_own hI; exact ⟨a, c, h⟩
  obtain ⟨oa, oc, rfl⟩ := own_form hO
  obtain ⟨fa, fc, rfl⟩ := own_form hF
  obtain ⟨W2, HW2⟩ : ∃ W2, Hid (W2 = ((w.alloc (.cells #[.slice ia its.length ic, .slice oa opn.length oc, .slice fa fms.length fc, .int .i64 hd, .int .i64 bd] 29)).alloc (.cells #[.slice none 0 0, .slice none 0 0, .slice none 0 0, .int .i64 0, .int .i64 0] 29))) := ⟨_, rfl⟩
  have M0 : Many 5 W2 w.heap.size (fun i => [Value.slice ia its.length ic, .slice oa opn.length oc, .slice fa fms.length fc, .int .i64 hd, .int .i64 bd].getD i undef) := by
    rw [HW2.out]
    exact (Many.new w [Value.slice ia its.length ic, .slice oa opn.length oc, .slice fa fms.length fc, .int .i64 hd, .int .i64 bd] 29 undef).below (B := w.heap.size + 1) (Nat.lt_succ_self _) ((Below.refl _ _).alloc (by simp) _)
  have M1 : Many 5 W2 (w.heap.size + 1) (fun i => [Value.slice none 0 0, .slice none 0 0, .slice none 0 0, .int .i64 0, .int .i64 0].getD i undef) := by
    rw [HW2.out]
    have h := Many.new (w.alloc (.cells #[.slice ia its.length ic, .slice oa opn.length oc, .slice fa fms.length fc, .int .i64 hd, .int .i64 bd] 29)) [Value.slice none 0 0, .slice none 0 0, .slice none 0 0, .int .i64 0, .int .i64 0] 29 undef
    rw [show (w.alloc (.cells #[.slice ia its.length ic, .slice oa opn.length oc, .slice fa fms.length fc, .int .i64 hd, .int .i64 bd] 29)).heap.size = w.heap.size + 1 by simp] at h
    exact h
  have B2 : Below w.heap.size w W2 := by rw [HW2.out]; exact ((Below.refl _ _).alloc (Nat.le_refl _) _).alloc (by simp) _
  have hs2 : W2.heap.size = w.heap.size + 1 + 1 := by rw [HW2.out]; simp
  have C1 := implCopyItems its _ B0 W2 (hI.keep B2) hn hat
  have ko : Hid (W2.ownsRow B0 3 1 (.slice oa opn.length oc) opn.length (intCellsI opn)) := owns_below hO (Nat.le_refl _) B2
  have kf : Hid (W2.ownsRow B0 3 1 (.slice fa fms.length fc) fms.length (intCellsI fms)) := owns_below hF (Nat.le_refl _) B2
  have lo : Hid (∀ b, (Value.slice oa opn.length oc).ownBlock = some b → b < w.heap.size) := fun b hb => (hO.lt b hb).2
  have lf : Hid (∀ b, (Value.slice fa fms.length fc).ownBlock = some b → b < w.heap.size) := fun b hb => (hF.lt b hb).2
  have HM0 : Hid (Many 5 W2 w.heap.size _) := M0
  have HM1 : Hid (Many 5 W2 (w.heap.size + 1) _) := M1
  have HB2 : Hid (Below w.heap.size w W2) := B2
  clear hI hO hF hat M0 M1 B2
  go_enter Try.func16, Try.ntmps16
  go_wp2_with fail
  rw [← HW2.out]
  refine C1.mono ?_
  rintro e w1 ⟨v1, rfl, o1, b1⟩
  obtain ⟨ja, jc, rfl⟩ : ∃ a c, v1 = .slice a its.length c := by obtain ⟨a, c, h, _⟩ := its_of_own o1; exact ⟨a, c, h⟩
  have K0 := HM0.out.keep b1
  have K1 := HM1.out.keep b1
  have x0 := (K0.2 0 (by omega)).1
  have f0 := (K0.2 0 (by omega)).2
  simp at x0
  go_upto_region 2 with fail
  obtain ⟨W3, HW3⟩ : ∃ W3, Hid (W3 = w1.setCell ⟨w.heap.size, 0, none⟩ (.slice ja its.length jc)) := ⟨_, rfl⟩
  rw [← HW3.out]
  have hs3 : W3.heap.size = w1.heap.size := by rw [HW3.out]; simp
  have hs1 := b1.size
  have M0' := K0.set (i := 0) (.slice ja its.length jc)
  rw [← HW3.out] at M0'
  have M0 : Hid (Many 5 W3 w.heap.size _) := M0'
  clear M0'
  have M1' := K1.other (i := 0) (show w.heap.size ≠ w.heap.size + 1 by omega) (.slice ja its.length jc)
  rw [← HW3.out] at M1'
  have M1 : Hid (Many 5 W3 (w.heap.size + 1) _) := M1'
  clear M1'
  have k13 : Hid (Kb w1 W3 (fun b => b < w.heap.size + 1 + 1)) := by rw [HW3.out]; exact kb_low _ (by omega)
  have k23 : Kb W2 W3 (fun b => b = w.heap.size) := by rw [HW3.out]; exact (Kb.of_below b1 _).trans (kb_set _ _ _ _ rfl)
  have HB3 : Hid (Below w.heap.size w W3) := by show Below _ _ _; rw [HW3.out]; exact (below_then HB2.out b1).setCell (p := ⟨w.heap.size, 0, none⟩) (Nat.le_refl _) _
  have C2 := implCopied opn _ B0 W3 (k23.owns ko.out fun b hb e => by have := lo.out b hb; omega) ho
  have kf3 : Hid (W3.ownsRow B0 3 1 (.slice fa fms.length fc) fms.length (intCellsI fms)) := k23.owns kf.out fun b hb e => by have := lf.out b hb; omega
  have O1 : Hid (OwnIts w1 W2.heap.size (.slice ja its.length jc) its) := o1
  have Hs3 : Hid (W3.heap.size = w1.heap.size ∧ W2.heap.size ≤ w1.heap.size ∧ W2.heap.size = w.heap.size + 1 + 1) := ⟨hs3, hs1, hs2⟩
  have y1 := (M0.out.2 1 (by omega)).1
  simp at y1
  clear HM0 HM1 HB2 ko kf lo K0 K1 x0 f0 hs3 hs1 b1 o1 C1 k23 hs2 HW3 HW2
  go_wp2_with fail
  refine C2.mono ?_
  rintro e w4 ⟨v2, rfl, o2, b4⟩
  obtain ⟨na, nc, rfl⟩ := own_form o2
  have K0 := M0.out.keep b4
  have K1 := M1.out.keep b4
  have x1 := (K0.2 1 (by omega)).1
  have f1 := (K0.2 1 (by omega)).2
  simp at x1
  clear y1 C2
  go_upto_region 3 with fail
  obtain ⟨W5, HW5⟩ : ∃ W5, Hid (W5 = w4.setCell ⟨w.heap.size, 1, none⟩ (.slice na opn.length nc)) := ⟨_, rfl⟩
  rw [← HW5.out]
  have hs5 : W5.heap.size = w4.heap.size := by rw [HW5.out]; simp
  have hs4 := b4.size
  have N0' := K0.set (i := 1) (.slice na opn.length nc)
  rw [← HW5.out] at N0'
  have N0 : Hid (Many 5 W5 w.heap.size _) := N0'
  clear N0'
  have N1' := K1.other (i := 1) (show w.heap.size ≠ w.heap.size + 1 by omega) (.slice na opn.length nc)
  rw [← HW5.out] at N1'
  have N1 : Hid (Many 5 W5 (w.heap.size + 1) _) := N1'
  clear N1'
  have k45 : Hid (Kb w4 W5 (fun b => b < w.heap.size + 1 + 1)) := by rw [HW5.out]; exact kb_low _ (by omega)
  have k35 : Kb W3 W5 (fun b => b = w.heap.size) := by rw [HW5.out]; exact (Kb.of_below b4 _).trans (kb_set _ _ _ _ rfl)
  have k15 : Hid (Kb w1 W5 (fun b => b < w.heap.size + 1 + 1)) := (k13.out.trans (Kb.of_below b4 _)).trans k45.out
  have HB5 : Hid (Below w.heap.size w W5) := by show Below _ _ _; rw [HW5.out]; exact (below_then HB3.out b4).setCell (p := ⟨w.heap.size, 1, none⟩) (Nat.le_refl _) _
  have C3 := implCopied fms _ B0 W5 (k35.owns kf3.out fun b hb e => by have := lf.out b hb; omega) hf
  have O2 : Hid (w4.ownsRow W3.heap.size 3 1 (.slice na opn.length nc) opn.length (intCellsI opn)) := o2
  have Hs5 : Hid (W5.heap.size = w4.heap.size ∧ W3.heap.size ≤ w4.heap.size) := ⟨hs5, hs4⟩
  have y2 := (N0.out.2 2 (by omega)).1
  simp at y2
  clear M0 M1 HB3 kf3 lf K0 K1 x1 f1 hs5 hs4 b4 o2 k35 HW5 k13
  go_wp2_with fail
  refine C3.mono ?_
  rintro e w6 ⟨v3, rfl, o3, b6⟩
  obtain ⟨ma, mc, rfl⟩ := own_form o3
  clear y2 C3
  have K0 := N0.out.keep b6
  have K1 := N1.out.keep b6
  have y0 := (K0.2 0 (by omega)).1
  have y1 := (K0.2 1 (by omega)).1
  have y2 := (K0.2 2 (by omega)).1
  have y3 := (K0.2 3 (by omega)).1
  have y4 := (K0.2 4 (by omega)).1
  have f2 := (K0.2 2 (by omega)).2
  have r0 := (K1.2 0 (by omega)).1
  have r1 := (K1.2 1 (by omega)).1
  have r2 := (K1.2 2 (by omega)).1
  have r3 := (K1.2 3 (by omega)).1
  have r4 := (K1.2 4 (by omega)).1
  have s0 := (K1.2 0 (by omega)).2
  have s1 := (K1.2 1 (by omega)).2
  have s2 := (K1.2 2 (by omega)).2
  have s3 := (K1.2 3 (by omega)).2
  have s4 := (K1.2 4 (by omega)).2
  simp at y0 y1 y2 y3 y4 r0 r1 r2 r3 r4
  have HT : Hid _ := st5_all (W := w6.setCell ⟨w.heap.size, 2, none⟩ (.slice ma fms.length mc)) (c := w.heap.size + 1) (x0 := .slice ja its.length jc) (x1 := .slice na opn.length nc) (x2 := .slice ma fms.length mc) (x3 := .int .i64 hd) (x4 := .int .i64 bd) (fun i hi => ⟨_, ((K1.other (i := 2) (show w.heap.size ≠ w.heap.size + 1 by omega) (.slice ma fms.length mc)).2 i hi).1⟩)
  have kF : Kb w6 (((((((w6.setCell ⟨w.heap.size, 2, none⟩ (.slice ma fms.length mc)).setCell ⟨w.heap.size + 1, 0, none⟩ (.slice ja its.length jc)).setCell ⟨w.heap.size + 1, 1, none⟩ (.slice na opn.length nc)).setCell ⟨w.heap.size + 1, 2, none⟩ (.slice ma fms.length mc)).setCell ⟨w.heap.size + 1, 3, none⟩ (.int .i64 hd)).setCell ⟨w.heap.size + 1, 4, none⟩ (.int .i64 bd))) (fun b => b < w.heap.size + 1 + 1) := (kb_low _ (by omega)).trans (st5_kb (by omega))
  have HBF : Hid (Below w.heap.size w (((((((w6.setCell ⟨w.heap.size, 2, none⟩ (.slice ma fms.length mc)).setCell ⟨w.heap.size + 1, 0, none⟩ (.slice ja its.length jc)).setCell ⟨w.heap.size + 1, 1, none⟩ (.slice na opn.length nc)).setCell ⟨w.heap.size + 1, 2, none⟩ (.slice ma fms.length mc)).setCell ⟨w.heap.size + 1, 3, none⟩ (.int .i64 hd)).setCell ⟨w.heap.size + 1, 4, none⟩ (.int .i64 bd)))) := st5_below (Nat.le_succ _) ((below_then HB5.out b6).setCell (p := ⟨w.heap.size, 2, none⟩) (Nat.le_refl _) _)
  have HP : Hid (OwnPg (((((((w6.setCell ⟨w.heap.size, 2, none⟩ (.slice ma fms.length mc)).setCell ⟨w.heap.size + 1, 0, none⟩ (.slice ja its.length jc)).setCell ⟨w.heap.size + 1, 1, none⟩ (.slice na opn.length nc)).setCell ⟨w.heap.size + 1, 2, none⟩ (.slice ma fms.length mc)).setCell ⟨w.heap.size + 1, 3, none⟩ (.int .i64 hd)).setCell ⟨w.heap.size + 1, 4, none⟩ (.int .i64 bd))) w.heap.size (.agg #[.slice ja its.length jc, .slice na opn.length nc, .slice ma fms.length mc, .int .i64 hd, .int .i64 bd]) ⟨its, opn, fms, hd, bd⟩) := by
    obtain ⟨L, g1, g2, g3⟩ := O1.out
    obtain ⟨e1, e2, e3⟩ := Hs3.out
    obtain ⟨e4, e5⟩ := Hs5.out
    have k1F := (k15.out.trans (Kb.of_below b6 _)).trans kF
    have k4F := (k45.out.trans (Kb.of_below b6 _)).trans kF
    refine ⟨_, _, _, rfl, L, g1, own_mono (own_late g2 (by omega) k1F) (by omega), ⟨fun q hq => ⟨own_mono (own_late (g3.1 q hq).1 (by omega) k1F) (by omega), own_mono (own_late (g3.1 q hq).2 (by omega) k1F) (by omega)⟩, g3.2⟩, own_mono (own_late O2.out (by omega) k4F) (by omega), own_mono (own_late o3 (by omega) kF) (by omega), ⟨fun b hb e => ?_, fun q hq b hb => ⟨fun e => ?_, fun e => ?_⟩⟩⟩
    · have h1 := (O2.out.lt b hb).2
      have h2 := (o3.lt b e).1
      omega
    · have h1 := ((g3.1 q hq).2.lt b hb).2
      have h2 := (O2.out.lt b e).1
      omega
    · have h1 := ((g3.1 q hq).2.lt b hb).2
      have h2 := (o3.lt b e).1
      omega
  have n01 : w.heap.size ≠ w.heap.size + 1 := by omega
  have n10 : w.heap.size + 1 ≠ w.heap.size := by omega
  clear K0 K1 N0 N1 kF k45 k15 HB5 O1 O2 o3 b6 Hs3 Hs5
  generalize w.heap.size + 1 = c1 at *
  go_wp2_with fail
  refine bodyPost_ret (v := .agg #[.slice ja its.length jc, .slice na opn.length nc, .slice ma fms.length mc, .int .i64 hd, .int .i64 bd]) ?_ rfl ⟨_, rfl, HP.out, HBF.out⟩
  obtain ⟨t0, t1, t2, t3, t4⟩ := HT.out
  simp [results, Try.results16, go_sem, t0, t1, t2, t3, t4]

end Go.Proofs.Ytmkgabbgmhoneaa.Sg

namespace Go.Proofs.Ytmkgabbgmhoneaa.Sg
open Go.ChangeShapes Go.WideShapes Go.ChangeAt Go.RowKit

/-- A part of an owned row, from its beginning on. -/
theorem own_take {w : World} {B : Nat} {a : Option Addr} {n c m : Nat} {zs : List Int} {e : TypeId} (h : w.ownsRow B e 1 (.slice a n c) n (intCellsI zs)) (hm : m ≤ n) : w.ownsRow B e 1 (.slice a m c) m (intCellsI (zs.take m)) := by
  obtain ⟨h1, h2⟩ := h
  have hz : zs.length = n := by simpa [intCellsI] using h1
  refine ⟨by simp [intCellsI]; omega, ?_⟩
  rcases h2 with ⟨h2, h0⟩ | ⟨g, cap, cur, h2, h3, h4, h5, h6, h7, h8⟩
  · left
    cases h2
    exact ⟨by rw [show m = 0 by omega], by omega⟩
  · right
    cases h2
    refine ⟨g, c, cur, rfl, h3, h4, by omega, h6, h7, ?_⟩
    have e1 : intCellsI (zs.take m) = (intCellsI zs).take m := by simp [intCellsI, List.map_take]
    rw [e1, ← h8, List.take_take]
    congr 1
    omega
theorem own_block {a : Option Addr} {n c m : Nat} : (Value.slice a m c).ownBlock = (Value.slice a n c).ownBlock := by cases a <;> rfl

/-- A page in a box. -/
structure BxS (wr : World) (bp B : Nat) (iv ov fv : Value) (q : PgB) : Prop where
  box : Many 5 wr bp (fun i => [iv, ov, fv, .int .i64 q.hd, .int .i64 q.bd].getD i undef)
  own : OwnPg3 wr B iv ov fv q
  low : bp < B

theorem OwnPg3.kb {w w' : World} {B : Nat} {iv ov fv : Value} {p : PgB} (h : OwnPg3 w B iv ov fv p) (hk : Kb w w' (fun b => b < B)) : OwnPg3 w' B iv ov fv p := by
  obtain ⟨L, h1, h2, h3, h4, h5, h6⟩ := h
  exact ⟨L, h1, own_late h2 (Nat.le_refl _) hk, ⟨fun q hq => ⟨own_late (h3.1 q hq).1 (Nat.le_refl _) hk, own_late (h3.1 q hq).2 (Nat.le_refl _) hk⟩, h3.2⟩, own_late h4 (Nat.le_refl _) hk, own_late h5 (Nat.le_refl _) hk, h6⟩

theorem BxS.keep {wr wr' : World} {bp B : Nat} {iv ov fv : Value} {q : PgB} (h : BxS wr bp B iv ov fv q) (hb : Below wr.heap.size wr wr') : BxS wr' bp B iv ov fv q :=
  ⟨h.box.keep hb, h.own.keep hb, h.low⟩
theorem BxS.pg {wr : World} {bp B : Nat} {iv ov fv : Value} {q : PgB} (h : BxS wr bp B iv ov fv q) : PgAt wr (.agg #[iv, ov, fv, .int .i64 q.hd, .int .i64 q.bd]) q :=
  pg_of_own ⟨iv, ov, fv, rfl, h.own⟩
theorem BxS.forms {wr : World} {bp B : Nat} {iv ov fv : Value} {q : PgB} (h : BxS wr bp B iv ov fv q) : ∃ ia ic oa oc fa fc, iv = .slice ia q.its.length ic ∧ ov = .slice oa q.opn.length oc ∧ fv = .slice fa q.fms.length fc := by
  obtain ⟨ia, ic, oa, oc, fa, fc, e, _⟩ := h.pg
  injection e with e
  simp at e
  exact ⟨ia, ic, oa, oc, fa, fc, e.1, e.2.1, e.2.2⟩

/-- What is open is cut. -/
theorem BxS.cutO {wr : World} {bp B : Nat} {iv fv : Value} {oa : Option Addr} {n oc : Nat} {q : PgB} (h : BxS wr bp B iv (.slice oa n oc) fv q) (hn : q.opn.length = n) {m : Nat} (hm : m ≤ n) :
    BxS (wr.setCell ⟨bp, 1, none⟩ (.slice oa m oc)) bp B iv (.slice oa m oc) fv { q with opn := q.opn.take m } := by
  have k : Kb wr (wr.setCell ⟨bp, 1, none⟩ (.slice oa m oc)) (fun b => b < B) := kb_low _ h.low
  subst hn
  refine ⟨(h.box.set (i := 1) (.slice oa m oc)).cong fun i hi => ?_, ?_, h.low⟩
  · match i, hi with
    | 0, _ => rfl
    | 1, _ => rfl
    | 2, _ => rfl
    | 3, _ => rfl
    | 4, _ => rfl
  · obtain ⟨L, h1, h2, h3, h4, h5, h6, h7⟩ := h.own.kb k
    have hl : (q.opn.take m).length = m := by rw [List.length_take]; omega
    refine ⟨L, h1, h2, h3, ?_, h5, fun b hb => h6 b (by rw [← hb]; exact own_block), fun y hy b hb => ⟨fun e => (h7 y hy b hb).1 (by rw [← e]; exact own_block), (h7 y hy b hb).2⟩⟩
    show World.ownsRow _ _ _ _ _ (q.opn.take m).length _
    rw [hl]
    exact own_take h4 hm
/-- Formats are cut. -/
theorem BxS.cutF {wr : World} {bp B : Nat} {iv ov : Value} {fa : Option Addr} {n fc : Nat} {q : PgB} (h : BxS wr bp B iv ov (.slice fa n fc) q) (hn : q.fms.length = n) {m : Nat} (hm : m ≤ n) :
    BxS (wr.setCell ⟨bp, 2, none⟩ (.slice fa m fc)) bp B iv ov (.slice fa m fc) { q with fms := q.fms.take m } := by
  have k : Kb wr (wr.setCell ⟨bp, 2, none⟩ (.slice fa m fc)) (fun b => b < B) := kb_low _ h.low
  subst hn
  refine ⟨(h.box.set (i := 2) (.slice fa m fc)).cong fun i hi => ?_, ?_, h.low⟩
  · match i, hi with
    | 0, _ => rfl
    | 1, _ => rfl
    | 2, _ => rfl
    | 3, _ => rfl
    | 4, _ => rfl
  · obtain ⟨L, h1, h2, h3, h4, h5, h6, h7⟩ := h.own.kb k
    have hl : (q.fms.take m).length = m := by rw [List.length_take]; omega
    refine ⟨L, h1, h2, h3, h4, ?_, fun b hb e => h6 b hb (by rw [← e]; exact own_block), fun y hy b hb => ⟨(h7 y hy b hb).1, fun e => (h7 y hy b hb).2 (by rw [← e]; exact own_block)⟩⟩
    show World.ownsRow _ _ _ _ _ (q.fms.take m).length _
    rw [hl]
    exact own_take h5 hm

/-- Five cells are written: the box holds them. -/
theorem many_st5 {W : World} {c : Nat} {f : Nat → Value} (h : Many 5 W c f) (x0 x1 x2 x3 x4 : Value) :
    Many 5 (((((W.setCell ⟨c, 0, none⟩ x0).setCell ⟨c, 1, none⟩ x1).setCell ⟨c, 2, none⟩ x2).setCell ⟨c, 3, none⟩ x3).setCell ⟨c, 4, none⟩ x4) c (fun i => [x0, x1, x2, x3, x4].getD i undef) :=
  (((((h.set (i := 0) x0).set (i := 1) x1).set (i := 2) x2).set (i := 3) x3).set (i := 4) x4).cong fun i hi => by
    match i, hi with
    | 0, _ => rfl
    | 1, _ => rfl
    | 2, _ => rfl
    | 3, _ => rfl
    | 4, _ => rfl

end Go.Proofs.Ytmkgabbgmhoneaa.Sg
