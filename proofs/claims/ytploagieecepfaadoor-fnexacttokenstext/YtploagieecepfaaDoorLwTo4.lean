/- The laws' words, laid anew. -/
import Derived.Test.YtploagieecepfaaDoorLwTo3
import Derived.Test.YtploagieecepfaaDoorLwTo2
namespace Go.Proofs.YtploagieecepfaaDoor.Sg
open Go.ChangeShapes Go.WideShapes Go.ChangeAt Go.RowKit

/-- A block has five cells that may be written. -/
def Five (w : World) (b : Nat) (f : Nat → Value) : Prop := b < w.heap.size ∧ ∀ i, i < 5 → w.cell? ⟨b, i, none⟩ = some (f i) ∧ w.frozen? ⟨b, i, none⟩ = false
theorem Five.set {w : World} {b i : Nat} {f : Nat → Value} (h : Five w b f) (hi : i < 5) (v : Value) : Five (w.setCell ⟨b, i, none⟩ v) b (fun j => if j = i then v else f j) := by
  refine ⟨by simpa using h.1, fun j hj => ⟨?_, by simpa using (h.2 j hj).2⟩⟩
  show _ = some (if j = i then v else f j)
  by_cases e : j = i
  · subst e
    rw [if_pos rfl]
    exact World.cell?_setCell_same _ _ _ (h.2 j hj).1
  · rw [if_neg e]
    exact (World.cell?_setCell_other _ _ _ _ (by intro e2; apply e; exact (congrArg Addr.off e2).symm)).trans (h.2 j hj).1
theorem Five.other {w : World} {b c i : Nat} {f : Nat → Value} (h : Five w b f) (hc : c ≠ b) (v : Value) : Five (w.setCell ⟨c, i, none⟩ v) b f :=
  ⟨by simpa using h.1, fun j hj => ⟨(World.cell?_setCell_other _ _ _ _ (fun e => hc (congrArg Addr.block e))).trans (h.2 j hj).1, by simpa using (h.2 j hj).2⟩⟩
theorem Five.below {w w' : World} {b B : Nat} {f : Nat → Value} (h : Five w b f) (hB : b < B) (hb : Below B w w') : Five w' b f :=
  ⟨Nat.lt_of_lt_of_le h.1 hb.size, fun j hj => ⟨(hb.cell hB).trans (h.2 j hj).1, (hb.frozen hB).trans (h.2 j hj).2⟩⟩
theorem Five.alloc {w : World} {b : Nat} {f : Nat → Value} (h : Five w b f) (o : Obj) : Five (w.alloc o) b f := h.below h.1 ((Below.refl _ _).alloc (Nat.le_refl _) _)
theorem Five.new (w : World) (x0 x1 x2 x3 x4 : Value) (t : TypeId) : Five (w.alloc (.cells #[x0, x1, x2, x3, x4] t)) w.heap.size (fun i => [x0, x1, x2, x3, x4].getD i x0) := by
  refine ⟨by simp, fun j hj => ⟨?_, by simp⟩⟩
  rw [World.cell?_alloc_new]
  match j, hj with
  | 0, _ => rfl
  | 1, _ => rfl
  | 2, _ => rfl
  | 3, _ => rfl
  | 4, _ => rfl

set_option maxHeartbeats 2000000 in
theorem toToken_any (t : TokB) (sv : Value) (w : World) (hs : SlAttrsIn w sv t.2.2.1) (hn : t.2.2.1.length ≤ 1099511627776) :
    Calls Tryd.prog 7 #[.agg (tokV (t, sv)).toArray] w fun e w' => ∃ sv', e = .returned (.agg (tokV (t, sv')).toArray) ∧ w'.ownsRow w.heap.size 59 2 sv' t.2.2.1.length (attrCells t.2.2.1) ∧ Below w.heap.size w w' := by
  obtain ⟨kd, nm, at', tx, sf⟩ := t
  obtain ⟨a, cap, rfl, hA⟩ := hs
  simp only at hn hA
  have HA : Hid (∀ W, Below w.heap.size w W → Calls Tryd.prog 19 #[.slice a at'.length cap] W fun e w' => e = .returned (.slice (some ⟨W.heap.size, 0, none⟩) at'.length at'.length) ∧ w'.ownsRow W.heap.size 59 2 (.slice (some ⟨W.heap.size, 0, none⟩) at'.length at'.length) at'.length (attrCells at') ∧ Below W.heap.size W w') := fun W hW => toAttrS_any at' a at'.length cap W (hA.keep hW) rfl hn
  clear hA
  simp only [tokV]
  go_enter Tryd.func7, Tryd.ntmps7
  go_wp2_with fail
  refine (HA.out _ ?_).mono ?_
  · exact (((Below.refl _ _).alloc (Nat.le_refl _) _).alloc (by simp) _).alloc (by simp; omega) _
  rintro e w1 ⟨rfl, o1, b1⟩
  have F0 := (((Five.new w (.int .i64 kd) (.string nm) (.slice a at'.length cap) (.string tx) (.bool sf) 24).alloc (.cells #[.int .i64 0, .string ⟨#[]⟩, .slice none 0 0, .string ⟨#[]⟩, .bool false] 29)).alloc (.cells #[.int .i64 kd, .string nm, .slice none 0 0, .string ⟨#[]⟩, .bool false] 29)).below (by simp; omega) b1
  have F1 := ((Five.new (w.alloc (.cells #[.int .i64 kd, .string nm, .slice a at'.length cap, .string tx, .bool sf] 24)) (.int .i64 0) (.string ⟨#[]⟩) (.slice none 0 0) (.string ⟨#[]⟩) (.bool false) 29).alloc (.cells #[.int .i64 kd, .string nm, .slice none 0 0, .string ⟨#[]⟩, .bool false] 29)).below (by simp) b1
  have F2 := (Five.new ((w.alloc (.cells #[.int .i64 kd, .string nm, .slice a at'.length cap, .string tx, .bool sf] 24)).alloc (.cells #[.int .i64 0, .string ⟨#[]⟩, .slice none 0 0, .string ⟨#[]⟩, .bool false] 29)) (.int .i64 kd) (.string nm) (.slice none 0 0) (.string ⟨#[]⟩) (.bool false) 29).below (by simp) b1
  have bW : Below w.heap.size w w1 := ((((Below.refl _ _).alloc (Nat.le_refl _) _).alloc (by simp) _).alloc (by simp; omega) _).trans (b1.mono (by simp; omega))
  have o2 := own_mono (B := w.heap.size) o1 (by simp; omega)
  have e1 : (w.alloc (.cells #[.int .i64 kd, .string nm, .slice a at'.length cap, .string tx, .bool sf] 24)).heap.size = w.heap.size + 1 := by simp
  have e2 : ((w.alloc (.cells #[.int .i64 kd, .string nm, .slice a at'.length cap, .string tx, .bool sf] 24)).alloc (.cells #[.int .i64 0, .string ⟨#[]⟩, .slice none 0 0, .string ⟨#[]⟩, .bool false] 29)).heap.size = w.heap.size + 1 + 1 := by simp
  have e3 : (((w.alloc (.cells #[.int .i64 kd, .string nm, .slice a at'.length cap, .string tx, .bool sf] 24)).alloc (.cells #[.int .i64 0, .string ⟨#[]⟩, .slice none 0 0, .string ⟨#[]⟩, .bool false] 29)).alloc (.cells #[.int .i64 kd, .string nm, .slice none 0 0, .string ⟨#[]⟩, .bool false] 29)).heap.size = w.heap.size + 1 + 1 + 1 := by simp
  rw [e1] at F1
  rw [e2] at F2
  rw [e3] at o1 o2 ⊢
  clear b1 e1 e2 e3 HA
  have HE1 : Hid (w.heap.size < w.heap.size + 1) := Nat.lt_succ_self _
  have HE2 : Hid (w.heap.size + 1 < w.heap.size + 1 + 1) := Nat.lt_succ_self _
  have HE3 : Hid (w.heap.size + 1 + 1 < w.heap.size + 1 + 1 + 1) := Nat.lt_succ_self _
  generalize w.heap.size + 1 + 1 + 1 = c3 at *
  generalize w.heap.size + 1 + 1 = c2 at *
  generalize w.heap.size + 1 = c1 at *
  have x3 := (F0.2 3 (by omega)).1
  have x4 := (F0.2 4 (by omega)).1
  have y0 := (F2.2 0 (by omega)).1
  have y1 := (F2.2 1 (by omega)).1
  have y2 := (F2.2 2 (by omega)).1
  have y3 := (F2.2 3 (by omega)).1
  have y4 := (F2.2 4 (by omega)).1
  have z2 := (F2.2 2 (by omega)).2
  have z3 := (F2.2 3 (by omega)).2
  have z4 := (F2.2 4 (by omega)).2
  have r0 := (F1.2 0 (by omega)).1
  have r1 := (F1.2 1 (by omega)).1
  have r2 := (F1.2 2 (by omega)).1
  have r3 := (F1.2 3 (by omega)).1
  have r4 := (F1.2 4 (by omega)).1
  have s0 := (F1.2 0 (by omega)).2
  have s1 := (F1.2 1 (by omega)).2
  have s2 := (F1.2 2 (by omega)).2
  have s3 := (F1.2 3 (by omega)).2
  have s4 := (F1.2 4 (by omega)).2
  simp only [List.getD_cons_zero, List.getD_cons_succ] at x3 x4 y0 y1 y2 y3 y4 r0 r1 r2 r3 r4
  have n12 : c1 ≠ c2 := Nat.ne_of_lt HE2.out
  have n21 : c2 ≠ c1 := Nat.ne_of_gt HE2.out
  have n02 : w.heap.size ≠ c2 := by have := HE1.out; have := HE2.out; omega
  have n20 : c2 ≠ w.heap.size := Ne.symm n02
  have HF1 : Hid (Five w1 c1 _) := F1
  clear F0 F1 F2
  have n32 : c3 ≠ c2 := Nat.ne_of_gt HE3.out
  have n31 : c3 ≠ c1 := by have := HE2.out; have := HE3.out; omega
  have FF := (((((((HF1.out.other n21 (.slice (some ⟨c3, 0, none⟩) at'.length at'.length) (i := 2)).other n21 (.string tx) (i := 3)).other n21 (.bool sf) (i := 4)).set (i := 0) (by omega) (.int .i64 kd)).set (i := 1) (by omega) (.string nm)).set (i := 2) (by omega) (.slice (some ⟨c3, 0, none⟩) at'.length at'.length)).set (i := 3) (by omega) (.string tx)).set (i := 4) (by omega) (.bool sf)
  have HFF : Hid (Five _ c1 _) := FF
  have o3 := owns_grown o2 (grown_trans (grown_trans (grown_set w1 c2 2 (.slice (some ⟨c3, 0, none⟩) at'.length at'.length)) (grown_set _ c2 3 (.string tx))) (grown_set _ c2 4 (.bool sf))) (fun b hb h => by cases hb; exact n32 (Option.some.inj h).symm)
  have o4 := owns_grown o3 (grown_trans (grown_trans (grown_trans (grown_trans (grown_set _ c1 0 (.int .i64 kd)) (grown_set _ c1 1 (.string nm))) (grown_set _ c1 2 (.slice (some ⟨c3, 0, none⟩) at'.length at'.length))) (grown_set _ c1 3 (.string tx))) (grown_set _ c1 4 (.bool sf))) (fun b hb h => by cases hb; exact n31 (Option.some.inj h).symm)
  have HO4 : Hid (World.ownsRow _ w.heap.size 59 2 (.slice (some ⟨c3, 0, none⟩) at'.length at'.length) at'.length (attrCells at')) := o4
  have l1 : w.heap.size ≤ c1 := Nat.le_of_lt HE1.out
  have l2 : w.heap.size ≤ c2 := by have := HE1.out; have := HE2.out; omega
  have HB4 := (((((((bW.setCell (p := ⟨c2, 2, none⟩) l2 (.slice (some ⟨c3, 0, none⟩) at'.length at'.length)).setCell (p := ⟨c2, 3, none⟩) l2 (.string tx)).setCell (p := ⟨c2, 4, none⟩) l2 (.bool sf)).setCell (p := ⟨c1, 0, none⟩) l1 (.int .i64 kd)).setCell (p := ⟨c1, 1, none⟩) l1 (.string nm)).setCell (p := ⟨c1, 2, none⟩) l1 (.slice (some ⟨c3, 0, none⟩) at'.length at'.length)).setCell (p := ⟨c1, 3, none⟩) l1 (.string tx)).setCell (p := ⟨c1, 4, none⟩) l1 (.bool sf)
  clear FF o3 o4 o1 o2
  go_wp2_with fail
  refine bodyPost_ret (v := .agg #[.int .i64 kd, .string nm, .slice (some ⟨c3, 0, none⟩) at'.length at'.length, .string tx, .bool sf]) ?_ rfl ⟨_, rfl, HO4.out, HB4⟩
  have t0 := (HFF.out.2 0 (by omega)).1
  have t1 := (HFF.out.2 1 (by omega)).1
  have t2 := (HFF.out.2 2 (by omega)).1
  have t3 := (HFF.out.2 3 (by omega)).1
  have t4 := (HFF.out.2 4 (by omega)).1
  simp at t0 t1 t2 t3 t4
  simp [results, Tryd.results7, go_sem, t0, t1, t2, t3, t4]

end Go.Proofs.YtploagieecepfaaDoor.Sg
