/- Contracts of the model's NameOk and NameOf. -/
import Derived.Test.YtfbnhjogkjbcbaaDoorStHex
import Derived.Test.YtfbnhjogkjbcbaaDoorKdModel
namespace Go.Proofs.YtfbnhjogkjbcbaaDoor.Sg
open Go.ChangeShapes Go.WideShapes Go.ChangeAt Go.RowKit

theorem stNameL_drop (zs : List Int) (k : Nat) (h : k < zs.length) (f : Bool) : stNameL f (zs.drop k) = (stayB f (zs.getD k 0) && stNameL false (zs.drop (k + 1))) := by
  rw [List.drop_eq_getElem_cons h]
  unfold stNameL
  simp [h]
  cases zs.drop (k + 1) <;> rfl
theorem empty_of {s : ByteArray} (h : s.size = 0) : s = ⟨#[]⟩ := by
  cases s with
  | mk d =>
    have : d = #[] := Array.eq_empty_of_size_eq_zero h
    rw [this]
theorem not_empty {s : ByteArray} (h : s.size ≠ 0) : (s.toList == []) = false := by
  rw [beq_eq_false_iff_ne, ByteArray.toList_eq]
  intro e
  apply h
  have h2 : s.data.toList.length = s.size := Array.length_toList
  rw [e] at h2
  exact h2.symm
/-- A number of a slice of the call's own. -/
theorem Ints.cell {w wr : World} {a : Option Addr} {zs : List Int} {k : Nat} (h : Ints w a zs) (hb : Below w.heap.size w wr) (hk : k < zs.length) : ∃ b o, a = some ⟨b, o, none⟩ ∧ b < w.heap.size ∧ wr.cell? ⟨b, o + k, none⟩ = some (.int .i64 (zs.getD k 0)) := by
  rcases h with h | ⟨b, o, rfl, hb1, hc⟩
  · rw [h] at hk
    simp at hk
  · exact ⟨b, o, rfl, hb1, (hb.cell (by exact hb1)).trans (hc k hk)⟩

theorem signsFrom_good (s : ByteArray) : ∀ (f pos : Nat), ∀ z ∈ signsFrom s f pos, 0 ≤ z ∧ z ≤ 1114111
  | 0, pos => by
    intro z hz
    cases hz
  | f + 1, pos => by
    intro z hz
    by_cases hp : pos < s.size
    · rw [signsFrom, if_pos hp] at hz
      rcases List.mem_cons.1 hz with rfl | hz
      · have := getS_le s pos hp
        omega
      · exact signsFrom_good s f _ z hz
    · rw [signsFrom_end s _ _ hp] at hz
      cases hz
theorem signs_good (s : ByteArray) (k : Nat) (h : k < (signsL s).length) : 0 ≤ (signsL s).getD k 0 ∧ (signsL s).getD k 0 ≤ 1114111 := by
  apply signsFrom_good s s.size 0
  rw [List.getD_eq_getElem?_getD, List.getElem?_eq_getElem h]
  exact List.getElem_mem h


/-- One sign more, made strict. -/
theorem namesZ_take (zs : List Int) (k : Nat) (h : k < zs.length) : namesZ true (zs.take (k + 1)) = namesZ true (zs.take k) ++ strictZ (decide (k = 0)) (zs.getD k 0) := by
  have key : ∀ (xs : List Int) (f : Bool) (z : Int), namesZ f (xs ++ [z]) = namesZ f xs ++ strictZ (f && decide (xs.length = 0)) z := by
    intro xs
    induction xs with
    | nil =>
      intro f z
      simp [namesZ]
    | cons x xs ih =>
      intro f z
      rw [List.cons_append]
      conv => lhs; unfold namesZ
      conv => rhs; unfold namesZ
      rw [ih]
      simp
  rw [List.take_succ_eq_append_getElem h, key]
  have h1 : (zs.take k).length = k := by rw [List.length_take]; omega
  rw [h1]
  simp [h]


end Go.Proofs.YtfbnhjogkjbcbaaDoor.Sg
