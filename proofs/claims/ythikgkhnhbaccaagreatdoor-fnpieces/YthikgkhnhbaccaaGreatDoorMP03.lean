/- What the model's XmlName hands back, at any place; its contract. The contract of the model's l13Hex: a number in six digits of 16. Contracts of the model's NameOk and NameOf. -/
import Derived.Test.YthikgkhnhbaccaaGreatDoorXmName
import Derived.Test.YthikgkhnhbaccaaGreatDoorMP25
import Derived.Laws.DeepStrings4
import Derived.Test.YthikgkhnhbaccaaGreatDoorMP13
namespace Go.Proofs.YthikgkhnhbaccaaGreatDoor.Sg
open Go.ChangeShapes Go.WideShapes Go.ChangeAt Go.RowKit

def xnS (s : ByteArray) (i : Int) : ByteArray := if 0 ≤ i ∧ i ≤ s.size then s.extract i.toNat (xnameE s true i.toNat) else ⟨#[]⟩
def xnI (s : ByteArray) (i : Int) : Int := if 0 ≤ i ∧ i ≤ s.size then (xnameE s true i.toNat : Int) else i

theorem specXmlName (s : ByteArray) (i : Int) (w : World) (hs : s.size ≤ 1073741824) :
    Calls Tryz.prog 13 #[.string s, .int .i64 i] w fun e w' => e = .returned (.tuple #[.string (xnS s i), .int .i64 (xnI s i)]) ∧ Below w.heap.size w w' := by
  by_cases h : 0 ≤ i ∧ i ≤ s.size
  · unfold xnS xnI
    rw [if_pos h, if_pos h]
    have C := specXmlName_in s i.toNat w (by omega) (by omega)
    rw [show ((i.toNat : Nat) : Int) = i by omega] at C
    exact C
  · unfold xnS xnI
    rw [if_neg h, if_neg h]
    exact (specXmlName_out s i w (by omega)).mono fun e w' h => ⟨h.1, h.2 ▸ Below.refl _ _⟩

end Go.Proofs.YthikgkhnhbaccaaGreatDoor.Sg

namespace Go.Proofs.YthikgkhnhbaccaaGreatDoor.Sg
open Go.ChangeShapes Go.WideShapes Go.ChangeAt Go.RowKit

theorem i64_and15 (n : Int) : bits .and .i64 n 15 = n % 16 := (i64_low n 4 (by decide) 15 (by decide)).trans (by simp)

/-- One sign more. -/
theorem textS_more (xs : List Int) (z : Int) : textS xs ++ putS z = textS (xs ++ [z]) := by
  apply ByteArray.ext
  apply Array.toList_inj.1
  rw [ByteArray.data_append, Array.toList_append]
  show sgBytes xs ++ (putS z).data.toList = sgBytes (xs ++ [z])
  rw [sgBytes_append, sgBytes_cons, sgBytes_nil, List.append_nil]
theorem textS_app (xs ys : List Int) : textS xs ++ textS ys = textS (xs ++ ys) := by
  apply ByteArray.ext
  apply Array.toList_inj.1
  rw [ByteArray.data_append, Array.toList_append]
  show sgBytes xs ++ sgBytes ys = sgBytes (xs ++ ys)
  rw [sgBytes_append]
theorem hexS (d : Nat) (h : d < 16) : (⟨#[48, 49, 50, 51, 52, 53, 54, 55, 56, 57, 65, 66, 67, 68, 69, 70]⟩ : ByteArray).extract d (d + 1) = putS (hexZ d) := by
  have h1 : ∀ d, d < 16 → ((⟨#[48, 49, 50, 51, 52, 53, 54, 55, 56, 57, 65, 66, 67, 68, 69, 70]⟩ : ByteArray).extract d (d + 1)).data.toList = [UInt8.ofNat (hexZ d).toNat] ∧ 0 ≤ hexZ d ∧ hexZ d ≤ 127 := by decide +kernel
  obtain ⟨h2, h3, h4⟩ := h1 d h
  apply ByteArray.ext
  apply Array.toList_inj.1
  rw [h2, putS_one h3 h4]

/-- One digit more. -/
theorem hex_more (xs : List Int) (x : Nat) : textS xs ++ (⟨#[48, 49, 50, 51, 52, 53, 54, 55, 56, 57, 65, 66, 67, 68, 69, 70]⟩ : ByteArray).extract (x % 16) (x % 16 + 1) = textS (xs ++ [hexZ (x % 16)]) := by
  rw [hexS _ (Nat.mod_lt _ (by decide)), textS_more]


end Go.Proofs.YthikgkhnhbaccaaGreatDoor.Sg

namespace Go.Proofs.YthikgkhnhbaccaaGreatDoor.Sg
open Go.ChangeShapes Go.WideShapes Go.ChangeAt Go.RowKit

theorem stNameL_drop (zs : List Int) (k : Nat) (h : k < zs.length) (f : Bool) : stNameL f (zs.drop k) = (stayB f (zs.getD k 0) && stNameL false (zs.drop (k + 1))) := by
  rw [List.drop_eq_getElem_cons h]
  unfold stNameL
  simp [h]
  cases zs.drop (k + 1) <;> rfl
theorem empty_of {s : ByteArray} (h : s.size = 0) : s = ⟨#[]⟩ := by
  cases s with
  | mk d =>
    have : d = #[] := Array.eq_empty_of_size_eq_zero h
    rw [this]
theorem not_empty {s : ByteArray} (h : s.size ≠ 0) : (s.toList == []) = false := by
  rw [beq_eq_false_iff_ne, ByteArray.toList_eq]
  intro e
  apply h
  have h2 : s.data.toList.length = s.size := Array.length_toList
  rw [e] at h2
  exact h2.symm
/-- A number of a slice of the call's own. -/
theorem Ints.cell {w wr : World} {a : Option Addr} {zs : List Int} {k : Nat} (h : Ints w a zs) (hb : Below w.heap.size w wr) (hk : k < zs.length) : ∃ b o, a = some ⟨b, o, none⟩ ∧ b < w.heap.size ∧ wr.cell? ⟨b, o + k, none⟩ = some (.int .i64 (zs.getD k 0)) := by
  rcases h with h | ⟨b, o, rfl, hb1, hc⟩
  · rw [h] at hk
    simp at hk
  · exact ⟨b, o, rfl, hb1, (hb.cell (by exact hb1)).trans (hc k hk)⟩

theorem signsFrom_good (s : ByteArray) : ∀ (f pos : Nat), ∀ z ∈ signsFrom s f pos, 0 ≤ z ∧ z ≤ 1114111
  | 0, pos => by
    intro z hz
    cases hz
  | f + 1, pos => by
    intro z hz
    by_cases hp : pos < s.size
    · rw [signsFrom, if_pos hp] at hz
      rcases List.mem_cons.1 hz with rfl | hz
      · have := getS_le s pos hp
        omega
      · exact signsFrom_good s f _ z hz
    · rw [signsFrom_end s _ _ hp] at hz
      cases hz
theorem signs_good (s : ByteArray) (k : Nat) (h : k < (signsL s).length) : 0 ≤ (signsL s).getD k 0 ∧ (signsL s).getD k 0 ≤ 1114111 := by
  apply signsFrom_good s s.size 0
  rw [List.getD_eq_getElem?_getD, List.getElem?_eq_getElem h]
  exact List.getElem_mem h


/-- One sign more, made strict. -/
theorem namesZ_take (zs : List Int) (k : Nat) (h : k < zs.length) : namesZ true (zs.take (k + 1)) = namesZ true (zs.take k) ++ strictZ (decide (k = 0)) (zs.getD k 0) := by
  have key : ∀ (xs : List Int) (f : Bool) (z : Int), namesZ f (xs ++ [z]) = namesZ f xs ++ strictZ (f && decide (xs.length = 0)) z := by
    intro xs
    induction xs with
    | nil =>
      intro f z
      simp [namesZ]
    | cons x xs ih =>
      intro f z
      rw [List.cons_append]
      conv => lhs; unfold namesZ
      conv => rhs; unfold namesZ
      rw [ih]
      simp
  rw [List.take_succ_eq_append_getElem h, key]
  have h1 : (zs.take k).length = k := by rw [List.length_take]; omega
  rw [h1]
  simp [h]


end Go.Proofs.YthikgkhnhbaccaaGreatDoor.Sg
