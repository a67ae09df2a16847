/- The contract of the model's l13Hex: a number in six digits of 16. -/
import Derived.Test.YtfbnhjogkjbcbaaDoorStP
import Derived.Laws.DeepStrings4
namespace Go.Proofs.YtfbnhjogkjbcbaaDoor.Sg
open Go.ChangeShapes Go.WideShapes Go.ChangeAt Go.RowKit

theorem i64_and15 (n : Int) : bits .and .i64 n 15 = n % 16 := (i64_low n 4 (by decide) 15 (by decide)).trans (by simp)

/-- One sign more. -/
theorem textS_more (xs : List Int) (z : Int) : textS xs ++ putS z = textS (xs ++ [z]) := by
  apply ByteArray.ext
  apply Array.toList_inj.1
  rw [ByteArray.data_append, Array.toList_append]
  show sgBytes xs ++ (putS z).data.toList = sgBytes (xs ++ [z])
  rw [sgBytes_append, sgBytes_cons, sgBytes_nil, List.append_nil]
theorem textS_app (xs ys : List Int) : textS xs ++ textS ys = textS (xs ++ ys) := by
  apply ByteArray.ext
  apply Array.toList_inj.1
  rw [ByteArray.data_append, Array.toList_append]
  show sgBytes xs ++ sgBytes ys = sgBytes (xs ++ ys)
  rw [sgBytes_append]
theorem hexS (d : Nat) (h : d < 16) : (⟨#[48, 49, 50, 51, 52, 53, 54, 55, 56, 57, 65, 66, 67, 68, 69, 70]⟩ : ByteArray).extract d (d + 1) = putS (hexZ d) := by
  have h1 : ∀ d, d < 16 → ((⟨#[48, 49, 50, 51, 52, 53, 54, 55, 56, 57, 65, 66, 67, 68, 69, 70]⟩ : ByteArray).extract d (d + 1)).data.toList = [UInt8.ofNat (hexZ d).toNat] ∧ 0 ≤ hexZ d ∧ hexZ d ≤ 127 := by decide +kernel
  obtain ⟨h2, h3, h4⟩ := h1 d h
  apply ByteArray.ext
  apply Array.toList_inj.1
  rw [h2, putS_one h3 h4]

/-- One digit more. -/
theorem hex_more (xs : List Int) (x : Nat) : textS xs ++ (⟨#[48, 49, 50, 51, 52, 53, 54, 55, 56, 57, 65, 66, 67, 68, 69, 70]⟩ : ByteArray).extract (x % 16) (x % 16 + 1) = textS (xs ++ [hexZ (x % 16)]) := by
  rw [hexS _ (Nat.mod_lt _ (by decide)), textS_more]


end Go.Proofs.YtfbnhjogkjbcbaaDoor.Sg
