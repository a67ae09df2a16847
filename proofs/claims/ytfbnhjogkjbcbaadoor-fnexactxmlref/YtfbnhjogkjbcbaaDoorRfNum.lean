/- Contracts of Numbered, of the program and of the model: both answer the same plain number. -/
import Derived.Test.YtfbnhjogkjbcbaaDoorMR02
import Derived.Lib.LaidTab
namespace Go.Proofs.YtfbnhjogkjbcbaaDoor.Sg
open Go.ChangeShapes Go.WideShapes Go.ChangeAt Go.RowKit

/-- What the numbers from 128 up to 159 stand for. -/
def midTab : List Int := [8364, 129, 8218, 402, 8222, 8230, 8224, 8225, 710, 8240, 352, 8249, 338, 141, 381, 143, 144, 8216, 8217, 8220, 8221, 8226, 8211, 8212, 732, 8482, 353, 8250, 339, 157, 382, 376]

/-- The sign that a number tells. -/
def numB (n : Int) : Int := if n = 0 ∨ okB n = false then 65533 else if 128 ≤ n ∧ n ≤ 159 then midTab.getD (n - 128).toNat 0 else n

theorem numB_bad {n : Int} (h : n = 0 ∨ okB n = false) : numB n = 65533 := if_pos h
theorem numB_mid {n : Int} (h : n ≠ 0) (h1 : okB n = true) (h2 : 128 ≤ n ∧ n ≤ 159) : numB n = midTab.getD (n - 128).toNat 0 := by
  unfold numB
  rw [if_neg (by simp [h, h1]), if_pos h2]
theorem numB_self {n : Int} (h : n ≠ 0) (h1 : okB n = true) (h2 : ¬ (128 ≤ n ∧ n ≤ 159)) : numB n = n := by
  unfold numB
  rw [if_neg (by simp [h, h1]), if_neg h2]

theorem ret_i64 {a b : Int} (h : a = b) : Ending.returned (.int .i64 a) = .returned (.int .i64 b) := by rw [h]

theorem mid_cell (w : World) (C : Array Value) (t : TypeId) (hC : C = (midTab.map (Value.int .i64)).toArray) (k : Nat) (hk : k < 32) :
    (w.alloc (.cells C t)).cell? ⟨w.heap.size, k, none⟩ = some (.int .i64 (midTab.getD k 0)) := by
  subst hC
  rw [World.cell?_alloc_new, List.getElem?_toArray, List.getElem?_map]
  have hl : k < midTab.length := hk
  simp [List.getD, hl]



end Go.Proofs.YtfbnhjogkjbcbaaDoor.Sg
