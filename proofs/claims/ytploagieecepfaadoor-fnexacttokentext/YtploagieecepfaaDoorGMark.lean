/- Contract of the laws' marks of texts. -/
import Derived.Test.YtploagieecepfaaDoorGConv
import Derived.Test.YtploagieecepfaaDoorGOwn
namespace Go.Proofs.YtploagieecepfaaDoor.Sg
open Go.ChangeShapes Go.WideShapes Go.ChangeAt Go.RowKit

/-- The digits of a number ahead of a text. -/
def digS (k : Nat) (out : ByteArray) : ByteArray := if 0 < k then digS (k / 10) (strOfNums [48 + ((k % 10 : Nat) : Int)] ++ out) else out
  termination_by k
  decreasing_by omega
/-- The text that marks a number. -/
def markB (k : Nat) : ByteArray := if 0 < k then ⟨#[109]⟩ ++ digS k ⟨#[]⟩ else ⟨#[109, 48]⟩

theorem digS_yes {k : Nat} {out : ByteArray} (h : 0 < k) : digS k out = digS (k / 10) (strOfNums [48 + ((k % 10 : Nat) : Int)] ++ out) := by
  rw [digS, if_pos h]
theorem digS_no {k : Nat} {out : ByteArray} (h : ¬ 0 < k) : digS k out = out := by
  rw [digS, if_neg h]

theorem ret_text {a b : ByteArray} (h : a = b) : Ending.returned (.string a) = .returned (.string b) := by rw [h]


end Go.Proofs.YtploagieecepfaaDoor.Sg
