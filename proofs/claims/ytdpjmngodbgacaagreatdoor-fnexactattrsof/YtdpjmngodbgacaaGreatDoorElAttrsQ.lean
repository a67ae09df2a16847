/- Contract of the model's l15Attrs: attributes that are strict. Written by mk_elattrs.py. -/
import Derived.Test.YtdpjmngodbgacaaGreatDoorStTextQ
import Derived.Test.YtdpjmngodbgacaaGreatDoorTkHasQ
import Derived.Test.YtdpjmngodbgacaaGreatDoorM12
import Derived.Lib.QuietBelow
import Derived.BigQuiet
import Derived.Deep.Cut
import Derived.Deep.CutRange
namespace Go.Proofs.YtdpjmngodbgacaaGreatDoor.Sg
open Go.ChangeShapes Go.WideShapes Go.ChangeAt Go.RowKit

def xmlnsB : ByteArray := ⟨#[120, 109, 108, 110, 115]⟩
/-- One attribute is strict, and its name is new. -/
def attrSt (l : List AttrB) (k : Nat) (p : AttrB) : Bool := stNameB p.1 && (!(p.1.toList == xmlnsB.toList) && (stTextB p.2 && !hasA (l.take k) p.1))
/-- Attributes from a place on are strict. -/
def attrsSt (l : List AttrB) (k : Nat) : Bool := if h : k < l.length then attrSt l k (l[k]'h) && attrsSt l (k + 1) else true
  termination_by l.length - k
theorem attrsSt_step {l : List AttrB} {k : Nat} (h : k < l.length) : attrsSt l k = (attrSt l k (l[k]'h) && attrsSt l (k + 1)) := by rw [attrsSt, dif_pos h]
theorem attrsSt_end {l : List AttrB} {k : Nat} (h : ¬ k < l.length) : attrsSt l k = true := by rw [attrsSt, dif_neg h]
theorem ret_st {a b : Bool} (h : a = b) : Ending.returned (.bool a) = .returned (.bool b) := by rw [h]
theorem AttrsAt.first {w : World} {a : Option Addr} {l : List AttrB} (h : AttrsAt w a l) (k : Nat) : AttrsAt w a (l.take k) := by
  rcases h with h | ⟨b, h1, h2, h3⟩
  · left
    rw [h]
    simp
  · refine .inr ⟨b, h1, h2, fun j hj => ?_⟩
    rw [List.length_take] at hj
    have := h3 j (by omega)
    have e : (l.take k).getD j (ByteArray.empty, ByteArray.empty) = l.getD j (ByteArray.empty, ByteArray.empty) := by
      simp only [List.getD_eq_getElem?_getD]
      rw [List.getElem?_take_of_lt (by omega)]
    rw [e]
    exact this

end Go.Proofs.YtdpjmngodbgacaaGreatDoor.Sg
