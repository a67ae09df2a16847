/- What the model's XmlRef hands back, at any place; its contract. -/
import Derived.Test.YtfbnhjogkjbcbaaDoorXmRef
namespace Go.Proofs.YtfbnhjogkjbcbaaDoor.Sg
open Go.ChangeShapes Go.WideShapes Go.ChangeAt Go.RowKit

def xrO (s : ByteArray) (i : Int) : Option (ByteArray × Nat) := if 0 ≤ i ∧ i < s.size then xrefR s i.toNat else none
def xrS (s : ByteArray) (i : Int) : ByteArray := ((xrO s i).map (·.1)).getD ⟨#[]⟩
def xrI (s : ByteArray) (i : Int) : Int := ((xrO s i).map fun r => (r.2 : Int)).getD (-1)

theorem specXmlRef (s : ByteArray) (i : Int) (w : World) (hs : s.size ≤ 1073741824) :
    Calls Tryd.prog 10 #[.string s, .int .i64 i] w fun e w' => e = .returned (.tuple #[.string (xrS s i), .int .i64 (xrI s i)]) ∧ Below w.heap.size w w' := by
  by_cases h : 0 ≤ i ∧ i < s.size
  · unfold xrS xrI xrO
    rw [if_pos h]
    have C := specXmlRef_in s i.toNat w (by omega) (by omega)
    rw [show ((i.toNat : Nat) : Int) = i by omega] at C
    refine C.mono fun e w' h => ⟨h.1.trans ?_, h.2⟩
    cases xrefR s i.toNat <;> rfl
  · unfold xrS xrI xrO
    rw [if_neg h]
    exact (specXmlRef_out s i w (by omega)).mono fun e w' h => ⟨h.1, h.2 ▸ Below.refl _ _⟩

end Go.Proofs.YtfbnhjogkjbcbaaDoor.Sg
