/- Kinds of tags, in plain terms. No program in it. -/
import Derived.Test.YtlnegnikedinaaaGTexts
namespace Go.Proofs.Ytlnegnikedinaaa.Sg

/-- Whether a name is among some. -/
def isIn (s : ByteArray) (ls : List (List UInt8)) : Bool := ls.any fun y => y == s.data.toList
theorem isIn_iff {s : ByteArray} {ls : List (List UInt8)} : isIn s ls = true ↔ s.data.toList ∈ ls := by
  unfold isIn
  rw [List.any_eq_true]
  constructor
  · rintro ⟨y, h, e⟩
    rw [← eq_of_beq e]
    exact h
  · intro h
    exact ⟨_, h, by simp⟩
theorem isIn_drop {s : ByteArray} {ls : List (List UInt8)} {k : Nat} (h : k < ls.length) : isIn s (ls.drop k) = (ls.getD k [] == s.data.toList || isIn s (ls.drop (k + 1))) := by
  unfold isIn
  rw [List.drop_eq_getElem_cons h, List.any_cons]
  simp [List.getD, h]
theorem isIn_end {s : ByteArray} {ls : List (List UInt8)} {k : Nat} (h : ls.length ≤ k) : isIn s (ls.drop k) = false := by
  unfold isIn
  rw [List.drop_eq_nil_of_le h]
  rfl

def voidL : List (List UInt8) := [[98, 114], [104, 114], [105, 109, 103], [105, 110, 112, 117, 116], [109, 101, 116, 97], [108, 105, 110, 107], [98, 97, 115, 101], [119, 98, 114], [99, 111, 108]]
def ofHeadL : List (List UInt8) := [[116, 105, 116, 108, 101], [109, 101, 116, 97], [108, 105, 110, 107], [98, 97, 115, 101], [115, 116, 121, 108, 101], [115, 99, 114, 105, 112, 116]]
def formatL : List (List UInt8) := [[97], [98], [105], [117], [101, 109], [115, 116, 114, 111, 110, 103], [99, 111, 100, 101], [115, 109, 97, 108, 108]]
def blockL : List (List UInt8) := [[112], [100, 105, 118], [117, 108], [111, 108], [108, 105], [104, 49], [104, 50], [104, 51], [112, 114, 101], [104, 114], [116, 97, 98, 108, 101], [102, 111, 114, 109], [115, 101, 99, 116, 105, 111, 110]]
def partL : List (List UInt8) := [[116, 98, 111, 100, 121], [116, 114], [116, 100], [116, 104]]
def wallL : List (List UInt8) := [[104, 116, 109, 108], [116, 97, 98, 108, 101], [116, 100], [116, 104]]
def headL : List (List UInt8) := [[104, 49], [104, 50], [104, 51]]

/-- No name is of both. -/
theorem isIn_apart {s : ByteArray} {ls ms : List (List UInt8)} (h : ls.all (fun y => !(ms.any fun z => z == y)) = true) : (isIn s ls && isIn s ms) = false := by
  cases h1 : isIn s ls with
  | false => rfl
  | true =>
    have h2 := List.all_eq_true.1 h _ (isIn_iff.1 h1)
    unfold isIn
    simpa using h2
/-- A name of the one kind is of the other. -/
theorem isIn_sub {s : ByteArray} {ls ms : List (List UInt8)} (h : ls.all (fun y => ms.any fun z => z == y) = true) (h1 : isIn s ls = true) : isIn s ms = true :=
  List.all_eq_true.1 h _ (isIn_iff.1 h1)
theorem part_block (s : ByteArray) : (isIn s partL && isIn s blockL) = false := isIn_apart (by decide)
theorem format_void (s : ByteArray) : (isIn s formatL && isIn s voidL) = false := isIn_apart (by decide)
theorem head_block (s : ByteArray) (h : isIn s headL = true) : isIn s blockL = true := isIn_sub (by decide) h

end Go.Proofs.Ytlnegnikedinaaa.Sg
