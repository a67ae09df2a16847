/- What is escaped, and the names of the spaces, plain. No program in it. -/
import Derived.Test.YtploagieecepfaaSpSwapP
import Derived.Test.YtploagieecepfaaGTexts
namespace Go.Proofs.Ytploagieecepfaa.Sg

/-- The bytes that are escaped (in a value), and what stands in their place. -/
def escW : Bool → List UInt8
  | false => [38, 60, 62, 13]
  | true => [38, 60, 62, 13, 34, 9, 10]
def escT : Bool → List (List UInt8)
  | false => [[38, 97, 109, 112, 59], [38, 108, 116, 59], [38, 103, 116, 59], [38, 35, 49, 51, 59]]
  | true => [[38, 97, 109, 112, 59], [38, 108, 116, 59], [38, 103, 116, 59], [38, 35, 49, 51, 59], [38, 113, 117, 111, 116, 59], [38, 35, 57, 59], [38, 35, 49, 48, 59]]
def escL (v : Bool) (l : List UInt8) : List UInt8 := swapL (escW v) (escT v) l
def escS (s : ByteArray) (v : Bool) : ByteArray := strB (escL v s.data.toList)
theorem esc1_length (v : Bool) (b : UInt8) : (swap1 (escW v) (escT v) b).length ≤ 6 := by
  unfold swap1
  split
  · simp
  · rename_i k hk
    have : ∀ v k, (List.getD (escT v) k []).length ≤ 6 := by
      intro v k
      rw [List.getD_eq_getElem?_getD]
      cases h : (escT v)[k]? with
      | none => simp
      | some x =>
        have hm := List.mem_of_getElem? h
        have : ∀ v, ∀ x ∈ escT v, x.length ≤ 6 := by decide
        exact this v x hm
    exact this v k
theorem escL_length (v : Bool) (l : List UInt8) : (escL v l).length ≤ 6 * l.length := by
  unfold escL swapL
  induction l with
  | nil => simp
  | cons b l ih =>
    rw [List.flatMap_cons, List.length_append, List.length_cons]
    have := esc1_length v b
    omega
theorem escS_size (s : ByteArray) (v : Bool) : (escS s v).size ≤ 6 * s.size := by
  unfold escS
  rw [strB_size]
  have := escL_length v s.data.toList
  rw [Array.length_toList] at this
  exact this

/-- The name of a space. -/
def spaceS (n : Int) : ByteArray :=
  if n = 0 then ⟨#[104, 116, 116, 112, 58, 47, 47, 119, 119, 119, 46, 119, 51, 46, 111, 114, 103, 47, 49, 57, 57, 57, 47, 120, 104, 116, 109, 108]⟩
  else if n = 1 then ⟨#[104, 116, 116, 112, 58, 47, 47, 119, 119, 119, 46, 119, 51, 46, 111, 114, 103, 47, 50, 48, 48, 48, 47, 115, 118, 103]⟩
  else if n = 2 then ⟨#[104, 116, 116, 112, 58, 47, 47, 119, 119, 119, 46, 119, 51, 46, 111, 114, 103, 47, 49, 57, 57, 56, 47, 77, 97, 116, 104, 47, 77, 97, 116, 104, 77, 76]⟩
  else ⟨#[]⟩

end Go.Proofs.Ytploagieecepfaa.Sg
