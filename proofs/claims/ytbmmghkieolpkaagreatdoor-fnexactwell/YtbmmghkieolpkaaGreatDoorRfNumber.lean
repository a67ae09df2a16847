/- Contract of the model's references by number. -/
import Derived.Test.YtbmmghkieolpkaaGreatDoorMR2105
import Derived.Deep.Cut
import Derived.Deep.CutRange
namespace Go.Proofs.YtbmmghkieolpkaaGreatDoor.Sg
open Go.ChangeShapes Go.WideShapes Go.ChangeAt Go.RowKit

/-- What a reference tells, as a call hands it back. -/
def refV : Option (Int × Nat) → Value
  | none => .tuple #[.string ⟨#[]⟩, .int .i64 0]
  | some (z, m) => .tuple #[.string (putS z), .int .i64 ((m : Int) + 1)]

theorem ret_ref {x y : ByteArray} {a b : Int} (h : x = y) (h2 : a = b) : Ending.returned (.tuple #[.string x, .int .i64 a]) = .returned (.tuple #[.string y, .int .i64 b]) := by rw [h, h2]

theorem numG_yes (base n m : Nat) (b : UInt8) (l : List UInt8) (h : digV b.toNat < base) : numG base n m (b :: l) = numG base (min (n * base + digV b.toNat) 1114112) (m + 1) l := by
  rw [numG, if_pos h]
theorem numG_no (base n m : Nat) (b : UInt8) (l : List UInt8) (h : ¬ digV b.toNat < base) : numG base n m (b :: l) = (n, m) := by
  rw [numG, if_neg h]

theorem numR_none {l : List UInt8} (h : l.head? = some 35) {n : Nat} (hn : numG (baseG l) 0 0 (l.drop (headG l)) = (n, 0)) : numR l = none := by
  unfold numR
  rw [if_pos h, hn]
  rfl
theorem numR_some {l : List UInt8} (h : l.head? = some 35) {n m : Nat} (hn : numG (baseG l) 0 0 (l.drop (headG l)) = (n, m)) (hm : m ≠ 0) : numR l = some (numB (n : Int), endG l (headG l + m)) := by
  unfold numR
  rw [if_pos h, hn]
  simp [hm]

theorem endG_yes {l : List UInt8} {m : Nat} (h : (l.drop m).head? = some 59) : endG l m = m + 1 := if_pos h
theorem endG_no {l : List UInt8} {m : Nat} (h : (l.drop m).head? ≠ some 59) : endG l m = m := if_neg h

theorem hexG_at (s : ByteArray) (i : Nat) (h : i + 1 < s.size) (h2 : i + 2 < s.size) : hexG (tailL s (i + 1)) = (decide ((s[i + 2]'h2).toNat = 120) || decide ((s[i + 2]'h2).toNat = 88)) := by
  rw [tailL_step s (i + 1) h, tailL_step s (i + 1 + 1) h2]
  show ((s[i + 2]'h2) == 120 || (s[i + 2]'h2) == 88) = _
  have e (b : UInt8) (c : Nat) (hc : c < 256) : (b == UInt8.ofNat c) = decide (b.toNat = c) := by
    by_cases hb : b.toNat = c
    · rw [decide_eq_true hb]
      simp only [beq_iff_eq]
      apply UInt8.toNat_inj.1
      rw [hb, UInt8.toNat_ofNat']
      exact (Nat.mod_eq_of_lt hc).symm
    · rw [decide_eq_false hb]
      simp only [beq_eq_false_iff_ne]
      intro e
      apply hb
      rw [e, UInt8.toNat_ofNat']
      exact Nat.mod_eq_of_lt hc
  rw [show (120 : UInt8) = UInt8.ofNat 120 from rfl, show (88 : UInt8) = UInt8.ofNat 88 from rfl, e _ 120 (by decide), e _ 88 (by decide)]
theorem hexG_end (s : ByteArray) (i : Nat) (h : i + 1 < s.size) (h2 : ¬ i + 2 < s.size) : hexG (tailL s (i + 1)) = false := by
  rw [tailL_step s (i + 1) h, tailL_end s (i + 1 + 1) h2]
  rfl

theorem dig3_pos {hex : Bool} {base b : Nat} (hb : base = if hex then 16 else 10) (h : digV b < base) : dig3 hex b = (digV b : Int) := by
  unfold dig3
  rw [if_pos (hb ▸ h)]
theorem dig3_neg {hex : Bool} {base b : Nat} (hb : base = if hex then 16 else 10) (h : ¬ digV b < base) : dig3 hex b = -1 := by
  unfold dig3
  rw [if_neg (hb ▸ h)]

end Go.Proofs.YtbmmghkieolpkaaGreatDoor.Sg
