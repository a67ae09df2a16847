/- Contracts of Numbered, of the program and of the model: both answer the same plain number. What a reference tells, in plain lists of bytes. Contracts of what a digit counts, and of the smaller of two numbers. -/
import Derived.Test.YtfbnhjogkjbcbaaDoorMN02
import Derived.Lib.LaidTab
import Derived.Test.YtfbnhjogkjbcbaaDoorRfP
import Derived.Test.YtfbnhjogkjbcbaaDoorSgPut
namespace Go.Proofs.YtfbnhjogkjbcbaaDoor.Sg
open Go.ChangeShapes Go.WideShapes Go.ChangeAt Go.RowKit

/-- What the numbers from 128 up to 159 stand for. -/
def midTab : List Int := [8364, 129, 8218, 402, 8222, 8230, 8224, 8225, 710, 8240, 352, 8249, 338, 141, 381, 143, 144, 8216, 8217, 8220, 8221, 8226, 8211, 8212, 732, 8482, 353, 8250, 339, 157, 382, 376]

/-- The sign that a number tells. -/
def numB (n : Int) : Int := if n = 0 ∨ okB n = false then 65533 else if 128 ≤ n ∧ n ≤ 159 then midTab.getD (n - 128).toNat 0 else n

theorem numB_bad {n : Int} (h : n = 0 ∨ okB n = false) : numB n = 65533 := if_pos h
theorem numB_mid {n : Int} (h : n ≠ 0) (h1 : okB n = true) (h2 : 128 ≤ n ∧ n ≤ 159) : numB n = midTab.getD (n - 128).toNat 0 := by
  unfold numB
  rw [if_neg (by simp [h, h1]), if_pos h2]
theorem numB_self {n : Int} (h : n ≠ 0) (h1 : okB n = true) (h2 : ¬ (128 ≤ n ∧ n ≤ 159)) : numB n = n := by
  unfold numB
  rw [if_neg (by simp [h, h1]), if_neg h2]

theorem ret_i64 {a b : Int} (h : a = b) : Ending.returned (.int .i64 a) = .returned (.int .i64 b) := by rw [h]

theorem mid_cell (w : World) (C : Array Value) (t : TypeId) (hC : C = (midTab.map (Value.int .i64)).toArray) (k : Nat) (hk : k < 32) :
    (w.alloc (.cells C t)).cell? ⟨w.heap.size, k, none⟩ = some (.int .i64 (midTab.getD k 0)) := by
  subst hC
  rw [World.cell?_alloc_new, List.getElem?_toArray, List.getElem?_map]
  have hl : k < midTab.length := hk
  simp [List.getD, hl]



end Go.Proofs.YtfbnhjogkjbcbaaDoor.Sg

namespace Go.Proofs.YtfbnhjogkjbcbaaDoor.Sg

def baseG (l : List UInt8) : Nat := if hexG l then 16 else 10
def headG (l : List UInt8) : Nat := if hexG l then 2 else 1

/-- A reference by number, of what stands behind the byte 38. -/
def numR (l : List UInt8) : Option (Int × Nat) :=
  if l.head? = some 35 then
    if (numG (baseG l) 0 0 (l.drop (headG l))).2 = 0 then none
    else some (numB ((numG (baseG l) 0 0 (l.drop (headG l))).1 : Int), endG l (headG l + (numG (baseG l) 0 0 (l.drop (headG l))).2))
  else none

/-- A reference by name. -/
def nameR (value : Bool) (l : List UInt8) : Option (Int × Nat) :=
  if longL l = [] then none else if value = true ∧ barsB (l.drop (longL l).length) = true then none else some (signG nameT (longL l), endG l (longL l).length)

/-- A reference: its sign, and how many bytes it takes behind the byte 38. -/
def refR (value : Bool) (l : List UInt8) : Option (Int × Nat) := if l.head? = some 35 then numR l else nameR value l

theorem nameR_hash (value : Bool) (l : List UInt8) (h : l.head? = some 35) : nameR value l = none := by
  cases l with
  | nil => cases h
  | cons b l =>
    obtain rfl : b = 35 := by simpa using h
    unfold nameR
    rw [if_pos (longL_hash l)]

theorem numR_no (l : List UInt8) (h : l.head? ≠ some 35) : numR l = none := by unfold numR; rw [if_neg h]

/-- The number first, the name where it is none. -/
theorem refR_or (value : Bool) (l : List UInt8) : refR value l = (numR l).or (nameR value l) := by
  unfold refR
  by_cases h : l.head? = some 35
  · rw [if_pos h, nameR_hash value l h]
    exact (Option.or_none).symm
  · rw [if_neg h, numR_no l h]
    exact (Option.none_or).symm

theorem endG_le (l : List UInt8) (m : Nat) (h : m ≤ l.length) : m ≤ endG l m ∧ endG l m ≤ l.length := by
  unfold endG
  split
  · rename_i he
    refine ⟨Nat.le_succ _, ?_⟩
    apply Nat.succ_le_of_lt
    apply Classical.byContradiction
    intro hc
    rw [List.drop_eq_nil_of_le (by omega)] at he
    cases he
  · exact ⟨Nat.le_refl _, h⟩

theorem hexG_len {l : List UInt8} (h : hexG l = true) : 2 ≤ l.length := by
  match l, h with
  | [], h => cases h
  | [_], h => cases h
  | _ :: _ :: _, _ => simp

theorem headG_le (l : List UInt8) (h : l ≠ []) : 1 ≤ headG l ∧ headG l ≤ l.length := by
  unfold headG
  split
  · rename_i hx
    have := hexG_len hx
    omega
  · exact ⟨Nat.le_refl _, by cases l with | nil => exact absurd rfl h | cons => simp⟩

theorem numR_le {l : List UInt8} {z : Int} {m : Nat} (h : numR l = some (z, m)) : 1 ≤ m ∧ m ≤ l.length := by
  unfold numR at h
  split at h
  · rename_i h35
    split at h
    · cases h
    · rename_i h0
      have hne : l ≠ [] := by intro e; rw [e] at h35; cases h35
      have h1 := headG_le l hne
      have h2 := numG_le (baseG l) 0 0 (l.drop (headG l))
      rw [List.length_drop] at h2
      have h3 := endG_le l (headG l + (numG (baseG l) 0 0 (l.drop (headG l))).2) (by omega)
      have h4 := congrArg Prod.snd (Option.some.inj h)
      simp only at h4
      omega
  · cases h

theorem nameR_le {value : Bool} {l : List UInt8} {z : Int} {m : Nat} (h : nameR value l = some (z, m)) : 1 ≤ m ∧ m ≤ l.length := by
  unfold nameR at h
  split at h
  · cases h
  · rename_i h0
    split at h
    · cases h
    · have h1 : (longL l).length ≤ l.length := (longL_prefix l).length_le
      have h2 : 1 ≤ (longL l).length := List.length_pos_iff.2 h0
      have h3 := endG_le l _ h1
      have h4 := congrArg Prod.snd (Option.some.inj h)
      simp only at h4
      omega

theorem refR_le {value : Bool} {l : List UInt8} {z : Int} {m : Nat} (h : refR value l = some (z, m)) : 1 ≤ m ∧ m ≤ l.length := by
  unfold refR at h
  split at h
  · exact numR_le h
  · exact nameR_le h

/-- A reference at a place of a text. -/
def refS (s : ByteArray) (at' : Int) (value : Bool) : ByteArray × Nat :=
  if 0 ≤ at' ∧ (tailL s at'.toNat).head? = some 38 then
    match refR value (tailL s (at'.toNat + 1)) with
    | none => (ByteArray.empty, 0)
    | some (z, m) => (putS z, 1 + m)
  else (ByteArray.empty, 0)

/-- A text with what its references tell in their place. -/
def refsL (value : Bool) : List UInt8 → List UInt8
  | [] => []
  | b :: l =>
    if b = 38 then
      match refR value l with
      | none => b :: refsL value l
      | some (z, m) => (putS z).data.toList ++ refsL value (l.drop m)
    else b :: refsL value l
  termination_by l => l.length
  decreasing_by all_goals (simp only [List.length_cons, List.length_drop]; omega)

end Go.Proofs.YtfbnhjogkjbcbaaDoor.Sg

namespace Go.Proofs.YtfbnhjogkjbcbaaDoor.Sg
open Go.ChangeShapes Go.WideShapes Go.ChangeAt Go.RowKit

/-- What a digit of 10 or of 16 counts; -1 of what is none. -/
def dig3 (hex : Bool) (b : Nat) : Int := if digV b < (if hex then 16 else 10) then (digV b : Int) else -1

theorem seven (b : Nat) : b < 48 ∨ (48 ≤ b ∧ b ≤ 57) ∨ (58 ≤ b ∧ b ≤ 64) ∨ (65 ≤ b ∧ b ≤ 70) ∨ (71 ≤ b ∧ b ≤ 96) ∨ (97 ≤ b ∧ b ≤ 102) ∨ 103 ≤ b := by omega

theorem dig3_ten {b : Nat} (h : 48 ≤ b ∧ b ≤ 57) (hex : Bool) : dig3 hex b = (b : Int) - 48 := by
  have : digV b = b - 48 := by rcases digV_cases b with h | h | h | h <;> omega
  unfold dig3
  rw [if_pos (by cases hex <;> simp <;> omega)]
  omega
theorem dig3_low {b : Nat} (h : 97 ≤ b ∧ b ≤ 102) : dig3 true b = (b : Int) - 87 := by
  have : digV b = b - 87 := by rcases digV_cases b with h | h | h | h <;> omega
  unfold dig3
  rw [if_pos (by simp; omega)]
  omega
theorem dig3_big {b : Nat} (h : 65 ≤ b ∧ b ≤ 70) : dig3 true b = (b : Int) - 55 := by
  have : digV b = b - 55 := by rcases digV_cases b with h | h | h | h <;> omega
  unfold dig3
  rw [if_pos (by simp; omega)]
  omega
theorem dig3_not {b : Nat} (h : ¬ (48 ≤ b ∧ b ≤ 57)) : dig3 false b = -1 := by
  have : 10 ≤ digV b := by rcases digV_cases b with h | h | h | h <;> omega
  unfold dig3
  rw [if_neg (by simp; omega)]
theorem dig3_none {b : Nat} (h : ¬ (48 ≤ b ∧ b ≤ 57)) (h1 : ¬ (97 ≤ b ∧ b ≤ 102)) (h2 : ¬ (65 ≤ b ∧ b ≤ 70)) (hex : Bool) : dig3 hex b = -1 := by
  have : digV b = 16 := by rcases digV_cases b with h | h | h | h <;> omega
  unfold dig3
  rw [if_neg (by cases hex <;> simp <;> omega)]

set_option maxHeartbeats 2000000 in
theorem specDigit (b : Nat) (hex : Bool) (w : World) (hb : b < 256) :
    Calls Tryd.prog 50 #[.int .u8 (b : Int), .bool hex] w fun e w' => e = .returned (.int .i64 (dig3 hex b)) ∧ w' = w := by
  cases hex
  · rcases seven b with h | h | h | h | h | h | h
    case inr.inl =>
      have Hn : Hid (dig3 false b = (b : Int) - 48) := dig3_ten h false
      obtain ⟨h1, h2⟩ := h
      go_enter Tryd.func50, Tryd.ntmps50
      go_wp2
      go_ret
      exact ⟨ret_i64 Hn.out.symm, rfl⟩
    all_goals
      have Hn : Hid (dig3 false b = -1) := dig3_not (by omega)
      go_enter Tryd.func50, Tryd.ntmps50
      go_wp2
      all_goals (go_ret; exact ⟨ret_i64 Hn.out.symm, rfl⟩)
  · rcases seven b with h | h | h | h | h | h | h
    case inr.inl =>
      have Hn : Hid (dig3 true b = (b : Int) - 48) := dig3_ten h true
      obtain ⟨h1, h2⟩ := h
      go_enter Tryd.func50, Tryd.ntmps50
      go_wp2
      go_ret
      exact ⟨ret_i64 Hn.out.symm, rfl⟩
    case inr.inr.inr.inl =>
      have Hn : Hid (dig3 true b = (b : Int) - 55) := dig3_big h
      obtain ⟨h1, h2⟩ := h
      go_enter Tryd.func50, Tryd.ntmps50
      go_wp2
      go_ret
      exact ⟨ret_i64 Hn.out.symm, rfl⟩
    case inr.inr.inr.inr.inr.inl =>
      have Hn : Hid (dig3 true b = (b : Int) - 87) := dig3_low h
      obtain ⟨h1, h2⟩ := h
      go_enter Tryd.func50, Tryd.ntmps50
      go_wp2
      go_ret
      exact ⟨ret_i64 Hn.out.symm, rfl⟩
    all_goals
      have Hn : Hid (dig3 true b = -1) := dig3_none (by omega) (by omega) (by omega) true
      go_enter Tryd.func50, Tryd.ntmps50
      go_wp2
      all_goals (go_ret; exact ⟨ret_i64 Hn.out.symm, rfl⟩)


end Go.Proofs.YtfbnhjogkjbcbaaDoor.Sg
