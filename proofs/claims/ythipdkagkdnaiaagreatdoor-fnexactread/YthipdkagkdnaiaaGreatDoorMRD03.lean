/- Plain tests of numbers: the kinds of signs. No program in it. Contracts of IsBlank and IsText, of the program and of the model, and of the model's test of a span. Contracts of IsText, of the program and of the model. Names and texts that are strict, in plain lists: what is made strict is strict, and what is strict stays. No program in it. Texts that stand in a text: plain. No program in it. References, in plain lists of bytes. No program in it. Words of a page, in plain lists of bytes: what is gone over, and how far. No program in it. Bytes swapped for texts, as plain lists. No program in it. References of a strict text, plain. No program in it. -/
import Derived.ProofKit
import Derived.Test.YthipdkagkdnaiaaGreatDoorSgOk
import Derived.Test.YthipdkagkdnaiaaGreatDoorMRD08
import Derived.Test.YthipdkagkdnaiaaGreatDoorMRD06
namespace Go.Proofs.YthipdkagkdnaiaaGreatDoor.Sg

/-- A number lies in a span. -/
def inP (n : Int) (p : Int × Int) : Bool := decide (p.1 ≤ n ∧ n ≤ p.2)
/-- A number lies in one of some spans. -/
def withinB (l : List (Int × Int)) (n : Int) : Bool := l.any (inP n)

def letterL : List (Int × Int) := [(65, 90), (97, 122)]
def letterB (n : Int) : Bool := withinB letterL n
def firstR : List (Int × Int) := [(192, 214), (216, 246), (248, 767), (880, 893), (895, 8191), (8204, 8205), (8304, 8591), (11264, 12271), (12289, 55295), (63744, 64975), (65008, 65533), (65536, 983039)]
def firstL : List (Int × Int) := (95, 95) :: firstR
def firstB (n : Int) : Bool := letterB n || withinB firstL n
def nextR : List (Int × Int) := [(48, 57), (768, 879), (8255, 8256)]
def nextL : List (Int × Int) := [(45, 46), (48, 57), (183, 183), (768, 879), (8255, 8256)]
def nextB (n : Int) : Bool := firstB n || withinB nextL n

/-- The span in which a number lies first; the one of two noughts where it lies in none. -/
def spanS : List (Int × Int) → Int → Int × Int
  | [], _ => (0, 0)
  | p :: l, n => if inP n p then p else spanS l n

theorem spanS_any (l : List (Int × Int)) (n : Int) (h : ∀ p ∈ l, p ≠ (0, 0)) : (!decide (spanS l n = (0, 0))) = withinB l n := by
  induction l with
  | nil => rfl
  | cons p l ih =>
    have ih' := ih fun q hq => h q (List.mem_cons_of_mem _ hq)
    have hp := h p List.mem_cons_self
    unfold spanS withinB
    rw [List.any_cons]
    cases hi : inP n p
    · simp only [Bool.false_or]
      exact ih'
    · simp [hp]

theorem spanS_drop (l : List (Int × Int)) (n : Int) (k : Nat) (hk : k < l.length) : spanS (l.drop k) n = if inP n (l.getD k (0, 0)) then l.getD k (0, 0) else spanS (l.drop (k + 1)) n := by
  rw [List.drop_eq_getElem_cons hk]
  unfold spanS
  simp [hk]
  cases l.drop (k + 1) <;> simp [spanS]

theorem within_drop (l : List (Int × Int)) (n : Int) (k : Nat) (hk : k < l.length) : withinB (l.drop k) n = (inP n (l.getD k (0, 0)) || withinB (l.drop (k + 1)) n) := by
  rw [List.drop_eq_getElem_cons hk]
  unfold withinB
  rw [List.any_cons]
  simp [hk]

theorem first_split (n : Int) : firstB n = (letterB n || decide (n = 95) || withinB firstR n) := by
  unfold firstB firstL
  rw [Bool.or_assoc]
  congr 1
  unfold withinB
  rw [List.any_cons]
  congr 1
  unfold inP
  simp only
  congr 1
  apply propext
  omega

theorem next_split (n : Int) : nextB n = (firstB n || decide (n = 45) || decide (n = 46) || decide (n = 183) || withinB nextR n) := by
  unfold nextB nextL withinB nextR inP
  simp only [List.any_cons, List.any_nil, Bool.or_false, Bool.or_assoc]
  congr 1
  rw [Bool.eq_iff_iff]
  simp only [Bool.or_eq_true, decide_eq_true_eq]
  omega

end Go.Proofs.YthipdkagkdnaiaaGreatDoor.Sg

namespace Go.Proofs.YthipdkagkdnaiaaGreatDoor.Sg
open Go.ChangeShapes Go.WideShapes Go.ChangeAt Go.RowKit

set_option maxHeartbeats 1000000 in
theorem l1In_kd (n lo hi : Int) (w : World) :
    Calls Tryz.prog 69 #[.int .i64 n, .int .i64 lo, .int .i64 hi] w fun e w' => e = .returned (.bool (inP n (lo, hi))) ∧ w' = w := by
  by_cases h1 : lo ≤ n
  · by_cases h2 : n ≤ hi
    · have ho : inP n (lo, hi) = true := decide_eq_true ⟨h1, h2⟩
      rw [ho]
      go_enter Tryz.func69, Tryz.ntmps69
      go_wp2
      go_ret
      exact ⟨rfl, rfl⟩
    · have ho : inP n (lo, hi) = false := decide_eq_false fun h => h2 h.2
      rw [ho]
      go_enter Tryz.func69, Tryz.ntmps69
      go_wp2
      go_ret
      exact ⟨rfl, rfl⟩
  · have ho : inP n (lo, hi) = false := decide_eq_false fun h => h1 h.1
    rw [ho]
    go_enter Tryz.func69, Tryz.ntmps69
    go_wp2
    go_ret
    exact ⟨rfl, rfl⟩

theorem six (n : Int) : n = 9 ∨ n = 10 ∨ n = 12 ∨ n = 13 ∨ n = 32 ∨ (n ≠ 9 ∧ n ≠ 10 ∧ n ≠ 12 ∧ n ≠ 13 ∧ n ≠ 32) := by omega

end Go.Proofs.YthipdkagkdnaiaaGreatDoor.Sg

namespace Go.Proofs.YthipdkagkdnaiaaGreatDoor.Sg
open Go.ChangeShapes Go.WideShapes Go.ChangeAt Go.RowKit

def textB (n : Int) : Bool := decide (n = 9 ∨ n = 10 ∨ n = 13 ∨ (okB n = true ∧ 32 ≤ n ∧ n ≠ 65534 ∧ n ≠ 65535))

theorem sixT (n : Int) : n = 9 ∨ n = 10 ∨ n = 13 ∨ n = 65534 ∨ n = 65535 ∨ (n ≠ 9 ∧ n ≠ 10 ∧ n ≠ 13 ∧ n ≠ 65534 ∧ n ≠ 65535) := by omega

set_option maxHeartbeats 1000000 in
theorem implIsText (n : Int) (w : World) :
    Calls Tryz.prog 129 #[.int .i64 n] w fun e w' => e = .returned (.bool (textB n)) ∧ w' = w := by
  rcases sixT n with rfl | rfl | rfl | rfl | rfl | ⟨h1, h2, h3, h4, h5⟩
  iterate 5
    · go_enter Tryz.func129, Tryz.ntmps129
      go_wp2
      go_ret
      exact ⟨rfl, rfl⟩
  have g1 : (n == 9) = false := beq_false_of_ne h1
  have g2 : (n == 10) = false := beq_false_of_ne h2
  have g3 : (n == 13) = false := beq_false_of_ne h3
  have g4 : (n == 65534) = false := beq_false_of_ne h4
  have g5 : (n == 65535) = false := beq_false_of_ne h5
  by_cases h6 : (32 : Int) ≤ n
  · have ho : textB n = okB n := by
      unfold textB
      cases hk : okB n
      · exact decide_eq_false (by simp [h1, h2, h3])
      · exact decide_eq_true (.inr (.inr (.inr ⟨rfl, h6, h4, h5⟩)))
    rw [ho]
    clear h1 h2 h3 h4 h5 ho
    go_enter Tryz.func129, Tryz.ntmps129
    go_wp2_with fail
    refine (implSignOk n _).mono ?_
    rintro e w1 ⟨rfl, rfl⟩
    go_wp2
    go_ret
    exact ⟨rfl, rfl⟩
  · have ho : textB n = false := decide_eq_false (by simp [h1, h2, h3, h6])
    rw [ho]
    clear h1 h2 h3 h4 h5 ho
    go_enter Tryz.func129, Tryz.ntmps129
    go_wp2
    go_ret
    exact ⟨rfl, rfl⟩

set_option maxHeartbeats 1000000 in
theorem specIsText (n : Int) (w : World) :
    Calls Tryz.prog 94 #[.int .i64 n] w fun e w' => e = .returned (.bool (textB n)) ∧ w' = w := by
  by_cases h123 : n = 9 ∨ n = 10 ∨ n = 13
  · rcases h123 with rfl | rfl | rfl
    iterate 3
      · go_enter Tryz.func94, Tryz.ntmps94
        go_wp2
        go_ret
        exact ⟨rfl, rfl⟩
  have h1 : n ≠ 9 := fun h => h123 (.inl h)
  have h2 : n ≠ 10 := fun h => h123 (.inr (.inl h))
  have h3 : n ≠ 13 := fun h => h123 (.inr (.inr h))
  have g1 : (n == 9) = false := beq_false_of_ne h1
  have g2 : (n == 10) = false := beq_false_of_ne h2
  have g3 : (n == 13) = false := beq_false_of_ne h3
  clear h123
  cases hk : okB n
  · have ho : textB n = false := decide_eq_false (by simp [h1, h2, h3, hk])
    rw [ho]
    have Hk : Hid (okB n = false) := hk
    clear h1 h2 h3 ho hk
    go_enter Tryz.func94, Tryz.ntmps94
    go_wp2_with fail
    refine (specSignOk n _).mono ?_
    rintro e w1 ⟨rfl, rfl⟩
    rw [Hk.out]
    go_wp2
    go_ret
    exact ⟨rfl, rfl⟩
  · have ho : textB n = decide (32 ≤ n ∧ n ≠ 65534 ∧ n ≠ 65535) := by
      unfold textB
      congr 1
      simp [h1, h2, h3, hk]
    rw [ho]
    have Hk : Hid (okB n = true) := hk
    clear h1 h2 h3 ho hk
    by_cases h6 : (32 : Int) ≤ n
    · by_cases h4 : n = 65534
      · subst h4
        go_enter Tryz.func94, Tryz.ntmps94
        go_wp2_with fail
        refine (specSignOk _ _).mono ?_
        rintro e w1 ⟨rfl, rfl⟩
        rw [Hk.out]
        go_wp2
        go_ret
        exact ⟨rfl, rfl⟩
      · have g4 : (n == 65534) = false := beq_false_of_ne h4
        by_cases h5 : n = 65535
        · subst h5
          go_enter Tryz.func94, Tryz.ntmps94
          go_wp2_with fail
          refine (specSignOk _ _).mono ?_
          rintro e w1 ⟨rfl, rfl⟩
          rw [Hk.out]
          go_wp2
          go_ret
          exact ⟨rfl, rfl⟩
        · have g5 : (n == 65535) = false := beq_false_of_ne h5
          rw [show decide (32 ≤ n ∧ n ≠ 65534 ∧ n ≠ 65535) = true from decide_eq_true ⟨h6, h4, h5⟩]
          clear g4 g5
          have g4 : decide (n = 65534) = false := decide_eq_false h4
          have g5 : decide (n = 65535) = false := decide_eq_false h5
          have g6 : (n != 65534) = true := by simp [h4]
          have g7 : (n != 65535) = true := by simp [h5]
          go_enter Tryz.func94, Tryz.ntmps94
          go_wp2_with fail
          refine (specSignOk _ _).mono ?_
          rintro e w1 ⟨rfl, rfl⟩
          rw [Hk.out]
          go_wp2
          go_ret
          exact ⟨rfl, rfl⟩
    · rw [show decide (32 ≤ n ∧ n ≠ 65534 ∧ n ≠ 65535) = false from decide_eq_false fun h => h6 h.1]
      go_enter Tryz.func94, Tryz.ntmps94
      go_wp2_with fail
      refine (specSignOk _ _).mono ?_
      rintro e w1 ⟨rfl, rfl⟩
      rw [Hk.out]
      go_wp2
      go_ret
      exact ⟨rfl, rfl⟩

end Go.Proofs.YthipdkagkdnaiaaGreatDoor.Sg

namespace Go.Proofs.YthipdkagkdnaiaaGreatDoor.Sg

theorem textB_ok {n : Int} (h : textB n = true) : okB n = true := by
  unfold textB at h
  rw [decide_eq_true_eq] at h
  rcases h with h | h | h | h
  · exact okB_yes (by omega)
  · exact okB_yes (by omega)
  · exact okB_yes (by omega)
  · exact h.1
theorem firstB_next {n : Int} (h : firstB n = true) : nextB n = true := by unfold nextB; rw [h]; rfl
/-- A sign of one byte. -/
theorem putS_one {z : Int} (h0 : 0 ≤ z) (h1 : z ≤ 127) : (putS z).data.toList = [UInt8.ofNat z.toNat] := by
  rw [putS_list, Lib.encodeRuneZ_one h0 h1]
  rfl
theorem signs_some {s : ByteArray} (h : s.size ≠ 0) : signsL s ≠ [] := by
  rw [← signsAt_zero, signsAt_step s 0 (by omega)]
  exact List.cons_ne_nil _ _

/-- A digit of 16, large. -/
def hexZ (d : Nat) : Int := if d < 10 then 48 + d else 55 + d
/-- Six digits of 16. -/
def sixZ (n : Nat) : List Int := [hexZ (n / 1048576 % 16), hexZ (n / 65536 % 16), hexZ (n / 4096 % 16), hexZ (n / 256 % 16), hexZ (n / 16 % 16), hexZ (n % 16)]
theorem hexZ_next (d : Nat) (h : d < 16) : nextB (hexZ d) = true := by
  have : ∀ d, d < 16 → nextB (hexZ d) = true := by decide
  exact this d h

/-- A sign may stand in a name: first or not. -/
def stayB : Bool → Int → Bool
  | true, z => firstB z
  | false, z => nextB z
/-- What a sign becomes in a name: first or not. -/
def strictZ (f : Bool) (z : Int) : List Int := if stayB f z = true then [z] else 85 :: sixZ z.toNat
/-- A name's signs, made strict. -/
def namesZ : Bool → List Int → List Int
  | _, [] => []
  | f, z :: zs => strictZ f z ++ namesZ false zs
/-- A name that is strict. -/
def stNameL : Bool → List Int → Bool
  | _, [] => true
  | f, z :: zs => stayB f z && stNameL false zs
def stNameB (s : ByteArray) : Bool := stNameL true (signsL s) && decide (s.size ≠ 0) && cleanB s
theorem sixZ_next (n : Nat) : ∀ z ∈ sixZ n, nextB z = true := by
  intro z hz
  unfold sixZ at hz
  simp only [List.mem_cons, List.not_mem_nil, or_false] at hz
  rcases hz with rfl | rfl | rfl | rfl | rfl | rfl <;> exact hexZ_next _ (Nat.mod_lt _ (by decide))
def stTextB (s : ByteArray) : Bool := (signsL s).all textB && cleanB s
/-- No byte 13. -/
def noCr (l : List UInt8) : Bool := l.all fun b => b != 13
/-- No two bytes 45 one behind the other. -/
def noTwo : List UInt8 → Bool
  | [] => true
  | b :: l => !(b == 45 && l.head? == some 45) && noTwo l
/-- None at the end. -/
def lastOk (l : List UInt8) : Bool := l.getLast? != some 45
def stNoteB (s : ByteArray) : Bool := stTextB s && noCr s.data.toList && noTwo s.data.toList && lastOk s.data.toList
theorem putS_high {z : Int} (hz : okB z = true) (h : 128 ≤ z) : ∀ b ∈ (putS z).data.toList, 128 ≤ b.toNat := by
  have hb := okB_of hz
  have key : ∀ x : Int, 128 ≤ x → x < 256 → 128 ≤ (UInt8.ofNat x.toNat).toNat := by
    intro x h0 h1
    rw [u8_of x (by omega) h1]
    omega
  rw [putS_list]
  by_cases c2 : z ≤ 2047
  · rw [Lib.encodeRuneZ_two (by omega) c2]
    intro b hb
    simp only [List.map_cons, List.map_nil, List.mem_cons, List.not_mem_nil, or_false] at hb
    rcases hb with rfl | rfl <;> exact key _ (by omega) (by omega)
  · by_cases c3 : z ≤ 65535
    · rw [Lib.encodeRuneZ_three (by omega)]
      intro b hb
      simp only [List.map_cons, List.map_nil, List.mem_cons, List.not_mem_nil, or_false] at hb
      rcases hb with rfl | rfl | rfl <;> exact key _ (by omega) (by omega)
    · rw [Lib.encodeRuneZ_four (by omega) (by omega)]
      intro b hb
      simp only [List.map_cons, List.map_nil, List.mem_cons, List.not_mem_nil, or_false] at hb
      rcases hb with rfl | rfl | rfl | rfl <;> exact key _ (by omega) (by omega)
end Go.Proofs.YthipdkagkdnaiaaGreatDoor.Sg

namespace Go.Proofs.YthipdkagkdnaiaaGreatDoor.Sg

/-- A text stands at a place. -/
def standsB (s : ByteArray) (k : Nat) (t : ByteArray) : Bool := decide (k + t.size ≤ s.size) && ((s.extract k (k + t.size)).toList == t.toList)
/-- The first place from one on at which a text stands. -/
def searchE (s : ByteArray) (k : Nat) (t : ByteArray) : Option Nat :=
  if k + t.size ≤ s.size then if standsB s k t then some k else searchE s (k + 1) t else none
  termination_by s.size + 1 - k
  decreasing_by omega
theorem searchE_yes {s : ByteArray} {k : Nat} {t : ByteArray} (h : standsB s k t = true) : searchE s k t = some k := by
  have h1 : k + t.size ≤ s.size := by
    unfold standsB at h
    rw [Bool.and_eq_true, decide_eq_true_eq] at h
    exact h.1
  rw [searchE, if_pos h1, if_pos h]
theorem searchE_no {s : ByteArray} {k : Nat} {t : ByteArray} (h1 : k + t.size ≤ s.size) (h : standsB s k t = false) : searchE s k t = searchE s (k + 1) t := by
  rw [searchE, if_pos h1, if_neg (by rw [h]; simp)]
theorem searchE_end {s : ByteArray} {k : Nat} {t : ByteArray} (h1 : ¬ k + t.size ≤ s.size) : searchE s k t = none := by
  rw [searchE, if_neg h1]
theorem searchE_le (s t : ByteArray) : ∀ (d k m : Nat), s.size + 1 - k ≤ d → searchE s k t = some m → k ≤ m ∧ m + t.size ≤ s.size := by
  intro d
  induction d with
  | zero =>
    intro k m hd h
    rw [searchE_end (by omega)] at h
    cases h
  | succ d ih =>
    intro k m hd h
    by_cases h1 : k + t.size ≤ s.size
    · cases h2 : standsB s k t
      · rw [searchE_no h1 h2] at h
        have := ih (k + 1) m (by omega) h
        omega
      · rw [searchE_yes h2] at h
        cases h
        omega
    · rw [searchE_end h1] at h
      cases h

end Go.Proofs.YthipdkagkdnaiaaGreatDoor.Sg

namespace Go.Proofs.YthipdkagkdnaiaaGreatDoor.Sg

/-- What is left of a text from place k on. -/
def tailL (s : ByteArray) (k : Nat) : List UInt8 := s.data.toList.drop k
theorem tailL_step (s : ByteArray) (k : Nat) (h : k < s.size) : tailL s k = s[k] :: tailL s (k + 1) := by
  have h' : k < s.data.toList.length := by rw [Array.length_toList]; exact h
  unfold tailL
  rw [List.drop_eq_getElem_cons h', Array.getElem_toList]
  rfl
theorem tailL_end (s : ByteArray) (k : Nat) (h : ¬ k < s.size) : tailL s k = [] := by
  unfold tailL
  exact List.drop_eq_nil_of_le (by rw [Array.length_toList]; exact Nat.le_of_not_lt h)
theorem tailL_length (s : ByteArray) (k : Nat) : (tailL s k).length = s.size - k := by
  unfold tailL
  rw [List.length_drop, Array.length_toList]
  rfl
theorem tailL_drop (s : ByteArray) (k m : Nat) : (tailL s k).drop m = tailL s (k + m) := by
  unfold tailL
  rw [List.drop_drop]

/-- What a digit counts; 16 of what is none. -/
def digV (b : Nat) : Nat := if 48 ≤ b ∧ b ≤ 57 then b - 48 else if 97 ≤ b ∧ b ≤ 102 then b - 87 else if 65 ≤ b ∧ b ≤ 70 then b - 55 else 16

theorem digV_cases (b : Nat) : (48 ≤ b ∧ b ≤ 57 ∧ digV b = b - 48) ∨ (97 ≤ b ∧ b ≤ 102 ∧ digV b = b - 87) ∨ (65 ≤ b ∧ b ≤ 70 ∧ digV b = b - 55) ∨ (¬ (48 ≤ b ∧ b ≤ 57) ∧ ¬ (97 ≤ b ∧ b ≤ 102) ∧ ¬ (65 ≤ b ∧ b ≤ 70) ∧ digV b = 16) := by
  unfold digV
  by_cases h1 : 48 ≤ b ∧ b ≤ 57
  · rw [if_pos h1]; exact .inl ⟨h1.1, h1.2, rfl⟩
  · rw [if_neg h1]
    by_cases h2 : 97 ≤ b ∧ b ≤ 102
    · rw [if_pos h2]; exact .inr (.inl ⟨h2.1, h2.2, rfl⟩)
    · rw [if_neg h2]
      by_cases h3 : 65 ≤ b ∧ b ≤ 70
      · rw [if_pos h3]; exact .inr (.inr (.inl ⟨h3.1, h3.2, rfl⟩))
      · rw [if_neg h3]; exact .inr (.inr (.inr ⟨h1, h2, h3, rfl⟩))

theorem digV_le (b : Nat) : digV b ≤ 16 := by rcases digV_cases b with h | h | h | h <;> omega

/-- The digits at a text's head: their number, too large where it is, and how many there are. -/
def numG (base n m : Nat) : List UInt8 → Nat × Nat
  | [] => (n, m)
  | b :: l => if digV b.toNat < base then numG base (min (n * base + digV b.toNat) 1114112) (m + 1) l else (n, m)

theorem numG_le (base n m : Nat) (l : List UInt8) : m ≤ (numG base n m l).2 ∧ (numG base n m l).2 ≤ m + l.length := by
  induction l generalizing n m with
  | nil => exact ⟨Nat.le_refl _, Nat.le_refl _⟩
  | cons b l ih =>
    unfold numG
    split
    · have := ih (min (n * base + digV b.toNat) 1114112) (m + 1)
      simp only [List.length_cons]
      omega
    · simp only [List.length_cons]
      omega

end Go.Proofs.YthipdkagkdnaiaaGreatDoor.Sg

namespace Go.Proofs.YthipdkagkdnaiaaGreatDoor.Sg

/-- How many bytes of a kind stand at a text's head. -/
def runN (p : UInt8 → Bool) : List UInt8 → Nat
  | [] => 0
  | b :: l => if p b then runN p l + 1 else 0

theorem runN_le (p : UInt8 → Bool) (l : List UInt8) : runN p l ≤ l.length := by
  induction l with
  | nil => exact Nat.le_refl _
  | cons b l ih =>
    unfold runN
    split
    · exact Nat.succ_le_succ ih
    · exact Nat.zero_le _
theorem runN_yes {p : UInt8 → Bool} {b : UInt8} {l : List UInt8} (h : p b = true) : runN p (b :: l) = runN p l + 1 := by
  rw [runN, if_pos h]
theorem runN_no {p : UInt8 → Bool} {b : UInt8} {l : List UInt8} (h : p b = false) : runN p (b :: l) = 0 := by
  rw [runN, if_neg (by simp [h])]

/-- Where bytes of a kind end, from a place on. -/
def runE (p : UInt8 → Bool) (s : ByteArray) (k : Nat) : Nat := k + runN p (tailL s k)
theorem runE_end {p : UInt8 → Bool} {s : ByteArray} {k : Nat} (h : ¬ k < s.size) : runE p s k = k := by
  unfold runE
  rw [tailL_end s k h]
  rfl
theorem runE_no {p : UInt8 → Bool} {s : ByteArray} {k : Nat} (h : k < s.size) (hp : p (s[k]'h) = false) : runE p s k = k := by
  unfold runE
  rw [tailL_step s k h, runN_no hp]
  rfl
theorem runE_yes {p : UInt8 → Bool} {s : ByteArray} {k : Nat} (h : k < s.size) (hp : p (s[k]'h) = true) : runE p s k = runE p s (k + 1) := by
  unfold runE
  rw [tailL_step s k h, runN_yes hp]
  omega
theorem runE_le {p : UInt8 → Bool} {s : ByteArray} {k : Nat} (h : k ≤ s.size) : k ≤ runE p s k ∧ runE p s k ≤ s.size := by
  have := runN_le p (tailL s k)
  rw [tailL_length] at this
  unfold runE
  omega

/-- The first place of a byte, from one on. -/
def findL (b : UInt8) : List UInt8 → Option Nat
  | [] => none
  | x :: l => if x = b then some 0 else (findL b l).map (· + 1)
def findE (s : ByteArray) (k : Nat) (b : UInt8) : Option Nat := (findL b (tailL s k)).map (k + ·)
def findV : Option Nat → Int
  | none => -1
  | some m => (m : Int)
theorem findE_end {s : ByteArray} {k : Nat} {b : UInt8} (h : ¬ k < s.size) : findE s k b = none := by
  unfold findE
  rw [tailL_end s k h]
  rfl
theorem findE_yes {s : ByteArray} {k : Nat} {b : UInt8} (h : k < s.size) (hp : s[k]'h = b) : findE s k b = some k := by
  unfold findE
  rw [tailL_step s k h, findL, if_pos hp]
  rfl
theorem findE_no {s : ByteArray} {k : Nat} {b : UInt8} (h : k < s.size) (hp : s[k]'h ≠ b) : findE s k b = findE s (k + 1) b := by
  unfold findE
  rw [tailL_step s k h, findL, if_neg hp]
  cases findL b (tailL s (k + 1)) with
  | none => rfl
  | some m =>
    show some (k + (m + 1)) = some (k + 1 + m)
    congr 1
    omega
end Go.Proofs.YthipdkagkdnaiaaGreatDoor.Sg

namespace Go.Proofs.YthipdkagkdnaiaaGreatDoor.Sg

theorem findE_zero (s : ByteArray) (b : UInt8) : findE s 0 b = findL b s.data.toList := by
  unfold findE
  show Option.map _ (findL b (s.data.toList.drop 0)) = _
  rw [List.drop_zero]
  cases findL b s.data.toList <;> simp

end Go.Proofs.YthipdkagkdnaiaaGreatDoor.Sg

namespace Go.Proofs.YthipdkagkdnaiaaGreatDoor.Sg

/-- Digits from a place on, so many at most: the number, and the place behind them. -/
def xdigR (s : ByteArray) : Nat → Nat → Nat → Nat × Nat
  | 0, k, n => (n, k)
  | f + 1, k, n => if h : k < s.size then (if 48 ≤ (s[k]'h).toNat ∧ (s[k]'h).toNat ≤ 57 then xdigR s f (k + 1) (10 * n + ((s[k]'h).toNat - 48)) else (n, k)) else (n, k)
theorem xdigR_go {s : ByteArray} {f k n : Nat} (h : k < s.size) (h1 : 48 ≤ (s[k]'h).toNat ∧ (s[k]'h).toNat ≤ 57) : xdigR s (f + 1) k n = xdigR s f (k + 1) (10 * n + ((s[k]'h).toNat - 48)) := by
  rw [xdigR, dif_pos h, if_pos h1]
theorem xdigR_stop {s : ByteArray} {f k n : Nat} (h : k < s.size) (h1 : ¬ (48 ≤ (s[k]'h).toNat ∧ (s[k]'h).toNat ≤ 57)) : xdigR s f k n = (n, k) := by
  cases f with
  | zero => rfl
  | succ f => rw [xdigR, dif_pos h, if_neg h1]
theorem xdigR_end {s : ByteArray} {f k n : Nat} (h : ¬ k < s.size) : xdigR s f k n = (n, k) := by
  cases f with
  | zero => rfl
  | succ f => rw [xdigR, dif_neg h]
theorem xdigR_le (s : ByteArray) : ∀ (f k n : Nat), k ≤ (xdigR s f k n).2 ∧ (xdigR s f k n).2 ≤ k + f ∧ (k ≤ s.size → (xdigR s f k n).2 ≤ s.size)
  | 0, k, n => ⟨Nat.le_refl _, Nat.le_refl _, id⟩
  | f + 1, k, n => by
    by_cases h : k < s.size
    · by_cases h1 : 48 ≤ (s[k]'h).toNat ∧ (s[k]'h).toNat ≤ 57
      · rw [xdigR_go h h1]
        have := xdigR_le s f (k + 1) (10 * n + ((s[k]'h).toNat - 48))
        refine ⟨by omega, by omega, fun _ => this.2.2 h⟩
      · rw [xdigR_stop h h1]
        exact ⟨Nat.le_refl _, by omega, id⟩
    · rw [xdigR_end h]
      exact ⟨Nat.le_refl _, by omega, id⟩
/-- A reference by number that begins at a place: the number, and the place of its semicolon. -/
def xnumR (s : ByteArray) (k : Nat) : Option (Nat × Nat) :=
  let r := xdigR s 7 (k + 2) 0
  if r.2 = k + 2 ∨ bN s (k + 2) = 48 ∨ ¬ r.2 < s.size ∨ bN s r.2 ≠ 59 ∨ textB (r.1 : Int) = false then none else some r

def ampB : ByteArray := ⟨#[38, 97, 109, 112, 59]⟩
def ltB : ByteArray := ⟨#[38, 108, 116, 59]⟩
def gtB : ByteArray := ⟨#[38, 103, 116, 59]⟩
def quotB : ByteArray := ⟨#[38, 113, 117, 111, 116, 59]⟩
def aposB : ByteArray := ⟨#[38, 97, 112, 111, 115, 59]⟩
def hashB : ByteArray := ⟨#[38, 35]⟩
def closeB : ByteArray := ⟨#[93, 93, 62]⟩
/-- A reference that begins at a place: what it tells, and the place behind it. -/
def xrefR (s : ByteArray) (k : Nat) : Option (ByteArray × Nat) :=
  if standsB s k ampB then some (⟨#[38]⟩, k + 5)
  else if standsB s k ltB then some (⟨#[60]⟩, k + 4)
  else if standsB s k gtB then some (⟨#[62]⟩, k + 4)
  else if standsB s k quotB then some (⟨#[34]⟩, k + 6)
  else if standsB s k aposB then some (⟨#[39]⟩, k + 6)
  else if standsB s k hashB then (xnumR s k).map fun r => (putS (r.1 : Int), r.2 + 1)
  else none
theorem stands_le {s t : ByteArray} {k : Nat} (h : standsB s k t = true) : k + t.size ≤ s.size := by
  unfold standsB at h
  rw [Bool.and_eq_true, decide_eq_true_eq] at h
  exact h.1
theorem xnumR_le {s : ByteArray} {k : Nat} {r : Nat × Nat} (h : xnumR s k = some r) : k + 2 < r.2 ∧ r.2 < s.size := by
  unfold xnumR at h
  have hl := xdigR_le s 7 (k + 2) 0
  simp only at h
  split at h
  · cases h
  · rename_i hn
    cases h
    refine ⟨?_, ?_⟩
    · have : ¬ (xdigR s 7 (k + 2) 0).2 = k + 2 := fun e => hn (.inl e)
      omega
    · exact Classical.byContradiction fun e => hn (.inr (.inr (.inl e)))
theorem xrefR_le {s : ByteArray} {k : Nat} {t : ByteArray} {j : Nat} (h : xrefR s k = some (t, j)) : k < j ∧ j ≤ s.size ∧ t.size ≤ 4 := by
  unfold xrefR at h
  split at h
  · rename_i h1
    have := stands_le h1
    cases h
    exact ⟨by omega, this, by decide⟩
  split at h
  · rename_i h1
    have := stands_le h1
    cases h
    exact ⟨by omega, this, by decide⟩
  split at h
  · rename_i h1
    have := stands_le h1
    cases h
    exact ⟨by omega, this, by decide⟩
  split at h
  · rename_i h1
    have := stands_le h1
    cases h
    exact ⟨by omega, this, by decide⟩
  split at h
  · rename_i h1
    have := stands_le h1
    cases h
    exact ⟨by omega, this, by decide⟩
  split at h
  · cases hr : xnumR s k with
    | none =>
      rw [hr] at h
      cases h
    | some r =>
      rw [hr] at h
      have := xnumR_le hr
      cases h
      exact ⟨by omega, by omega, (putS_size _).2⟩
  · cases h

end Go.Proofs.YthipdkagkdnaiaaGreatDoor.Sg
