/- Plain tests of numbers: the kinds of signs. No program in it. Contracts of IsBlank and IsText, of the program and of the model, and of the model's test of a span. Contracts of the model's loops over bytes. -/
import Derived.ProofKit
import Derived.Test.YtfbnhjogkjbcbaaDoorSgOk
import Derived.Test.YtfbnhjogkjbcbaaDoorMN06
namespace Go.Proofs.YtfbnhjogkjbcbaaDoor.Sg

/-- A number lies in a span. -/
def inP (n : Int) (p : Int × Int) : Bool := decide (p.1 ≤ n ∧ n ≤ p.2)
/-- A number lies in one of some spans. -/
def withinB (l : List (Int × Int)) (n : Int) : Bool := l.any (inP n)

def blankB (n : Int) : Bool := decide (n = 9 ∨ n = 10 ∨ n = 12 ∨ n = 13 ∨ n = 32)
def letterL : List (Int × Int) := [(65, 90), (97, 122)]
def letterB (n : Int) : Bool := withinB letterL n
def firstR : List (Int × Int) := [(192, 214), (216, 246), (248, 767), (880, 893), (895, 8191), (8204, 8205), (8304, 8591), (11264, 12271), (12289, 55295), (63744, 64975), (65008, 65533), (65536, 983039)]
def firstL : List (Int × Int) := (95, 95) :: firstR
def firstB (n : Int) : Bool := letterB n || withinB firstL n
def nextR : List (Int × Int) := [(48, 57), (768, 879), (8255, 8256)]
def nextL : List (Int × Int) := [(45, 46), (48, 57), (183, 183), (768, 879), (8255, 8256)]
def nextB (n : Int) : Bool := firstB n || withinB nextL n

/-- The span in which a number lies first; the one of two noughts where it lies in none. -/
def spanS : List (Int × Int) → Int → Int × Int
  | [], _ => (0, 0)
  | p :: l, n => if inP n p then p else spanS l n

theorem spanS_any (l : List (Int × Int)) (n : Int) (h : ∀ p ∈ l, p ≠ (0, 0)) : (!decide (spanS l n = (0, 0))) = withinB l n := by
  induction l with
  | nil => rfl
  | cons p l ih =>
    have ih' := ih fun q hq => h q (List.mem_cons_of_mem _ hq)
    have hp := h p List.mem_cons_self
    unfold spanS withinB
    rw [List.any_cons]
    cases hi : inP n p
    · simp only [Bool.false_or]
      exact ih'
    · simp [hp]

theorem spanS_drop (l : List (Int × Int)) (n : Int) (k : Nat) (hk : k < l.length) : spanS (l.drop k) n = if inP n (l.getD k (0, 0)) then l.getD k (0, 0) else spanS (l.drop (k + 1)) n := by
  rw [List.drop_eq_getElem_cons hk]
  unfold spanS
  simp [hk]
  cases l.drop (k + 1) <;> simp [spanS]

theorem within_drop (l : List (Int × Int)) (n : Int) (k : Nat) (hk : k < l.length) : withinB (l.drop k) n = (inP n (l.getD k (0, 0)) || withinB (l.drop (k + 1)) n) := by
  rw [List.drop_eq_getElem_cons hk]
  unfold withinB
  rw [List.any_cons]
  simp [hk]

theorem first_split (n : Int) : firstB n = (letterB n || decide (n = 95) || withinB firstR n) := by
  unfold firstB firstL
  rw [Bool.or_assoc]
  congr 1
  unfold withinB
  rw [List.any_cons]
  congr 1
  unfold inP
  simp only
  congr 1
  apply propext
  omega

theorem next_split (n : Int) : nextB n = (firstB n || decide (n = 45) || decide (n = 46) || decide (n = 183) || withinB nextR n) := by
  unfold nextB nextL withinB nextR inP
  simp only [List.any_cons, List.any_nil, Bool.or_false, Bool.or_assoc]
  congr 1
  rw [Bool.eq_iff_iff]
  simp only [Bool.or_eq_true, decide_eq_true_eq]
  omega

end Go.Proofs.YtfbnhjogkjbcbaaDoor.Sg

namespace Go.Proofs.YtfbnhjogkjbcbaaDoor.Sg
open Go.ChangeShapes Go.WideShapes Go.ChangeAt Go.RowKit

set_option maxHeartbeats 1000000 in
theorem l1In_kd (n lo hi : Int) (w : World) :
    Calls Tryd.prog 40 #[.int .i64 n, .int .i64 lo, .int .i64 hi] w fun e w' => e = .returned (.bool (inP n (lo, hi))) ∧ w' = w := by
  by_cases h1 : lo ≤ n
  · by_cases h2 : n ≤ hi
    · have ho : inP n (lo, hi) = true := decide_eq_true ⟨h1, h2⟩
      rw [ho]
      go_enter Tryd.func40, Tryd.ntmps40
      go_wp2
      go_ret
      exact ⟨rfl, rfl⟩
    · have ho : inP n (lo, hi) = false := decide_eq_false fun h => h2 h.2
      rw [ho]
      go_enter Tryd.func40, Tryd.ntmps40
      go_wp2
      go_ret
      exact ⟨rfl, rfl⟩
  · have ho : inP n (lo, hi) = false := decide_eq_false fun h => h1 h.1
    rw [ho]
    go_enter Tryd.func40, Tryd.ntmps40
    go_wp2
    go_ret
    exact ⟨rfl, rfl⟩

theorem same_below {B : Nat} {a w w' : World} (h : w' = w) (b : Below B a w) : Below B a w' := h ▸ b

theorem six (n : Int) : n = 9 ∨ n = 10 ∨ n = 12 ∨ n = 13 ∨ n = 32 ∨ (n ≠ 9 ∧ n ≠ 10 ∧ n ≠ 12 ∧ n ≠ 13 ∧ n ≠ 32) := by omega


end Go.Proofs.YtfbnhjogkjbcbaaDoor.Sg

namespace Go.Proofs.YtfbnhjogkjbcbaaDoor.Sg
open Go.ChangeShapes Go.WideShapes Go.ChangeAt Go.RowKit

theorem ret_i64' {a b : Int} (h : a = b) : Ending.returned (.int .i64 a) = .returned (.int .i64 b) := by rw [h]






set_option maxHeartbeats 2000000 in
theorem specFind (s : ByteArray) (i : Nat) (b : UInt8) (w : World) (hi : i ≤ s.size) (hs : s.size ≤ 17592186044416) :
    Calls Tryd.prog 30 #[.string s, .int .i64 (i : Int), .int .u8 (b.toNat : Int)] w fun e w' => e = .returned (.int .i64 (findV (findE s i b))) ∧ w' = w := by
  go_enter Tryd.func30, Tryd.ntmps30
  go_wp2
  go_loopw [1] (fun v wr => ∃ k : Nat, k ≤ s.size ∧ v = .int .i64 (k : Int) ∧ Hid (findE s i b = findE s k b) ∧ wr = w) (fun v _ => s.size - (intOf v).toNat)
  case atStart => exact ⟨i, hi, rfl, rfl, rfl⟩
  case round =>
    obtain ⟨k, hk, rfl, Hsp, rfl⟩ := hrel
    by_cases hlt : k < s.size
    · by_cases he : s[k]'hlt = b
      · have Hn : Hid (findE s i b = some k) := Hsp.out.trans (findE_yes hlt he)
        have g1 : (((s[k]'hlt).toNat : Int) == (b.toNat : Int)) = true := by simp [he]
        clear he Hsp
        go_wp2
        go_ret
        exact ⟨ret_i64' (by rw [Hn.out]; rfl), rfl⟩
      · have Hn : Hid (findE s i b = findE s (k + 1) b) := Hsp.out.trans (findE_no hlt he)
        have g1 : (((s[k]'hlt).toNat : Int) == (b.toNat : Int)) = false := by
          simp only [beq_eq_false_iff_ne]
          intro h
          exact he (UInt8.toNat_inj.1 (by omega))
        have g2 : ((s[k]'hlt).toNat == b.toNat) = false := by
          simp only [beq_eq_false_iff_ne]
          exact fun h => he (UInt8.toNat_inj.1 h)
        clear he Hsp
        go_wp2
        go_roundw
        case rel => exact ⟨k + 1, by omega, by go_num, Hn, by first | trivial | rfl⟩
        case measure => simp [intOf]; omega
    · have Hn : Hid (findE s i b = none) := Hsp.out.trans (findE_end hlt)
      have g0 : decide ((k : Int) < (s.size : Int)) = false := decide_eq_false (by omega)
      clear Hsp
      go_wp2
      go_ret
      exact ⟨ret_i64' (by rw [Hn.out]; rfl), rfl⟩

end Go.Proofs.YtfbnhjogkjbcbaaDoor.Sg
