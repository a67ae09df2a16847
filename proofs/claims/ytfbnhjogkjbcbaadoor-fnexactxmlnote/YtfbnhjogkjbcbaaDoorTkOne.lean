/- Contracts of the program's isOne, past and upTo. -/
import Derived.Test.YtfbnhjogkjbcbaaDoorMN01
import Derived.Test.YtfbnhjogkjbcbaaDoorSgOk
import Derived.Test.YtfbnhjogkjbcbaaDoorShelf
namespace Go.Proofs.YtfbnhjogkjbcbaaDoor.Sg
open Go.ChangeShapes Go.WideShapes Go.ChangeAt Go.RowKit

/-- A byte is one of those. -/
def oneU (t : ByteArray) (b : UInt8) : Bool := t.data.toList.contains b

theorem indexByte_ge (l : List UInt8) (b : UInt8) : (0 : Int) ≤ Lib.indexByte l b ∨ Lib.indexByte l b = -1 := by
  induction l with
  | nil => exact .inr rfl
  | cons x l ih =>
    unfold Lib.indexByte
    by_cases h : (x == b) = true
    · rw [if_pos h]; exact .inl (Int.le_refl _)
    · rw [if_neg h]
      by_cases h2 : (Lib.indexByte l b == -1) = true
      · rw [if_pos h2]; exact .inr rfl
      · rw [if_neg h2]
        rcases ih with h3 | h3
        · exact .inl (by omega)
        · exact absurd (beq_iff_eq.2 h3) h2
theorem indexByte_one (l : List UInt8) (b : UInt8) : decide ((0 : Int) ≤ Lib.indexByte l b) = l.contains b := by
  induction l with
  | nil => rfl
  | cons x l ih =>
    unfold Lib.indexByte
    rw [List.contains_cons]
    by_cases h : (x == b) = true
    · rw [if_pos h]
      have e : x = b := beq_iff_eq.1 h
      subst e
      simp
    · rw [if_neg h]
      have e : (b == x) = false := by
        apply Bool.eq_false_iff.2
        intro h2
        exact h (beq_iff_eq.2 (beq_iff_eq.1 h2).symm)
      rw [e, ← ih, Bool.false_or]
      by_cases h2 : (Lib.indexByte l b == -1) = true
      · rw [if_pos h2]
        have e2 : Lib.indexByte l b = -1 := beq_iff_eq.1 h2
        rw [e2]
      · rw [if_neg h2]
        have e2 : Lib.indexByte l b ≠ -1 := fun e3 => h2 (beq_iff_eq.2 e3)
        have := indexByte_ge l b
        rw [decide_eq_decide]
        omega

set_option maxHeartbeats 1000000 in
theorem implIsOne (b : UInt8) (t : ByteArray) (w : World) :
    Calls Tryd.prog 71 #[.int .u8 (b.toNat : Int), .string t] w fun e w' => e = .returned (.bool (oneU t b)) ∧ w' = w := by
  have Hi := Tryd.strings_IndexByte t (b.toNat : Int)
  rw [show ((b.toNat : Int)).toNat.toUInt8 = b by simp] at Hi
  have Hn : Hid (decide ((0 : Int) ≤ Lib.indexByte t.data.toList b) = oneU t b) := indexByte_one _ _
  generalize Lib.indexByte t.data.toList b = z at *
  go_enter Tryd.func71, Tryd.ntmps71
  go_wp2_with fail
  refine (Hi _).mono ?_
  rintro e w1 ⟨rfl, rfl⟩
  go_wp2
  go_ret
  exact ⟨ret_bool Hn.out, rfl⟩

/-- A byte is none of those. -/
def notU (t : ByteArray) (b : UInt8) : Bool := !oneU t b

set_option maxHeartbeats 1000000 in
theorem implUpTo (s : ByteArray) (k0 : Nat) (t : ByteArray) (w : World) (hs : s.size ≤ 17592186044416) :
    Calls Tryd.prog 53 #[.string s, .int .i64 (k0 : Int), .string t] w fun e w' => e = .returned (.int .i64 (runE (notU t) s k0 : Int)) ∧ w' = w := by
  go_enter Tryd.func53, Tryd.ntmps53
  go_wp2
  go_loopw [1] (fun v wr => ∃ k : Nat, v = .int .i64 (k : Int) ∧ Hid (runE (notU t) s k0 = runE (notU t) s k) ∧ wr = w) (fun v _ => s.size - (intOf v).toNat)
  case atStart => exact ⟨k0, rfl, rfl, rfl⟩
  case round =>
    obtain ⟨k, rfl, Hsp, rfl⟩ := hrel
    by_cases hlt : k < s.size
    · have Hv := implIsOne (s[k]'hlt) t
      cases hp : oneU t (s[k]'hlt)
      · have Hn : Hid (runE (notU t) s k0 = runE (notU t) s (k + 1)) := Hsp.out.trans (runE_yes hlt (by unfold notU; rw [hp]; rfl))
        rw [hp] at Hv
        clear Hsp hp
        go_wp2_with fail
        refine (Hv _).mono ?_
        rintro e w1 ⟨rfl, rfl⟩
        go_wp2
        go_roundw
        case rel => exact ⟨k + 1, by go_num, Hn, by first | trivial | rfl⟩
        case measure => simp [intOf]; omega
      · have Hn : Hid (runE (notU t) s k0 = k) := Hsp.out.trans (runE_no hlt (by unfold notU; rw [hp]; rfl))
        rw [hp] at Hv
        clear Hsp hp
        go_wp2_with fail
        refine (Hv _).mono ?_
        rintro e w1 ⟨rfl, rfl⟩
        go_wp2
        go_ret
        exact ⟨ret_i64' (by rw [Hn.out]), rfl⟩
    · have Hn : Hid (runE (notU t) s k0 = k) := Hsp.out.trans (runE_end hlt)
      have g0 : decide ((k : Int) < (s.size : Int)) = false := decide_eq_false (by omega)
      clear Hsp
      go_wp2
      go_ret
      exact ⟨ret_i64' (by rw [Hn.out]), rfl⟩

end Go.Proofs.YtfbnhjogkjbcbaaDoor.Sg
