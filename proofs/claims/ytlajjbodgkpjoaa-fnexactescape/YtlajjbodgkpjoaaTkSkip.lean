/- Contracts of the model's loops over bytes. -/
import Derived.Test.YtlajjbodgkpjoaaKdIn
import Derived.Test.YtlajjbodgkpjoaaTkP
namespace Go.Proofs.Ytlajjbodgkpjoaa.Sg
open Go.ChangeShapes Go.WideShapes Go.ChangeAt Go.RowKit

theorem ret_i64' {a b : Int} (h : a = b) : Ending.returned (.int .i64 a) = .returned (.int .i64 b) := by rw [h]






set_option maxHeartbeats 2000000 in
theorem specFind (s : ByteArray) (i : Nat) (b : UInt8) (w : World) (hi : i ≤ s.size) (hs : s.size ≤ 17592186044416) :
    Calls Try.prog 14 #[.string s, .int .i64 (i : Int), .int .u8 (b.toNat : Int)] w fun e w' => e = .returned (.int .i64 (findV (findE s i b))) ∧ w' = w := by
  go_enter Try.func14, Try.ntmps14
  go_wp2
  go_loopw [1] (fun v wr => ∃ k : Nat, k ≤ s.size ∧ v = .int .i64 (k : Int) ∧ Hid (findE s i b = findE s k b) ∧ wr = w) (fun v _ => s.size - (intOf v).toNat)
  case atStart => exact ⟨i, hi, rfl, rfl, rfl⟩
  case round =>
    obtain ⟨k, hk, rfl, Hsp, rfl⟩ := hrel
    by_cases hlt : k < s.size
    · by_cases he : s[k]'hlt = b
      · have Hn : Hid (findE s i b = some k) := Hsp.out.trans (findE_yes hlt he)
        have g1 : (((s[k]'hlt).toNat : Int) == (b.toNat : Int)) = true := by simp [he]
        clear he Hsp
        go_wp2
        go_ret
        exact ⟨ret_i64' (by rw [Hn.out]; rfl), rfl⟩
      · have Hn : Hid (findE s i b = findE s (k + 1) b) := Hsp.out.trans (findE_no hlt he)
        have g1 : (((s[k]'hlt).toNat : Int) == (b.toNat : Int)) = false := by
          simp only [beq_eq_false_iff_ne]
          intro h
          exact he (UInt8.toNat_inj.1 (by omega))
        have g2 : ((s[k]'hlt).toNat == b.toNat) = false := by
          simp only [beq_eq_false_iff_ne]
          exact fun h => he (UInt8.toNat_inj.1 h)
        clear he Hsp
        go_wp2
        go_roundw
        case rel => exact ⟨k + 1, by omega, by go_num, Hn, by first | trivial | rfl⟩
        case measure => simp [intOf]; omega
    · have Hn : Hid (findE s i b = none) := Hsp.out.trans (findE_end hlt)
      have g0 : decide ((k : Int) < (s.size : Int)) = false := decide_eq_false (by omega)
      clear Hsp
      go_wp2
      go_ret
      exact ⟨ret_i64' (by rw [Hn.out]; rfl), rfl⟩

end Go.Proofs.Ytlajjbodgkpjoaa.Sg
