/- Contracts of the model's l5Stands and l5Search. -/
import Derived.Test.YtfbnhjogkjbcbaaDoorScSt
import Derived.Test.YtfbnhjogkjbcbaaDoorMN06
import Derived.Test.YtfbnhjogkjbcbaaDoorMN08
import Derived.Laws.DeepStrings4
namespace Go.Proofs.YtfbnhjogkjbcbaaDoor.Sg
open Go.ChangeShapes Go.WideShapes Go.ChangeAt Go.RowKit

set_option maxHeartbeats 1000000 in
theorem specStands (s : ByteArray) (k : Nat) (t : ByteArray) (w : World) (_hs : s.size ≤ 17592186044416) (hk : k ≤ 17592186044416) (ht : t.size ≤ 17592186044416) :
    Calls Tryd.prog 26 #[.string s, .int .i64 (k : Int), .string t] w fun e w' => e = .returned (.bool (standsB s k t)) ∧ w' = w := by
  have q1 : IntKind.i64.wrap ((k : Int) + (t.size : Int)) = (k : Int) + (t.size : Int) := IntWalk.i64_in _ (by omega)
  have q3 : (k : Int) ≤ (k : Int) + (t.size : Int) := by omega
  have q4 : ((k : Int) + (t.size : Int)).toNat = k + t.size := by omega
  have q5 : (0 : Int) ≤ (k : Int) + (t.size : Int) := by omega
  have q6 : (0 : Int) ≤ (k : Int) := by omega
  by_cases h : k + t.size ≤ s.size
  · have Hn : Hid (standsB s k t = ((s.extract k (k + t.size)).toList == t.toList)) := by
      show _ = _
      unfold standsB
      rw [decide_eq_true h, Bool.true_and]
    have q2 : (k : Int) + (t.size : Int) ≤ (s.size : Int) := by omega
    cases hc : (s.extract k (k + t.size)).toList == t.toList
    · rw [hc] at Hn
      go_enter Tryd.func26, Tryd.ntmps26
      go_wp2
      go_ret
      exact ⟨ret_bool Hn.out.symm, rfl⟩
    · rw [hc] at Hn
      go_enter Tryd.func26, Tryd.ntmps26
      go_wp2
      go_ret
      exact ⟨ret_bool Hn.out.symm, rfl⟩
  · have Hn : Hid (standsB s k t = false) := by
      show _ = _
      unfold standsB
      rw [decide_eq_false h, Bool.false_and]
    have q2 : decide ((k : Int) + (t.size : Int) ≤ (s.size : Int)) = false := decide_eq_false (by omega)
    go_enter Tryd.func26, Tryd.ntmps26
    go_wp2
    go_ret
    exact ⟨ret_bool Hn.out.symm, rfl⟩

set_option maxHeartbeats 1000000 in
theorem specSearch (s : ByteArray) (k0 : Nat) (t : ByteArray) (w : World) (hs : s.size ≤ 17592186044416) (hk : k0 ≤ 1099511627776) (ht : t.size ≤ 1099511627776) :
    Calls Tryd.prog 35 #[.string s, .int .i64 (k0 : Int), .string t] w fun e w' => e = .returned (.int .i64 (findV (searchE s k0 t))) ∧ w' = w := by
  go_enter Tryd.func35, Tryd.ntmps35
  go_wp2
  go_loopw [1] (fun v wr => ∃ k : Nat, v = .int .i64 (k : Int) ∧ (k ≤ k0 ∨ k ≤ s.size + 1) ∧ Hid (searchE s k0 t = searchE s k t) ∧ wr = w) (fun v _ => s.size + 1 - (intOf v).toNat)
  case atStart => exact ⟨k0, rfl, .inl (Nat.le_refl _), rfl, rfl⟩
  case round =>
    obtain ⟨k, rfl, hkb, Hsp, rfl⟩ := hrel
    have hkb' : k ≤ 17592186044417 := by omega
    clear hkb
    have q1 : IntKind.i64.wrap ((k : Int) + (t.size : Int)) = (k : Int) + (t.size : Int) := IntWalk.i64_in _ (by omega)
    by_cases h : k + t.size ≤ s.size
    · have Hv := fun w => specStands s k t w hs (by omega) (by omega)
      have q2 : (k : Int) + (t.size : Int) ≤ (s.size : Int) := by omega
      cases hc : standsB s k t
      · have Hn : Hid (searchE s k0 t = searchE s (k + 1) t) := Hsp.out.trans (searchE_no h hc)
        rw [hc] at Hv
        clear Hsp hc
        go_wp2_with fail
        refine (Hv _).mono ?_
        rintro e w1 ⟨rfl, rfl⟩
        go_wp2
        go_roundw
        case rel => exact ⟨k + 1, by go_num, .inr (by omega), Hn, by first | trivial | rfl⟩
        case measure => simp [intOf]; omega
      · have Hn : Hid (searchE s k0 t = some k) := Hsp.out.trans (searchE_yes hc)
        rw [hc] at Hv
        clear Hsp hc
        go_wp2_with fail
        refine (Hv _).mono ?_
        rintro e w1 ⟨rfl, rfl⟩
        go_wp2
        go_ret
        exact ⟨ret_i64' (by rw [Hn.out]; rfl), rfl⟩
    · have Hn : Hid (searchE s k0 t = none) := Hsp.out.trans (searchE_end h)
      have q2 : decide ((k : Int) + (t.size : Int) ≤ (s.size : Int)) = false := decide_eq_false (by omega)
      clear Hsp
      go_wp2
      go_ret
      exact ⟨ret_i64' (by rw [Hn.out]; rfl), rfl⟩

end Go.Proofs.YtfbnhjogkjbcbaaDoor.Sg
