/- Attributes of a name. -/
import Derived.Test.YtdpjmngodbgacaaGreatDoorM12
import Derived.Test.YtdpjmngodbgacaaGreatDoorM06
namespace Go.Proofs.YtdpjmngodbgacaaGreatDoor.Sg
open Go.ChangeShapes Go.WideShapes Go.ChangeAt Go.RowKit

/-- An attribute of that name is there. -/
def hasA (l : List AttrB) (x : ByteArray) : Bool := l.any fun p => p.1.toList == x.toList
theorem hasA_drop (l : List AttrB) (x : ByteArray) (k : Nat) (h : k < l.length) : hasA (l.drop k) x = (((l.getD k (ByteArray.empty, ByteArray.empty)).1.toList == x.toList) || hasA (l.drop (k + 1)) x) := by
  have e : l.getD k (ByteArray.empty, ByteArray.empty) = l[k]'h := by simp [List.getD, h]
  unfold hasA
  rw [List.drop_eq_getElem_cons h, List.any_cons, e]

set_option maxHeartbeats 2000000 in
theorem specHas (l : List AttrB) (x : ByteArray) (a : Option Addr) (n cap : Nat) (w : World) (ha : AttrsAt w a l) (hl : l.length = n) (hn : n ≤ 17592186044416) :
    Calls Tryz.prog 13 #[.slice a n cap, .string x] w fun e w' => e = .returned (.bool (hasA l x)) ∧ w' = w := by
  have Hl : Hid (l.length = n) := hl
  have Ha : Hid (AttrsAt w a l) := ha
  clear hl ha
  go_enter Tryz.func13, Tryz.ntmps13
  go_wp2
  go_loopw [5] (fun v wr => ∃ k : Nat, k ≤ n ∧ v = .int .i64 (k : Int) ∧ Hid (hasA l x = hasA (l.drop k) x) ∧ wr = w) (fun v _ => n - (intOf v).toNat)
  case atStart => exact ⟨0, Nat.zero_le _, rfl, rfl, rfl⟩
  case round =>
    obtain ⟨k, hk, rfl, Hsp, rfl⟩ := hrel
    by_cases hlt : k < n
    · have hkl : k < l.length := by rw [Hl.out]; exact hlt
      rcases Ha.out with h | ⟨b, rfl, hb, hc⟩
      · rw [h] at hkl
        exact absurd hkl (Nat.not_lt_zero _)
      have hd := hasA_drop l x k hkl
      obtain ⟨c1, _⟩ := hc k hkl
      clear hc hkl
      generalize (l.getD k (ByteArray.empty, ByteArray.empty)).1 = y at *
      cases hq : y.toList == x.toList
      · have Hn : Hid (hasA l x = hasA (l.drop (k + 1)) x) := by show _ = _; rw [Hsp.out, hd, hq]; rfl
        clear hd Hsp
        go_wp2
        go_roundw
        case rel => exact ⟨k + 1, by omega, by go_num, Hn, by first | trivial | rfl⟩
        case measure => simp [intOf]; omega
      · have Hn : Hid (hasA l x = true) := by show _ = _; rw [Hsp.out, hd, hq]; rfl
        clear hd Hsp
        go_wp2
        go_ret
        exact ⟨ret_bool Hn.out.symm, rfl⟩
    · have Hn : Hid (hasA l x = false) := by
        show _ = _
        rw [Hsp.out, List.drop_eq_nil_of_le (by have := Hl.out; omega)]
        rfl
      have g0 : decide ((k : Int) < (n : Int)) = false := decide_eq_false (by omega)
      clear Hsp
      go_wp2
      go_ret
      exact ⟨ret_bool Hn.out.symm, rfl⟩

end Go.Proofs.YtdpjmngodbgacaaGreatDoor.Sg
