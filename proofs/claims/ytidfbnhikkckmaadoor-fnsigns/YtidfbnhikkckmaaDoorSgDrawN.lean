/- A new cursor over the bytes of a draw; the numbers and texts of chapter 1 that are drawn from it. -/
import Derived.Test.YtidfbnhikkckmaaDoorSgDraw
import Derived.Test.YtidfbnhikkckmaaDoorSgPut
import Derived.Test.YtidfbnhikkckmaaDoorSgSigns
namespace Go.Proofs.YtidfbnhikkckmaaDoor.Sg
open Go.ChangeShapes Go.WideShapes Go.ChangeAt Go.RowKit

theorem i64_mask30 (n : Int) : bits .and .i64 n 1073741823 = n % 1073741824 := (i64_low n 30 (by decide) 1073741823 (by decide)).trans (by simp)

set_option maxHeartbeats 2000000 in
theorem l1New_any (a : Option Addr) (n cap : Nat) (w : World) (hcode : Code w.heap.size w a n) (hn : n ≤ 1048576) :
    Calls Tryd.prog 34 #[.slice a n cap] w fun e w' => e = .returned (.pointer (some ⟨w.heap.size, 0, none⟩)) ∧ Cur w.heap.size a n cap w' ∧ Below w.heap.size w w' := by
  have a30 := i64_mask30
  have Hcode : Hid (Code w.heap.size w a n) := hcode
  go_enter Tryd.func34, Tryd.ntmps34
  go_wp2
  go_loop [3, 4] (fun hv iv => ∃ (i : Nat) (h : Int), i ≤ n ∧ 0 ≤ h ∧ h ≤ 1073741824 ∧ iv = .int .i64 i ∧ hv = .int .i64 h) (fun _ iv => n - (intOf iv).toNat)
  case atStart => exact ⟨0, 22032 + (n : Int), Nat.zero_le _, by omega, by omega, rfl, rfl⟩
  case round =>
    obtain ⟨i, h, hi, hh0, hh1, rfl, rfl⟩ := hrel
    by_cases hlt : i < n
    · by_cases h4 : i < 4000
      · have h4' : (i : Int) < 4000 := by omega
        rcases hcode with h0 | ⟨b, off, rfl, hb, _, hcb⟩
        · omega
        obtain ⟨z, hz, hcz⟩ := hcb i hlt
        clear hcb
        go_wp2
        go_round
        case rel =>
          refine ⟨i + 1, (h * 131 + (z : Int) + 7) % 1073741824, by omega, by omega, by omega, by go_num, rfl⟩
        case measure => simp [intOf]; omega
      · have h4' : decide ((i : Int) < 4000) = false := by simp; omega
        clear hcode
        go_wp2
        go_ret
        refine ⟨rfl, ⟨by omega, Hcode.out.only (Nat.le_refl _) ((Only.refl _ _).alloc _), 0, h, Nat.zero_le _, ?_⟩, (Below.refl _ _).alloc (Nat.le_refl _) _⟩
        show (w.heap.push _)[w.heap.size]? = _
        simp
    · have hd : decide ((i : Int) < (n : Int)) = false := by simp; omega
      clear hcode
      go_wp2
      go_ret
      refine ⟨rfl, ⟨by omega, Hcode.out.only (Nat.le_refl _) ((Only.refl _ _).alloc _), 0, h, Nat.zero_le _, ?_⟩, (Below.refl _ _).alloc (Nat.le_refl _) _⟩
      show (w.heap.push _)[w.heap.size]? = _
      simp

theorem apart_new {p : Nat} {w : World} (h : p < w.heap.size) : Apart p (some ⟨w.heap.size, 0, none⟩) := by
  intro b off e
  cases e
  omega

theorem Only.of_alloc {p : Nat} {w w' : World} {o : Obj} (h : Only p (w.alloc o) w') : Only p w w' := ((Only.refl p w).alloc o).trans h

set_option maxHeartbeats 1000000 in
theorem l1DrawSign_any (p : Nat) (a : Option Addr) (n cap : Nat) (w : World) (hc : Cur p a n cap w) :
    Calls Tryd.prog 48 #[.pointer (some ⟨p, 0, none⟩)] w fun e w' => ∃ z : Int, okB z = true ∧ e = .returned (.int .i64 z) ∧ Cur p a n cap w' ∧ Only p w w' := by
  have Hc : Hid (Cur p a n cap w) := hc
  have hlt := hc.lt
  clear hc
  go_enter Tryd.func48, Tryd.ntmps48
  go_wp2_with fail
  refine (l1PickInt_any p a n cap [0, 9, 13, 65, 97, 127, 128, 160, 2047, 2048, 8364, 55295, 57344, 65533, 65534, 65535, 65536, 1114111] _ _ _ (Hc.out.alloc _) (Ints.lit _ [0, 9, 13, 65, 97, 127, 128, 160, 2047, 2048, 8364, 55295, 57344, 65533, 65534, 65535, 65536, 1114111] 3) (apart_new hlt) (by decide) (by decide)).mono ?_
  rintro e w1 ⟨z, hz, rfl, hc1, ho1⟩
  have hok : okB z = true := by
    have hall : ∀ x ∈ ([0, 9, 13, 65, 97, 127, 128, 160, 2047, 2048, 8364, 55295, 57344, 65533, 65534, 65535, 65536, 1114111] : List Int), okB x = true := by decide
    exact hall z hz
  have Hok : Hid (okB z = true) := hok
  clear hok hz
  go_wp2_with fail
  go_ret
  exact ⟨z, Hok.out, rfl, hc1, ho1.of_alloc⟩

set_option maxHeartbeats 1000000 in
theorem l1DrawAny_any (p : Nat) (a : Option Addr) (n cap : Nat) (w : World) (hc : Cur p a n cap w) :
    Calls Tryd.prog 36 #[.pointer (some ⟨p, 0, none⟩)] w fun e w' => ∃ z : Int, e = .returned (.int .i64 z) ∧ Cur p a n cap w' ∧ Only p w w' := by
  have Hc : Hid (Cur p a n cap w) := hc
  clear hc
  go_enter Tryd.func36, Tryd.ntmps36
  go_wp2_with fail
  refine (l1Once_any p a n cap 4 _ Hc.out (by decide) (by decide)).mono ?_
  rintro e w1 ⟨b, rfl, hc1, ho1⟩
  have hlt := hc1.lt
  cases b
  · go_wp2_with fail
    refine (l1DrawSign_any p a n cap _ hc1).mono ?_
    rintro e w2 ⟨z, _, rfl, hc2, ho2⟩
    go_wp2_with fail
    go_ret
    exact ⟨z, rfl, hc2, ho1.trans ho2⟩
  · go_wp2_with fail
    refine (l1PickInt_any p a n cap [-1, 55296, 57343, 1114112, 9223372036854775807, -9223372036854775808] _ _ _ (hc1.alloc _) (Ints.lit _ [-1, 55296, 57343, 1114112, 9223372036854775807, -9223372036854775808] 3) (apart_new hlt) (by decide) (by decide)).mono ?_
    rintro e w2 ⟨z, _, rfl, hc2, ho2⟩
    go_wp2_with fail
    go_ret
    exact ⟨z, rfl, hc2, ho1.trans ho2.of_alloc⟩

end Go.Proofs.YtidfbnhikkckmaaDoor.Sg
