/- The draws of chapter 7: each gives a short name, and changes nothing that was there. -/
import Derived.Test.YtjbjmjnjdadjcaaGPick
namespace Go.Proofs.Ytjbjmjnjdadjcaa.Sg
open Go.ChangeShapes Go.WideShapes Go.ChangeAt Go.RowKit

def ktNames : List ByteArray := [⟨#[112]⟩, ⟨#[100, 105, 118]⟩, ⟨#[98]⟩, ⟨#[97]⟩, ⟨#[116, 97, 98, 108, 101]⟩, ⟨#[116, 114]⟩, ⟨#[116, 100]⟩, ⟨#[116, 98, 111, 100, 121]⟩, ⟨#[98, 114]⟩, ⟨#[104, 114]⟩, ⟨#[116, 105, 116, 108, 101]⟩, ⟨#[115, 99, 114, 105, 112, 116]⟩, ⟨#[104, 50]⟩, ⟨#[108, 105]⟩, ⟨#[104, 116, 109, 108]⟩, ⟨#[120]⟩, ⟨#[]⟩, ⟨#[80]⟩, ⟨#[115, 118, 103]⟩]

set_option maxHeartbeats 1000000 in
theorem l7DrawName_any (p : Nat) (a : Option Addr) (n cap : Nat) (w : World) (hc : Cur p a n cap w) :
    Calls Try.prog 33 #[.pointer (some ⟨p, 0, none⟩)] w fun e w' => ∃ z : ByteArray, z ∈ ktNames ∧ e = .returned (.string z) ∧ Cur p a n cap w' ∧ Only p w w' := by
  have hlp := hc.lt
  have Hc : Hid (Cur p a n cap w) := hc
  clear hc
  go_enter Try.func33, Try.ntmps33
  go_wp2_with fail
  refine (l1Pick_any p a n cap ktNames _ _ _ (Hc.out.alloc _) (Strs.lit _ ktNames 9) (apart_new hlp) (by decide) (by decide)).mono ?_
  rintro e w1 ⟨z, hz, rfl, hc1, ho1⟩
  go_wp2_with fail
  go_ret
  exact ⟨z, hz, rfl, hc1, ho1.of_alloc⟩

set_option maxHeartbeats 1000000 in
theorem drawVoid (a : Option Addr) (n cap : Nat) (w : World) (hcode : Code w.heap.size w a n) (hn : n ≤ 1048576) :
    Calls Try.prog 12 #[.slice a n cap] w fun e w' => ∃ z : ByteArray, e = .returned (.string z) ∧ Below w.heap.size w w' := by
  have Hc : Hid (Code w.heap.size w a n) := hcode
  clear hcode
  go_enter Try.func12, Try.ntmps12
  go_wp2_with fail
  refine (l1New_any a n cap _ Hc.out hn).mono ?_
  rintro e w1 ⟨rfl, hc1, hb1⟩
  go_wp2_with fail
  refine (l7DrawName_any _ a n cap _ hc1).mono ?_
  rintro e w2 ⟨z, _, rfl, hc2, ho2⟩
  go_wp2_with fail
  go_ret
  exact ⟨z, rfl, hb1.trans (ho2.below (Nat.le_refl _) hb1.size)⟩
set_option maxHeartbeats 1000000 in
theorem drawOfHead (a : Option Addr) (n cap : Nat) (w : World) (hcode : Code w.heap.size w a n) (hn : n ≤ 1048576) :
    Calls Try.prog 13 #[.slice a n cap] w fun e w' => ∃ z : ByteArray, e = .returned (.string z) ∧ Below w.heap.size w w' := by
  have Hc : Hid (Code w.heap.size w a n) := hcode
  clear hcode
  go_enter Try.func13, Try.ntmps13
  go_wp2_with fail
  refine (l1New_any a n cap _ Hc.out hn).mono ?_
  rintro e w1 ⟨rfl, hc1, hb1⟩
  go_wp2_with fail
  refine (l7DrawName_any _ a n cap _ hc1).mono ?_
  rintro e w2 ⟨z, _, rfl, hc2, ho2⟩
  go_wp2_with fail
  go_ret
  exact ⟨z, rfl, hb1.trans (ho2.below (Nat.le_refl _) hb1.size)⟩
set_option maxHeartbeats 1000000 in
theorem drawFormat (a : Option Addr) (n cap : Nat) (w : World) (hcode : Code w.heap.size w a n) (hn : n ≤ 1048576) :
    Calls Try.prog 14 #[.slice a n cap] w fun e w' => ∃ z : ByteArray, e = .returned (.string z) ∧ Below w.heap.size w w' := by
  have Hc : Hid (Code w.heap.size w a n) := hcode
  clear hcode
  go_enter Try.func14, Try.ntmps14
  go_wp2_with fail
  refine (l1New_any a n cap _ Hc.out hn).mono ?_
  rintro e w1 ⟨rfl, hc1, hb1⟩
  go_wp2_with fail
  refine (l7DrawName_any _ a n cap _ hc1).mono ?_
  rintro e w2 ⟨z, _, rfl, hc2, ho2⟩
  go_wp2_with fail
  go_ret
  exact ⟨z, rfl, hb1.trans (ho2.below (Nat.le_refl _) hb1.size)⟩
set_option maxHeartbeats 1000000 in
theorem drawBlock (a : Option Addr) (n cap : Nat) (w : World) (hcode : Code w.heap.size w a n) (hn : n ≤ 1048576) :
    Calls Try.prog 15 #[.slice a n cap] w fun e w' => ∃ z : ByteArray, e = .returned (.string z) ∧ Below w.heap.size w w' := by
  have Hc : Hid (Code w.heap.size w a n) := hcode
  clear hcode
  go_enter Try.func15, Try.ntmps15
  go_wp2_with fail
  refine (l1New_any a n cap _ Hc.out hn).mono ?_
  rintro e w1 ⟨rfl, hc1, hb1⟩
  go_wp2_with fail
  refine (l7DrawName_any _ a n cap _ hc1).mono ?_
  rintro e w2 ⟨z, _, rfl, hc2, ho2⟩
  go_wp2_with fail
  go_ret
  exact ⟨z, rfl, hb1.trans (ho2.below (Nat.le_refl _) hb1.size)⟩
set_option maxHeartbeats 1000000 in
theorem drawPart (a : Option Addr) (n cap : Nat) (w : World) (hcode : Code w.heap.size w a n) (hn : n ≤ 1048576) :
    Calls Try.prog 16 #[.slice a n cap] w fun e w' => ∃ z : ByteArray, e = .returned (.string z) ∧ Below w.heap.size w w' := by
  have Hc : Hid (Code w.heap.size w a n) := hcode
  clear hcode
  go_enter Try.func16, Try.ntmps16
  go_wp2_with fail
  refine (l1New_any a n cap _ Hc.out hn).mono ?_
  rintro e w1 ⟨rfl, hc1, hb1⟩
  go_wp2_with fail
  refine (l7DrawName_any _ a n cap _ hc1).mono ?_
  rintro e w2 ⟨z, _, rfl, hc2, ho2⟩
  go_wp2_with fail
  go_ret
  exact ⟨z, rfl, hb1.trans (ho2.below (Nat.le_refl _) hb1.size)⟩
set_option maxHeartbeats 1000000 in
theorem drawWall (a : Option Addr) (n cap : Nat) (w : World) (hcode : Code w.heap.size w a n) (hn : n ≤ 1048576) :
    Calls Try.prog 17 #[.slice a n cap] w fun e w' => ∃ z : ByteArray, e = .returned (.string z) ∧ Below w.heap.size w w' := by
  have Hc : Hid (Code w.heap.size w a n) := hcode
  clear hcode
  go_enter Try.func17, Try.ntmps17
  go_wp2_with fail
  refine (l1New_any a n cap _ Hc.out hn).mono ?_
  rintro e w1 ⟨rfl, hc1, hb1⟩
  go_wp2_with fail
  refine (l7DrawName_any _ a n cap _ hc1).mono ?_
  rintro e w2 ⟨z, _, rfl, hc2, ho2⟩
  go_wp2_with fail
  go_ret
  exact ⟨z, rfl, hb1.trans (ho2.below (Nat.le_refl _) hb1.size)⟩
set_option maxHeartbeats 1000000 in
theorem drawHead (a : Option Addr) (n cap : Nat) (w : World) (hcode : Code w.heap.size w a n) (hn : n ≤ 1048576) :
    Calls Try.prog 18 #[.slice a n cap] w fun e w' => ∃ z : ByteArray, e = .returned (.string z) ∧ Below w.heap.size w w' := by
  have Hc : Hid (Code w.heap.size w a n) := hcode
  clear hcode
  go_enter Try.func18, Try.ntmps18
  go_wp2_with fail
  refine (l1New_any a n cap _ Hc.out hn).mono ?_
  rintro e w1 ⟨rfl, hc1, hb1⟩
  go_wp2_with fail
  refine (l7DrawName_any _ a n cap _ hc1).mono ?_
  rintro e w2 ⟨z, _, rfl, hc2, ho2⟩
  go_wp2_with fail
  go_ret
  exact ⟨z, rfl, hb1.trans (ho2.below (Nat.le_refl _) hb1.size)⟩

end Go.Proofs.Ytjbjmjnjdadjcaa.Sg
