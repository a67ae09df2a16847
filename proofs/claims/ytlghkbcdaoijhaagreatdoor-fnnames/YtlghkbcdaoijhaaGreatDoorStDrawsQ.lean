/- The draws of chapters 13 and 14: texts of at most 24 bytes. Written by mk_stdraws.py. -/
import Derived.Test.YtlghkbcdaoijhaaGreatDoorSgDrawTQ
import Derived.Test.YtlghkbcdaoijhaaGreatDoorM03
namespace Go.Proofs.YtlghkbcdaoijhaaGreatDoor.Sg
open Go.ChangeShapes Go.WideShapes Go.ChangeAt Go.RowKit

set_option maxHeartbeats 2000000 in
theorem l13Draw_any (p : Nat) (a : Option Addr) (n cap : Nat) (w : World) (hc : Cur p a n cap w) :
    Calls Tryz.prog 11 #[.pointer (some ⟨p, 0, none⟩)] w fun e w' => ∃ s : ByteArray, s.size ≤ 24 ∧ e = .returned (.string s) ∧ Cur p a n cap w' ∧ Only p w w' := by
  have Hc : Hid (Cur p a n cap w) := hc
  clear hc
  go_enter Tryz.func11, Tryz.ntmps11
  go_wp2_with fail
  refine (l1Once_any p a n cap 3 _ Hc.out (by decide) (by decide)).mono ?_
  rintro e w1 ⟨b, rfl, hc1, ho1⟩
  clear Hc
  have Hc1 : Hid (Cur p a n cap w1) := hc1
  have hlp := hc1.lt
  clear hc1
  cases b
  · go_wp2_with fail
    refine (l1Pick_any p a n cap [⟨#[]⟩, ⟨#[97]⟩, ⟨#[120, 58, 121]⟩, ⟨#[49, 97]⟩, ⟨#[45]⟩, ⟨#[97, 45, 98, 46, 99]⟩, ⟨#[95]⟩, ⟨#[85, 48, 48, 48, 48, 48, 49]⟩, ⟨#[97, 32, 98]⟩, ⟨#[195, 169]⟩, ⟨#[120, 109, 108]⟩] _ _ _ (Hc1.out.alloc _) (Strs.lit _ [⟨#[]⟩, ⟨#[97]⟩, ⟨#[120, 58, 121]⟩, ⟨#[49, 97]⟩, ⟨#[45]⟩, ⟨#[97, 45, 98, 46, 99]⟩, ⟨#[95]⟩, ⟨#[85, 48, 48, 48, 48, 48, 49]⟩, ⟨#[97, 32, 98]⟩, ⟨#[195, 169]⟩, ⟨#[120, 109, 108]⟩] 9) (apart_new hlp) (by decide) (by decide)).mono ?_
    rintro e w2 ⟨t, ht, rfl, hc2, ho2⟩
    have hts : t.size ≤ 24 := by
      have hall : ∀ x ∈ ([⟨#[]⟩, ⟨#[97]⟩, ⟨#[120, 58, 121]⟩, ⟨#[49, 97]⟩, ⟨#[45]⟩, ⟨#[97, 45, 98, 46, 99]⟩, ⟨#[95]⟩, ⟨#[85, 48, 48, 48, 48, 48, 49]⟩, ⟨#[97, 32, 98]⟩, ⟨#[195, 169]⟩, ⟨#[120, 109, 108]⟩] : List ByteArray), x.size ≤ 24 := by decide
      exact hall t ht
    clear ht
    go_wp2_with fail
    go_ret
    exact ⟨t, hts, rfl, hc2, ho1.trans ho2.of_alloc⟩
  · go_wp2_with fail
    refine (l1DrawText_any p a n cap _ Hc1.out).mono ?_
    rintro e w2 ⟨t, hts, rfl, hc2, ho2⟩
    go_wp2_with fail
    go_ret
    exact ⟨t, hts, rfl, hc2, ho1.trans ho2⟩


set_option maxHeartbeats 2000000 in
theorem drawNameOk (a : Option Addr) (n cap : Nat) (w : World) (hcode : Code w.heap.size w a n) (hn : n ≤ 1048576) :
    Calls Tryz.prog 7 #[.slice a n cap] w fun e w' => ∃ s : ByteArray, s.size ≤ 24 ∧ e = .returned (.string s) ∧ Below w.heap.size w w' := by
  have Hc : Hid (Code w.heap.size w a n) := hcode
  clear hcode
  go_enter Tryz.func7, Tryz.ntmps7
  go_wp2_with fail
  refine (l1New_any a n cap _ Hc.out hn).mono ?_
  rintro e w1 ⟨rfl, hc1, hb1⟩
  go_wp2_with fail
  refine (l13Draw_any _ a n cap _ hc1).mono ?_
  rintro e w2 ⟨s, hs, rfl, hc2, ho2⟩
  go_wp2_with fail
  go_ret
  exact ⟨s, hs, rfl, hb1.trans (ho2.below (Nat.le_refl _) hb1.size)⟩

set_option maxHeartbeats 2000000 in
theorem drawNameOf (a : Option Addr) (n cap : Nat) (w : World) (hcode : Code w.heap.size w a n) (hn : n ≤ 1048576) :
    Calls Tryz.prog 5 #[.slice a n cap] w fun e w' => ∃ s : ByteArray, s.size ≤ 24 ∧ e = .returned (.string s) ∧ Below w.heap.size w w' := by
  have Hc : Hid (Code w.heap.size w a n) := hcode
  clear hcode
  go_enter Tryz.func5, Tryz.ntmps5
  go_wp2_with fail
  refine (l1New_any a n cap _ Hc.out hn).mono ?_
  rintro e w1 ⟨rfl, hc1, hb1⟩
  go_wp2_with fail
  refine (l13Draw_any _ a n cap _ hc1).mono ?_
  rintro e w2 ⟨s, hs, rfl, hc2, ho2⟩
  go_wp2_with fail
  go_ret
  exact ⟨s, hs, rfl, hb1.trans (ho2.below (Nat.le_refl _) hb1.size)⟩





end Go.Proofs.YtlghkbcdaoijhaaGreatDoor.Sg
