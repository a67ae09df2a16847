/- The draws of chapter 2: each gives a number or a short text, and changes nothing that was there. -/
import Derived.Test.YtphbljhbkjdlkaaDoorGPick
namespace Go.Proofs.YtphbljhbkjdlkaaDoor.Sg
open Go.ChangeShapes Go.WideShapes Go.ChangeAt Go.RowKit

def kdNums : List Int := [0, 9, 10, 11, 12, 13, 31, 32, 45, 46, 48, 57, 58, 64, 65, 90, 95, 97, 122, 123, 183, 192, 215, 247, 768, 893, 894, 8192, 8204, 8255, 12272, 55296, 64976, 65533, 65534, 983039, 983040, 1114112, -1]

set_option maxHeartbeats 1000000 in
theorem l2DrawNum_any (p : Nat) (a : Option Addr) (n cap : Nat) (w : World) (hc : Cur p a n cap w) :
    Calls Tryd.prog 27 #[.pointer (some ⟨p, 0, none⟩)] w fun e w' => ∃ z : Int, e = .returned (.int .i64 z) ∧ Cur p a n cap w' ∧ Only p w w' := by
  have hlp := hc.lt
  have Hc : Hid (Cur p a n cap w) := hc
  clear hc
  go_enter Tryd.func27, Tryd.ntmps27
  go_wp2_with fail
  refine (l1PickInt_any p a n cap kdNums _ _ _ (Hc.out.alloc _) (Ints.lit _ kdNums 3) (apart_new hlp) (by decide) (by decide)).mono ?_
  rintro e w1 ⟨z, _, rfl, hc1, ho1⟩
  go_wp2_with fail
  go_ret
  exact ⟨z, rfl, hc1, ho1.of_alloc⟩

set_option maxHeartbeats 1000000 in
theorem drawIsBlank (a : Option Addr) (n cap : Nat) (w : World) (hcode : Code w.heap.size w a n) (hn : n ≤ 1048576) :
    Calls Tryd.prog 6 #[.slice a n cap] w fun e w' => ∃ z : Int, e = .returned (.int .i64 z) ∧ Below w.heap.size w w' := by
  have Hc : Hid (Code w.heap.size w a n) := hcode
  clear hcode
  go_enter Tryd.func6, Tryd.ntmps6
  go_wp2_with fail
  refine (l1New_any a n cap _ Hc.out hn).mono ?_
  rintro e w1 ⟨rfl, hc1, hb1⟩
  go_wp2_with fail
  refine (l2DrawNum_any _ a n cap _ hc1).mono ?_
  rintro e w2 ⟨z, rfl, hc2, ho2⟩
  go_wp2_with fail
  go_ret
  exact ⟨z, rfl, hb1.trans (ho2.below (Nat.le_refl _) hb1.size)⟩

set_option maxHeartbeats 1000000 in
theorem drawIsLetter (a : Option Addr) (n cap : Nat) (w : World) (hcode : Code w.heap.size w a n) (hn : n ≤ 1048576) :
    Calls Tryd.prog 7 #[.slice a n cap] w fun e w' => ∃ z : Int, e = .returned (.int .i64 z) ∧ Below w.heap.size w w' := by
  have Hc : Hid (Code w.heap.size w a n) := hcode
  clear hcode
  go_enter Tryd.func7, Tryd.ntmps7
  go_wp2_with fail
  refine (l1New_any a n cap _ Hc.out hn).mono ?_
  rintro e w1 ⟨rfl, hc1, hb1⟩
  go_wp2_with fail
  refine (l2DrawNum_any _ a n cap _ hc1).mono ?_
  rintro e w2 ⟨z, rfl, hc2, ho2⟩
  go_wp2_with fail
  go_ret
  exact ⟨z, rfl, hb1.trans (ho2.below (Nat.le_refl _) hb1.size)⟩

set_option maxHeartbeats 1000000 in
theorem drawIsText (a : Option Addr) (n cap : Nat) (w : World) (hcode : Code w.heap.size w a n) (hn : n ≤ 1048576) :
    Calls Tryd.prog 8 #[.slice a n cap] w fun e w' => ∃ z : Int, e = .returned (.int .i64 z) ∧ Below w.heap.size w w' := by
  have Hc : Hid (Code w.heap.size w a n) := hcode
  clear hcode
  go_enter Tryd.func8, Tryd.ntmps8
  go_wp2_with fail
  refine (l1New_any a n cap _ Hc.out hn).mono ?_
  rintro e w1 ⟨rfl, hc1, hb1⟩
  go_wp2_with fail
  refine (l2DrawNum_any _ a n cap _ hc1).mono ?_
  rintro e w2 ⟨z, rfl, hc2, ho2⟩
  go_wp2_with fail
  go_ret
  exact ⟨z, rfl, hb1.trans (ho2.below (Nat.le_refl _) hb1.size)⟩

set_option maxHeartbeats 1000000 in
theorem drawIsFirst (a : Option Addr) (n cap : Nat) (w : World) (hcode : Code w.heap.size w a n) (hn : n ≤ 1048576) :
    Calls Tryd.prog 9 #[.slice a n cap] w fun e w' => ∃ z : Int, e = .returned (.int .i64 z) ∧ Below w.heap.size w w' := by
  have Hc : Hid (Code w.heap.size w a n) := hcode
  clear hcode
  go_enter Tryd.func9, Tryd.ntmps9
  go_wp2_with fail
  refine (l1New_any a n cap _ Hc.out hn).mono ?_
  rintro e w1 ⟨rfl, hc1, hb1⟩
  go_wp2_with fail
  refine (l2DrawNum_any _ a n cap _ hc1).mono ?_
  rintro e w2 ⟨z, rfl, hc2, ho2⟩
  go_wp2_with fail
  go_ret
  exact ⟨z, rfl, hb1.trans (ho2.below (Nat.le_refl _) hb1.size)⟩

set_option maxHeartbeats 1000000 in
theorem drawIsNext (a : Option Addr) (n cap : Nat) (w : World) (hcode : Code w.heap.size w a n) (hn : n ≤ 1048576) :
    Calls Tryd.prog 10 #[.slice a n cap] w fun e w' => ∃ z : Int, e = .returned (.int .i64 z) ∧ Below w.heap.size w w' := by
  have Hc : Hid (Code w.heap.size w a n) := hcode
  clear hcode
  go_enter Tryd.func10, Tryd.ntmps10
  go_wp2_with fail
  refine (l1New_any a n cap _ Hc.out hn).mono ?_
  rintro e w1 ⟨rfl, hc1, hb1⟩
  go_wp2_with fail
  refine (l2DrawNum_any _ a n cap _ hc1).mono ?_
  rintro e w2 ⟨z, rfl, hc2, ho2⟩
  go_wp2_with fail
  go_ret
  exact ⟨z, rfl, hb1.trans (ho2.below (Nat.le_refl _) hb1.size)⟩

set_option maxHeartbeats 1000000 in
theorem drawSmall (a : Option Addr) (n cap : Nat) (w : World) (hcode : Code w.heap.size w a n) (hn : n ≤ 1048576) :
    Calls Tryd.prog 11 #[.slice a n cap] w fun e w' => ∃ s : ByteArray, s.size ≤ 4 ∧ e = .returned (.string s) ∧ Below w.heap.size w w' := by
  have Hc : Hid (Code w.heap.size w a n) := hcode
  clear hcode
  go_enter Tryd.func11, Tryd.ntmps11
  go_wp2_with fail
  refine (l1New_any a n cap _ Hc.out hn).mono ?_
  rintro e w1 ⟨rfl, hc1, hb1⟩
  have hlp := hc1.lt
  go_wp2_with fail
  refine (l1Pick_any _ a n cap [⟨#[]⟩, ⟨#[65, 98, 99]⟩, ⟨#[65, 66, 90]⟩, ⟨#[97, 45, 91, 64]⟩, ⟨#[195, 132]⟩, ⟨#[90, 13, 10]⟩] _ _ _ (hc1.alloc _) (Strs.lit _ [⟨#[]⟩, ⟨#[65, 98, 99]⟩, ⟨#[65, 66, 90]⟩, ⟨#[97, 45, 91, 64]⟩, ⟨#[195, 132]⟩, ⟨#[90, 13, 10]⟩] 9) (apart_new hlp) (by decide) (by decide)).mono ?_
  rintro e w2 ⟨t, ht, rfl, hc2, ho2⟩
  have hts : t.size ≤ 4 := by
    have hall : ∀ x ∈ ([⟨#[]⟩, ⟨#[65, 98, 99]⟩, ⟨#[65, 66, 90]⟩, ⟨#[97, 45, 91, 64]⟩, ⟨#[195, 132]⟩, ⟨#[90, 13, 10]⟩] : List ByteArray), x.size ≤ 4 := by decide
    exact hall t ht
  clear ht
  go_wp2_with fail
  go_ret
  exact ⟨t, hts, rfl, hb1.trans (ho2.of_alloc.below (Nat.le_refl _) hb1.size)⟩

set_option maxHeartbeats 2000000 in
theorem drawLines (a : Option Addr) (n cap : Nat) (w : World) (hcode : Code w.heap.size w a n) (hn : n ≤ 1048576) :
    Calls Tryd.prog 12 #[.slice a n cap] w fun e w' => ∃ s : ByteArray, s.size ≤ 14 ∧ e = .returned (.string s) ∧ Below w.heap.size w w' := by
  have Hc : Hid (Code w.heap.size w a n) := hcode
  clear hcode
  go_enter Tryd.func12, Tryd.ntmps12
  go_wp2_with fail
  refine (l1New_any a n cap _ Hc.out hn).mono ?_
  rintro e w0 ⟨rfl, hc0, hb0⟩
  have Hc0 : Hid (Cur w.heap.size a n cap w0) := hc0
  clear hc0 Hc
  generalize hp : w.heap.size = p at *
  have Hp : Hid (w.heap.size = p) := hp
  clear hp
  go_wp2_with fail
  go_loopw [4, 5] (fun sv iv wr => ∃ (k : Nat) (s : ByteArray), k ≤ 7 ∧ s.size ≤ 2 * k ∧ iv = .int .i64 k ∧ sv = .string s ∧ Hid (Cur p a n cap wr) ∧ Only p w0 wr) (fun _ iv _ => 7 - (intOf iv).toNat)
  case atStart => exact ⟨0, ⟨#[]⟩, by decide, by decide, rfl, rfl, Hc0, Only.refl _ _⟩
  case round =>
    obtain ⟨k, s, hk, hs, rfl, rfl, Hc1, ho⟩ := hrel
    go_wp2_with fail
    refine (l1Below_any p a n cap 7 _ Hc1.out (by decide) (by decide)).mono ?_
    rintro e w1 ⟨x, hx, rfl, hc1, ho1⟩
    by_cases hlt : k < x
    · have hlt' : (k : Int) < (x : Int) := by omega
      have hlp := hc1.lt
      go_wp2_with fail
      refine (l1Pick_any p a n cap [⟨#[97]⟩, ⟨#[13]⟩, ⟨#[10]⟩, ⟨#[13, 10]⟩, ⟨#[13, 13]⟩] _ _ _ (hc1.alloc _) (Strs.lit _ [⟨#[97]⟩, ⟨#[13]⟩, ⟨#[10]⟩, ⟨#[13, 10]⟩, ⟨#[13, 13]⟩] 9) (apart_new hlp) (by decide) (by decide)).mono ?_
      rintro e w3 ⟨t, ht, rfl, hc3, ho3⟩
      have hO : Only p w0 w3 := (ho.trans ho1).trans ho3.of_alloc
      have hts : t.size ≤ 2 := by
        have hall : ∀ x ∈ ([⟨#[97]⟩, ⟨#[13]⟩, ⟨#[10]⟩, ⟨#[13, 10]⟩, ⟨#[13, 13]⟩] : List ByteArray), x.size ≤ 2 := by decide
        exact hall t ht
      have hsz := size_append s t
      have Hsz : Hid ((s ++ t).size = s.size + t.size) := hsz
      clear hsz ht
      go_wp2_with fail
      go_roundw
      case rel => exact ⟨k + 1, s ++ t, by omega, by rw [Hsz.out]; omega, by go_num, rfl, hc3, hO⟩
      case measure => simp [intOf]; omega
    · have hd : decide ((k : Int) < (x : Int)) = false := by simp; omega
      go_wp2_with fail
      go_ret
      refine ⟨s, by omega, rfl, ?_⟩
      have hsz := hb0.size
      have hpp := Hp.out
      rw [hpp]
      exact hb0.trans ((ho.trans ho1).below (Nat.le_refl _) (by omega))

end Go.Proofs.YtphbljhbkjdlkaaDoor.Sg
