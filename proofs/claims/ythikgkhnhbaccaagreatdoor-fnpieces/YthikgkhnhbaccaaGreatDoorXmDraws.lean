/- The draws of chapters 17 and 18. Written by mk_xmdraws.py. -/
import Derived.Test.YthikgkhnhbaccaaGreatDoorStDraws
import Derived.Test.YthikgkhnhbaccaaGreatDoorMP13
namespace Go.Proofs.YthikgkhnhbaccaaGreatDoor.Sg
open Go.ChangeShapes Go.WideShapes Go.ChangeAt Go.RowKit

set_option maxHeartbeats 2000000 in
theorem l18Draw_any (p : Nat) (a : Option Addr) (n cap : Nat) (w : World) (hc : Cur p a n cap w) :
    Calls Tryz.prog 63 #[.pointer (some ⟨p, 0, none⟩)] w fun e w' => ∃ s : ByteArray, s.size ≤ 64 ∧ e = .returned (.string s) ∧ Cur p a n cap w' ∧ Only p w w' := by
  have Hc : Hid (Cur p a n cap w) := hc
  clear hc
  go_enter Tryz.func63, Tryz.ntmps63
  go_wp2_with fail
  go_loopw [3, 4] (fun sv iv wr => ∃ (k : Nat) (s : ByteArray), k ≤ 5 ∧ s.size ≤ 11 * k ∧ iv = .int .i64 k ∧ sv = .string s ∧ Hid (Cur p a n cap wr) ∧ Only p w wr) (fun _ iv _ => 5 - (intOf iv).toNat)
  case atStart => exact ⟨0, ⟨#[]⟩, by decide, by decide, rfl, rfl, Hc, Only.refl _ _⟩
  case round =>
    obtain ⟨k, s, hk, hs, rfl, rfl, Hc1, ho⟩ := hrel
    go_wp2_with fail
    refine (l1Below_any p a n cap 5 _ Hc1.out (by decide) (by decide)).mono ?_
    rintro e w1 ⟨x, hx, rfl, hc1, ho1⟩
    by_cases hlt : k < x
    · have hlt' : (k : Int) < (x : Int) := by omega
      have hlp := hc1.lt
      go_wp2_with fail
      refine (l1Pick_any p a n cap [⟨#[97]⟩, ⟨#[120, 46, 121]⟩, ⟨#[61, 34]⟩, ⟨#[118, 34]⟩, ⟨#[38, 97, 109, 112, 59]⟩, ⟨#[38, 35, 49, 51, 59]⟩, ⟨#[38, 35, 48, 59]⟩, ⟨#[38, 35, 48, 49, 48, 59]⟩, ⟨#[38]⟩, ⟨#[60]⟩, ⟨#[93, 93, 62]⟩, ⟨#[10]⟩, ⟨#[60, 33, 45, 45]⟩, ⟨#[110]⟩, ⟨#[45, 45, 62]⟩, ⟨#[45, 45]⟩, ⟨#[195, 169]⟩, ⟨#[255]⟩, ⟨#[38, 97, 112, 111, 115, 59]⟩, ⟨#[38, 35, 57, 57, 57, 57, 57, 57, 57, 57, 59]⟩, ⟨#[13]⟩] _ _ _ (hc1.alloc _) (Strs.lit _ [⟨#[97]⟩, ⟨#[120, 46, 121]⟩, ⟨#[61, 34]⟩, ⟨#[118, 34]⟩, ⟨#[38, 97, 109, 112, 59]⟩, ⟨#[38, 35, 49, 51, 59]⟩, ⟨#[38, 35, 48, 59]⟩, ⟨#[38, 35, 48, 49, 48, 59]⟩, ⟨#[38]⟩, ⟨#[60]⟩, ⟨#[93, 93, 62]⟩, ⟨#[10]⟩, ⟨#[60, 33, 45, 45]⟩, ⟨#[110]⟩, ⟨#[45, 45, 62]⟩, ⟨#[45, 45]⟩, ⟨#[195, 169]⟩, ⟨#[255]⟩, ⟨#[38, 97, 112, 111, 115, 59]⟩, ⟨#[38, 35, 57, 57, 57, 57, 57, 57, 57, 57, 59]⟩, ⟨#[13]⟩] 9) (apart_new hlp) (by decide) (by decide)).mono ?_
      rintro e w3 ⟨t, ht, rfl, hc3, ho3⟩
      have hO : Only p w w3 := (ho.trans ho1).trans ho3.of_alloc
      have hts : t.size ≤ 11 := by
        have hall : ∀ x ∈ ([⟨#[97]⟩, ⟨#[120, 46, 121]⟩, ⟨#[61, 34]⟩, ⟨#[118, 34]⟩, ⟨#[38, 97, 109, 112, 59]⟩, ⟨#[38, 35, 49, 51, 59]⟩, ⟨#[38, 35, 48, 59]⟩, ⟨#[38, 35, 48, 49, 48, 59]⟩, ⟨#[38]⟩, ⟨#[60]⟩, ⟨#[93, 93, 62]⟩, ⟨#[10]⟩, ⟨#[60, 33, 45, 45]⟩, ⟨#[110]⟩, ⟨#[45, 45, 62]⟩, ⟨#[45, 45]⟩, ⟨#[195, 169]⟩, ⟨#[255]⟩, ⟨#[38, 97, 112, 111, 115, 59]⟩, ⟨#[38, 35, 57, 57, 57, 57, 57, 57, 57, 57, 59]⟩, ⟨#[13]⟩] : List ByteArray), x.size ≤ 11 := by decide
        exact hall t ht
      have hsz := size_append s t
      have Hsz : Hid ((s ++ t).size = s.size + t.size) := hsz
      clear hsz ht
      go_wp2_with fail
      go_roundw
      case rel => exact ⟨k + 1, s ++ t, by omega, by rw [Hsz.out]; omega, by go_num, rfl, hc3, hO⟩
      case measure => simp [intOf]; omega
    · have hd : decide ((k : Int) < (x : Int)) = false := by simp; omega
      go_wp2_with fail
      go_ret
      exact ⟨s, by omega, rfl, hc1, ho.trans ho1⟩

set_option maxHeartbeats 2000000 in
theorem l18DrawAt_any (a : Option Addr) (n cap : Nat) (w : World) (hcode : Code w.heap.size w a n) (hn : n ≤ 1048576) :
    Calls Tryz.prog 37 #[.slice a n cap] w fun e w' => ∃ (s : ByteArray) (i : Int), s.size ≤ 100 ∧ e = .returned (.tuple #[.string s, .int .i64 i]) ∧ Below w.heap.size w w' := by
  have Hc : Hid (Code w.heap.size w a n) := hcode
  clear hcode
  go_enter Tryz.func37, Tryz.ntmps37
  go_wp2_with fail
  refine (l1New_any a n cap _ Hc.out hn).mono ?_
  rintro e w1 ⟨rfl, hc1, hb1⟩
  have hlp := hc1.lt
  go_wp2_with fail
  refine (l1Pick_any _ a n cap [⟨#[]⟩, ⟨#[]⟩, ⟨#[107, 61, 34, 118, 38, 108, 116, 59, 34]⟩, ⟨#[60, 33, 45, 45, 110, 45, 45, 62]⟩, ⟨#[38, 113, 117, 111, 116, 59]⟩] _ _ _ (hc1.alloc _) (Strs.lit _ [⟨#[]⟩, ⟨#[]⟩, ⟨#[107, 61, 34, 118, 38, 108, 116, 59, 34]⟩, ⟨#[60, 33, 45, 45, 110, 45, 45, 62]⟩, ⟨#[38, 113, 117, 111, 116, 59]⟩] 9) (apart_new hlp) (by decide) (by decide)).mono ?_
  rintro e w2 ⟨t, ht, rfl, hc2, ho2⟩
  have hts : t.size ≤ 11 := by
    have hall : ∀ x ∈ ([⟨#[]⟩, ⟨#[]⟩, ⟨#[107, 61, 34, 118, 38, 108, 116, 59, 34]⟩, ⟨#[60, 33, 45, 45, 110, 45, 45, 62]⟩, ⟨#[38, 113, 117, 111, 116, 59]⟩] : List ByteArray), x.size ≤ 11 := by decide
    exact hall t ht
  have hO2 := ho2.of_alloc
  clear ht ho2 hlp
  go_wp2_with fail
  refine (l18Draw_any _ a n cap _ hc2).mono ?_
  rintro e w3 ⟨s, hs, rfl, hc3, ho3⟩
  have Hsz : Hid ((t ++ s).size = t.size + s.size) := size_append t s
  have hlp3 := hc3.lt
  have hO3 := hO2.trans ho3
  generalize hts2 : t ++ s = u at *
  have hu : u.size ≤ 100 := by rw [Hsz.out]; omega
  clear Hsz hO2 ho3
  go_wp2_with fail
  refine (l1PickInt_any _ a n cap [0, 0, 0, 1, (u.size : Int), -1, 9223372036854775807] _ _ _ (hc3.alloc _) (Ints.lit _ [0, 0, 0, 1, (u.size : Int), -1, 9223372036854775807] 3) (apart_new hlp3) (by simp) (by simp)).mono ?_
  rintro e w4 ⟨z, _, rfl, hc4, ho4⟩
  go_wp2_with fail
  go_ret2
  exact ⟨u, z, hu, rfl, hb1.trans ((hO3.trans ho4.of_alloc).below (Nat.le_refl _) hb1.size)⟩

set_option maxHeartbeats 2000000 in
theorem drawXmlName (a : Option Addr) (n cap : Nat) (w : World) (hcode : Code w.heap.size w a n) (hn : n ≤ 1048576) :
    Calls Tryz.prog 11 #[.slice a n cap] w fun e w' => ∃ (s : ByteArray) (i : Int), s.size ≤ 100 ∧ e = .returned (.tuple #[.string s, .int .i64 i]) ∧ Below w.heap.size w w' := by
  go_enter Tryz.func11, Tryz.ntmps11
  go_wp2_with fail
  refine (l18DrawAt_any a n cap _ hcode hn).mono ?_
  rintro e w1 ⟨s, i, hs, rfl, hb1⟩
  go_wp2_with fail
  go_ret2
  exact ⟨s, i, hs, rfl, hb1⟩

set_option maxHeartbeats 2000000 in
theorem drawXmlRef (a : Option Addr) (n cap : Nat) (w : World) (hcode : Code w.heap.size w a n) (hn : n ≤ 1048576) :
    Calls Tryz.prog 14 #[.slice a n cap] w fun e w' => ∃ (s : ByteArray) (i : Int), s.size ≤ 100 ∧ e = .returned (.tuple #[.string s, .int .i64 i]) ∧ Below w.heap.size w w' := by
  go_enter Tryz.func14, Tryz.ntmps14
  go_wp2_with fail
  refine (l18DrawAt_any a n cap _ hcode hn).mono ?_
  rintro e w1 ⟨s, i, hs, rfl, hb1⟩
  go_wp2_with fail
  go_ret2
  exact ⟨s, i, hs, rfl, hb1⟩

set_option maxHeartbeats 2000000 in
theorem drawXmlAttr (a : Option Addr) (n cap : Nat) (w : World) (hcode : Code w.heap.size w a n) (hn : n ≤ 1048576) :
    Calls Tryz.prog 20 #[.slice a n cap] w fun e w' => ∃ (s : ByteArray) (i : Int), s.size ≤ 100 ∧ e = .returned (.tuple #[.string s, .int .i64 i]) ∧ Below w.heap.size w w' := by
  go_enter Tryz.func20, Tryz.ntmps20
  go_wp2_with fail
  refine (l18DrawAt_any a n cap _ hcode hn).mono ?_
  rintro e w1 ⟨s, i, hs, rfl, hb1⟩
  go_wp2_with fail
  go_ret2
  exact ⟨s, i, hs, rfl, hb1⟩

set_option maxHeartbeats 2000000 in
theorem drawXmlNote (a : Option Addr) (n cap : Nat) (w : World) (hcode : Code w.heap.size w a n) (hn : n ≤ 1048576) :
    Calls Tryz.prog 23 #[.slice a n cap] w fun e w' => ∃ (s : ByteArray) (i : Int), s.size ≤ 100 ∧ e = .returned (.tuple #[.string s, .int .i64 i]) ∧ Below w.heap.size w w' := by
  go_enter Tryz.func23, Tryz.ntmps23
  go_wp2_with fail
  refine (l18DrawAt_any a n cap _ hcode hn).mono ?_
  rintro e w1 ⟨s, i, hs, rfl, hb1⟩
  go_wp2_with fail
  go_ret2
  exact ⟨s, i, hs, rfl, hb1⟩

set_option maxHeartbeats 2000000 in
theorem drawXmlText (a : Option Addr) (n cap : Nat) (w : World) (hcode : Code w.heap.size w a n) (hn : n ≤ 1048576) :
    Calls Tryz.prog 17 #[.slice a n cap] w fun e w' => ∃ (s : ByteArray) (i : Int) (t : ByteArray), s.size ≤ 100 ∧ (t.size ≤ 2 ∧ ∀ b ∈ t.data.toList, b = 34 ∨ b = 60) ∧ e = .returned (.tuple #[.string s, .int .i64 i, .string t]) ∧ Below w.heap.size w w' := by
  have Hc : Hid (Code w.heap.size w a n) := hcode
  clear hcode
  go_enter Tryz.func17, Tryz.ntmps17
  go_wp2_with fail
  refine (l18DrawAt_any a n cap _ Hc.out hn).mono ?_
  rintro e w1 ⟨s, i, hs, rfl, hb1⟩
  have Hc1 : Hid (Code w1.heap.size w1 a n) := (Hc.out.below hb1).raise hb1.size
  go_wp2_with fail
  refine (l1New_any a n cap _ Hc1.out hn).mono ?_
  rintro e w2 ⟨rfl, hc2, hb2⟩
  have hlp := hc2.lt
  go_wp2_with fail
  refine (l1Pick_any _ a n cap [⟨#[60]⟩, ⟨#[34]⟩, ⟨#[]⟩, ⟨#[60, 34]⟩] _ _ _ (hc2.alloc _) (Strs.lit _ [⟨#[60]⟩, ⟨#[34]⟩, ⟨#[]⟩, ⟨#[60, 34]⟩] 9) (apart_new hlp) (by decide) (by decide)).mono ?_
  rintro e w3 ⟨t, ht, rfl, hc3, ho3⟩
  have hts : t.size ≤ 2 ∧ ∀ b ∈ t.data.toList, b = 34 ∨ b = 60 := by
    have hall : ∀ x ∈ ([⟨#[60]⟩, ⟨#[34]⟩, ⟨#[]⟩, ⟨#[60, 34]⟩] : List ByteArray), x.size ≤ 2 ∧ ∀ b ∈ x.data.toList, b = 34 ∨ b = 60 := by decide
    exact hall t ht
  have hb3 : Below w1.heap.size w1 w3 := hb2.trans (ho3.of_alloc.below (Nat.le_refl _) hb2.size)
  go_wp2_with fail
  go_ret3
  exact ⟨s, i, t, hs, hts, rfl, below_from hb1 hb3⟩

set_option maxHeartbeats 2000000 in
theorem drawEscape (a : Option Addr) (n cap : Nat) (w : World) (hcode : Code w.heap.size w a n) (hn : n ≤ 1048576) :
    Calls Tryz.prog 5 #[.slice a n cap] w fun e w' => ∃ (s : ByteArray) (v : Bool), s.size ≤ 30 ∧ e = .returned (.tuple #[.string s, .bool v]) ∧ Below w.heap.size w w' := by
  have Hc : Hid (Code w.heap.size w a n) := hcode
  clear hcode
  go_enter Tryz.func5, Tryz.ntmps5
  go_wp2_with fail
  refine (l1New_any a n cap _ Hc.out hn).mono ?_
  rintro e w1 ⟨rfl, hc1, hb1⟩
  go_wp2_with fail
  refine (l14Draw_any _ a n cap _ hc1).mono ?_
  rintro e w2 ⟨s, hs, rfl, hc2, ho2⟩
  have hlp := hc2.lt
  go_wp2_with fail
  refine (l1Pick_any _ a n cap [⟨#[]⟩, ⟨#[34]⟩, ⟨#[9]⟩] _ _ _ (hc2.alloc _) (Strs.lit _ [⟨#[]⟩, ⟨#[34]⟩, ⟨#[9]⟩] 9) (apart_new hlp) (by decide) (by decide)).mono ?_
  rintro e w3 ⟨t, ht, rfl, hc3, ho3⟩
  have hts : t.size ≤ 2 := by
    have hall : ∀ x ∈ ([⟨#[]⟩, ⟨#[34]⟩, ⟨#[9]⟩] : List ByteArray), x.size ≤ 2 := by decide
    exact hall t ht
  have hO := ho2.trans ho3.of_alloc
  have Hsz : Hid ((s ++ t).size ≤ 30) := by show _ ≤ _; rw [size_append]; omega
  clear ht ho2 ho3
  go_wp2_with fail
  refine (l1Once_any _ a n cap 2 _ hc3 (by decide) (by decide)).mono ?_
  rintro e w4 ⟨v, rfl, hc4, ho4⟩
  go_wp2_with fail
  go_ret2
  exact ⟨s ++ t, v, Hsz.out, rfl, hb1.trans ((hO.trans ho4).below (Nat.le_refl _) hb1.size)⟩

set_option maxHeartbeats 2000000 in
theorem drawSpaceName (a : Option Addr) (n cap : Nat) (w : World) (hcode : Code w.heap.size w a n) (hn : n ≤ 1048576) :
    Calls Tryz.prog 7 #[.slice a n cap] w fun e w' => ∃ i : Int, e = .returned (.int .i64 i) ∧ Below w.heap.size w w' := by
  have Hc : Hid (Code w.heap.size w a n) := hcode
  clear hcode
  go_enter Tryz.func7, Tryz.ntmps7
  go_wp2_with fail
  refine (l1New_any a n cap _ Hc.out hn).mono ?_
  rintro e w1 ⟨rfl, hc1, hb1⟩
  go_wp2_with fail
  refine (l1Below_any _ a n cap 6 _ hc1 (by decide) (by decide)).mono ?_
  rintro e w2 ⟨x, hx, rfl, hc2, ho2⟩
  have q : IntKind.i64.wrap ((x : Int) - 1) = (x : Int) - 1 := IntWalk.i64_in _ (by omega)
  go_wp2_with fail
  go_ret
  exact ⟨(x : Int) - 1, rfl, hb1.trans (ho2.below (Nat.le_refl _) hb1.size)⟩

end Go.Proofs.YthikgkhnhbaccaaGreatDoor.Sg
