/- The draws of chapter 4: each gives a short text, and changes nothing that was there. -/
import Derived.Test.YtlaidaghmhmgbaaDoorM04
import Derived.Laws.DeepStrings4
namespace Go.Proofs.YtlaidaghmhmgbaaDoor.Sg
open Go.ChangeShapes Go.WideShapes Go.ChangeAt Go.RowKit

set_option maxHeartbeats 4000000 in
theorem l4DrawTag_any (p : Nat) (a : Option Addr) (n cap : Nat) (w : World) (hc : Cur p a n cap w) :
    Calls Tryd.prog 30 #[.pointer (some ⟨p, 0, none⟩)] w fun e w' => ∃ s : ByteArray, 2 ≤ s.size ∧ s.size ≤ 100 ∧ e = .returned (.string s) ∧ Cur p a n cap w' ∧ Only p w w' := by
  have hlp := hc.lt
  have Hc : Hid (Cur p a n cap w) := hc
  clear hc
  go_enter Tryd.func30, Tryd.ntmps30
  go_wp2_with fail
  refine (l1Pick_any p a n cap [⟨#[60, 97]⟩, ⟨#[60, 66]⟩, ⟨#[60, 47, 112]⟩, ⟨#[60, 98, 114]⟩, ⟨#[60, 115, 118, 103]⟩, ⟨#[60, 116, 100]⟩] _ _ _ (Hc.out.alloc _) (Strs.lit _ [⟨#[60, 97]⟩, ⟨#[60, 66]⟩, ⟨#[60, 47, 112]⟩, ⟨#[60, 98, 114]⟩, ⟨#[60, 115, 118, 103]⟩, ⟨#[60, 116, 100]⟩] 9) (apart_new hlp) (by decide) (by decide)).mono ?_
  rintro e w0 ⟨t0, ht0, rfl, hc0, ho0⟩
  have hz0 : 2 ≤ t0.size ∧ t0.size ≤ 4 := by
    have hall : ∀ x ∈ ([⟨#[60, 97]⟩, ⟨#[60, 66]⟩, ⟨#[60, 47, 112]⟩, ⟨#[60, 98, 114]⟩, ⟨#[60, 115, 118, 103]⟩, ⟨#[60, 116, 100]⟩] : List ByteArray), 2 ≤ x.size ∧ x.size ≤ 4 := by decide
    exact hall t0 ht0
  clear ht0
  have ho00 : Only p w w0 := ho0.of_alloc
  have Hc0 : Hid (Cur p a n cap w0) := hc0
  clear ho0 hc0 Hc hlp
  go_wp2_with fail
  go_loopw [3, 4] (fun sv iv wr => ∃ (k : Nat) (s : ByteArray), k ≤ 5 ∧ 2 ≤ s.size ∧ s.size ≤ 4 + 11 * k ∧ iv = .int .i64 k ∧ sv = .string s ∧ Hid (Cur p a n cap wr) ∧ Only p w wr) (fun _ iv _ => 5 - (intOf iv).toNat)
  case atStart => exact ⟨0, t0, by decide, by omega, by omega, rfl, rfl, Hc0, ho00⟩
  case round =>
    obtain ⟨k, s, hk, hs2, hs, rfl, rfl, Hc1, ho⟩ := hrel
    clear Hc0 ho00
    go_wp2_with fail
    refine (l1Below_any p a n cap 5 _ Hc1.out (by decide) (by decide)).mono ?_
    rintro e w1 ⟨x, hx, rfl, hc1, ho1⟩
    have hlp := hc1.lt
    by_cases hlt : k < x
    · have hlt' : (k : Int) < (x : Int) := by omega
      go_wp2_with fail
      refine (l1Pick_any p a n cap [⟨#[32, 120, 61, 49]⟩, ⟨#[32, 89, 61, 39, 97, 62, 98, 39]⟩, ⟨#[32, 122, 61, 34, 113, 38, 97, 109, 112, 59, 34]⟩, ⟨#[47]⟩, ⟨#[32, 61, 107]⟩, ⟨#[32, 120]⟩, ⟨#[32, 119, 32, 61, 32, 118, 47]⟩, ⟨#[10]⟩, ⟨#[32, 97, 61, 34]⟩, ⟨#[34]⟩, ⟨#[32, 98, 61, 99, 62]⟩] _ _ _ (hc1.alloc _) (Strs.lit _ [⟨#[32, 120, 61, 49]⟩, ⟨#[32, 89, 61, 39, 97, 62, 98, 39]⟩, ⟨#[32, 122, 61, 34, 113, 38, 97, 109, 112, 59, 34]⟩, ⟨#[47]⟩, ⟨#[32, 61, 107]⟩, ⟨#[32, 120]⟩, ⟨#[32, 119, 32, 61, 32, 118, 47]⟩, ⟨#[10]⟩, ⟨#[32, 97, 61, 34]⟩, ⟨#[34]⟩, ⟨#[32, 98, 61, 99, 62]⟩] 9) (apart_new hlp) (by decide) (by decide)).mono ?_
      rintro e w3 ⟨t, ht, rfl, hc3, ho3⟩
      have hz : 1 ≤ t.size ∧ t.size ≤ 11 := by
        have hall : ∀ x ∈ ([⟨#[32, 120, 61, 49]⟩, ⟨#[32, 89, 61, 39, 97, 62, 98, 39]⟩, ⟨#[32, 122, 61, 34, 113, 38, 97, 109, 112, 59, 34]⟩, ⟨#[47]⟩, ⟨#[32, 61, 107]⟩, ⟨#[32, 120]⟩, ⟨#[32, 119, 32, 61, 32, 118, 47]⟩, ⟨#[10]⟩, ⟨#[32, 97, 61, 34]⟩, ⟨#[34]⟩, ⟨#[32, 98, 61, 99, 62]⟩] : List ByteArray), 1 ≤ x.size ∧ x.size ≤ 11 := by decide
        exact hall t ht
      clear ht
      have hO : Only p w w3 := (ho.trans ho1).trans ho3.of_alloc
      have Hsz : Hid ((s ++ t).size = s.size + t.size) := size_append s t
      clear ho3 ho1 ho hc1 Hc1
      go_wp2_with fail
      go_roundw
      case rel => exact ⟨k + 1, s ++ t, by omega, by rw [Hsz.out]; omega, by rw [Hsz.out]; omega, by go_num, rfl, hc3, hO⟩
      case measure => simp [intOf]; omega
    · have hd : decide ((k : Int) < (x : Int)) = false := by simp; omega
      go_wp2_with fail
      refine (l1Pick_any p a n cap [⟨#[62]⟩, ⟨#[47, 62]⟩, ⟨#[62]⟩, ⟨#[32, 62]⟩, ⟨#[]⟩, ⟨#[62, 32, 116]⟩] _ _ _ (hc1.alloc _) (Strs.lit _ [⟨#[62]⟩, ⟨#[47, 62]⟩, ⟨#[62]⟩, ⟨#[32, 62]⟩, ⟨#[]⟩, ⟨#[62, 32, 116]⟩] 9) (apart_new hlp) (by decide) (by decide)).mono ?_
      rintro e w3 ⟨t, ht, rfl, hc3, ho3⟩
      have hz : 0 ≤ t.size ∧ t.size ≤ 3 := by
        have hall : ∀ x ∈ ([⟨#[62]⟩, ⟨#[47, 62]⟩, ⟨#[62]⟩, ⟨#[32, 62]⟩, ⟨#[]⟩, ⟨#[62, 32, 116]⟩] : List ByteArray), 0 ≤ x.size ∧ x.size ≤ 3 := by decide
        exact hall t ht
      clear ht
      have hO : Only p w w3 := (ho.trans ho1).trans ho3.of_alloc
      have Hsz : Hid ((s ++ t).size = s.size + t.size) := size_append s t
      clear ho3 ho1 ho hc1 Hc1
      go_wp2_with fail
      go_ret
      exact ⟨s ++ t, by rw [Hsz.out]; omega, by rw [Hsz.out]; omega, rfl, hc3, hO⟩

set_option maxHeartbeats 4000000 in
theorem drawTagEnd (a : Option Addr) (n cap : Nat) (w : World) (hcode : Code w.heap.size w a n) (hn : n ≤ 1048576) :
    Calls Tryd.prog 8 #[.slice a n cap] w fun e w' => ∃ (s : ByteArray) (z : Int), s.size ≤ 101 ∧ -1 ≤ z ∧ z ≤ 101 ∧ e = .returned (.tuple #[.string s, .int .i64 z]) ∧ Below w.heap.size w w' := by
  have Hc : Hid (Code w.heap.size w a n) := hcode
  clear hcode
  go_enter Tryd.func8, Tryd.ntmps8
  go_wp2_with fail
  refine (l1New_any a n cap _ Hc.out hn).mono ?_
  rintro e w1 ⟨rfl, hc1, hb1⟩
  have hlp := hc1.lt
  go_wp2_with fail
  refine (l1Pick_any _ a n cap [⟨#[]⟩, ⟨#[120]⟩] _ _ _ (hc1.alloc _) (Strs.lit _ [⟨#[]⟩, ⟨#[120]⟩] 9) (apart_new hlp) (by decide) (by decide)).mono ?_
  rintro e w2 ⟨t0, ht0, rfl, hc2, ho2⟩
  have hz0 : 0 ≤ t0.size ∧ t0.size ≤ 1 := by
    have hall : ∀ x ∈ ([⟨#[]⟩, ⟨#[120]⟩] : List ByteArray), 0 ≤ x.size ∧ x.size ≤ 1 := by decide
    exact hall t0 ht0
  clear ht0
  go_wp2_with fail
  refine (l4DrawTag_any _ a n cap _ hc2).mono ?_
  rintro e w3 ⟨t, ht2, ht100, rfl, hc3, ho3⟩
  have hlp3 := hc3.lt
  have Hsz : Hid ((t0 ++ t).size = t0.size + t.size) := size_append t0 t
  have hO : Only w.heap.size w1 w3 := ho2.of_alloc.trans ho3
  have Hs : Hid ((t0 ++ t).size ≤ 101) := by show _ ≤ _; rw [Hsz.out]; omega
  clear Hsz ho2 ho3 hc1 hc2 hlp
  go_wp2_with fail
  refine (l1PickInt_any _ a n cap [0, 1, 0, 1, -1, (t0.size : Int) + (t.size : Int), 2] _ _ _ (hc3.alloc _) (Ints.lit _ [0, 1, 0, 1, -1, (t0.size : Int) + (t.size : Int), 2] 3) (apart_new hlp3) (by simp) (by simp)).mono ?_
  rintro e w4 ⟨z, hz, rfl, hc4, ho4⟩
  have hzb : -1 ≤ z ∧ z ≤ 101 := by
    simp only [List.mem_cons, List.not_mem_nil, or_false] at hz
    omega
  have hO4 : Only w.heap.size w1 w4 := hO.trans ho4.of_alloc
  clear hz ho4 hO hc3 hlp3
  go_wp2_with fail
  go_ret2
  exact ⟨t0 ++ t, z, Hs.out, hzb.1, hzb.2, rfl, hb1.trans (hO4.below (Nat.le_refl _) hb1.size)⟩

set_option maxHeartbeats 2000000 in
theorem drawAttrs (a : Option Addr) (n cap : Nat) (w : World) (hcode : Code w.heap.size w a n) (hn : n ≤ 1048576) :
    Calls Tryd.prog 10 #[.slice a n cap] w fun e w' => ∃ s : ByteArray, s.size ≤ 100 ∧ e = .returned (.string s) ∧ Below w.heap.size w w' := by
  have Hc : Hid (Code w.heap.size w a n) := hcode
  clear hcode
  go_enter Tryd.func10, Tryd.ntmps10
  go_wp2_with fail
  refine (l1New_any a n cap _ Hc.out hn).mono ?_
  rintro e w1 ⟨rfl, hc1, hb1⟩
  go_wp2_with fail
  refine (l4DrawTag_any _ a n cap _ hc1).mono ?_
  rintro e w2 ⟨t, ht2, ht100, rfl, hc2, ho2⟩
  have g2 : (2 : Int) ≤ (t.size : Int) := by omega
  have hsz : (t.extract 2 t.size).size ≤ 100 := by simp only [ByteArray.size_extract]; omega
  have Hsz : Hid ((t.extract 2 t.size).size ≤ 100) := hsz
  clear hsz
  go_wp2_with fail
  go_ret
  exact ⟨t.extract 2 t.size, Hsz.out, rfl, hb1.trans (ho2.below (Nat.le_refl _) hb1.size)⟩

set_option maxHeartbeats 2000000 in
theorem drawRaw (a : Option Addr) (n cap : Nat) (w : World) (hcode : Code w.heap.size w a n) (hn : n ≤ 1048576) :
    Calls Tryd.prog 13 #[.slice a n cap] w fun e w' => ∃ s : ByteArray, s.size ≤ 100 ∧ e = .returned (.string s) ∧ Below w.heap.size w w' := by
  have Hc : Hid (Code w.heap.size w a n) := hcode
  clear hcode
  go_enter Tryd.func13, Tryd.ntmps13
  go_wp2_with fail
  refine (l1New_any a n cap _ Hc.out hn).mono ?_
  rintro e w1 ⟨rfl, hc1, hb1⟩
  have hlp := hc1.lt
  go_wp2_with fail
  refine (l1Pick_any _ a n cap [⟨#[115, 99, 114, 105, 112, 116]⟩, ⟨#[115, 116, 121, 108, 101]⟩, ⟨#[116, 105, 116, 108, 101]⟩, ⟨#[116, 101, 120, 116, 97, 114, 101, 97]⟩, ⟨#[112]⟩, ⟨#[]⟩, ⟨#[83, 99, 114, 105, 112, 116]⟩] _ _ _ (hc1.alloc _) (Strs.lit _ [⟨#[115, 99, 114, 105, 112, 116]⟩, ⟨#[115, 116, 121, 108, 101]⟩, ⟨#[116, 105, 116, 108, 101]⟩, ⟨#[116, 101, 120, 116, 97, 114, 101, 97]⟩, ⟨#[112]⟩, ⟨#[]⟩, ⟨#[83, 99, 114, 105, 112, 116]⟩] 9) (apart_new hlp) (by decide) (by decide)).mono ?_
  rintro e w2 ⟨t, ht, rfl, hc2, ho2⟩
  have hz : 0 ≤ t.size ∧ t.size ≤ 8 := by
    have hall : ∀ x ∈ ([⟨#[115, 99, 114, 105, 112, 116]⟩, ⟨#[115, 116, 121, 108, 101]⟩, ⟨#[116, 105, 116, 108, 101]⟩, ⟨#[116, 101, 120, 116, 97, 114, 101, 97]⟩, ⟨#[112]⟩, ⟨#[]⟩, ⟨#[83, 99, 114, 105, 112, 116]⟩] : List ByteArray), 0 ≤ x.size ∧ x.size ≤ 8 := by decide
    exact hall t ht
  clear ht
  go_wp2_with fail
  go_ret
  exact ⟨t, by omega, rfl, hb1.trans (ho2.of_alloc.below (Nat.le_refl _) hb1.size)⟩

set_option maxHeartbeats 4000000 in
theorem drawRawEnd (a : Option Addr) (n cap : Nat) (w : World) (hcode : Code w.heap.size w a n) (hn : n ≤ 1048576) :
    Calls Tryd.prog 14 #[.slice a n cap] w fun e w' => ∃ (s : ByteArray) (z : Int) (t : ByteArray), s.size ≤ 100 ∧ t.size ≤ 100 ∧ e = .returned (.tuple #[.string s, .int .i64 z, .string t]) ∧ Below w.heap.size w w' := by
  have Hc : Hid (Code w.heap.size w a n) := hcode
  clear hcode
  go_enter Tryd.func14, Tryd.ntmps14
  go_wp2_with fail
  refine (l1New_any a n cap _ Hc.out hn).mono ?_
  rintro e w1 ⟨rfl, hc1, hb1⟩
  have Hc1 : Hid (Cur w.heap.size a n cap w1) := hc1
  clear hc1 Hc
  go_wp2_with fail
  go_loopw [6, 7] (fun sv iv wr => ∃ (k : Nat) (s : ByteArray), k ≤ 5 ∧ s.size ≤ 11 * k ∧ iv = .int .i64 k ∧ sv = .string s ∧ Hid (Cur w.heap.size a n cap wr) ∧ Only w.heap.size w1 wr) (fun _ iv _ => 5 - (intOf iv).toNat)
  case atStart => exact ⟨0, ⟨#[]⟩, by decide, by decide, rfl, rfl, Hc1, Only.refl _ _⟩
  case round =>
    obtain ⟨k, s, hk, hs, rfl, rfl, Hc2, ho⟩ := hrel
    clear Hc1
    go_wp2_with fail
    refine (l1Below_any _ a n cap 5 _ Hc2.out (by decide) (by decide)).mono ?_
    rintro e w2 ⟨x, hx, rfl, hc2, ho2⟩
    have hlp := hc2.lt
    by_cases hlt : k < x
    · have hlt' : (k : Int) < (x : Int) := by omega
      go_wp2_with fail
      refine (l1Pick_any _ a n cap [⟨#[97]⟩, ⟨#[60, 47, 115, 99, 114, 105, 112, 116, 62]⟩, ⟨#[60, 47, 83, 67, 82, 73, 80, 84, 32]⟩, ⟨#[60, 47, 115, 99, 114, 105, 112, 116, 120, 62]⟩, ⟨#[60]⟩, ⟨#[60, 47, 115, 116, 121, 108, 101, 47]⟩, ⟨#[60, 47, 115, 99, 114, 105, 112, 116]⟩] _ _ _ (hc2.alloc _) (Strs.lit _ [⟨#[97]⟩, ⟨#[60, 47, 115, 99, 114, 105, 112, 116, 62]⟩, ⟨#[60, 47, 83, 67, 82, 73, 80, 84, 32]⟩, ⟨#[60, 47, 115, 99, 114, 105, 112, 116, 120, 62]⟩, ⟨#[60]⟩, ⟨#[60, 47, 115, 116, 121, 108, 101, 47]⟩, ⟨#[60, 47, 115, 99, 114, 105, 112, 116]⟩] 9) (apart_new hlp) (by decide) (by decide)).mono ?_
      rintro e w3 ⟨t, ht, rfl, hc3, ho3⟩
      have hz : 1 ≤ t.size ∧ t.size ≤ 10 := by
        have hall : ∀ x ∈ ([⟨#[97]⟩, ⟨#[60, 47, 115, 99, 114, 105, 112, 116, 62]⟩, ⟨#[60, 47, 83, 67, 82, 73, 80, 84, 32]⟩, ⟨#[60, 47, 115, 99, 114, 105, 112, 116, 120, 62]⟩, ⟨#[60]⟩, ⟨#[60, 47, 115, 116, 121, 108, 101, 47]⟩, ⟨#[60, 47, 115, 99, 114, 105, 112, 116]⟩] : List ByteArray), 1 ≤ x.size ∧ x.size ≤ 10 := by decide
        exact hall t ht
      clear ht
      have hO : Only w.heap.size w1 w3 := (ho.trans ho2).trans ho3.of_alloc
      have Hsz : Hid ((s ++ t).size = s.size + t.size) := size_append s t
      clear ho3 ho2 ho hc2 Hc2
      go_wp2_with fail
      go_roundw
      case rel => exact ⟨k + 1, s ++ t, by omega, by rw [Hsz.out]; omega, by go_num, rfl, hc3, hO⟩
      case measure => simp [intOf]; omega
    · have hd : decide ((k : Int) < (x : Int)) = false := by simp; omega
      have hO2 : Only w.heap.size w1 w2 := ho.trans ho2
      clear ho ho2 Hc2
      go_wp2_with fail
      refine (l1PickInt_any _ a n cap [0, 0, 1, 3, -1, 99] _ _ _ (hc2.alloc _) (Ints.lit _ [0, 0, 1, 3, -1, 99] 3) (apart_new hlp) (by decide) (by decide)).mono ?_
      rintro e w3 ⟨z, _, rfl, hc3, ho3⟩
      have hO3 : Only w.heap.size w1 w3 := hO2.trans ho3.of_alloc
      have hlp3 := hc3.lt
      clear hO2 ho3 hc2 hlp
      go_wp2_with fail
      refine (l1Pick_any _ a n cap [⟨#[115, 99, 114, 105, 112, 116]⟩, ⟨#[115, 116, 121, 108, 101]⟩, ⟨#[83, 99, 114, 105, 112, 116]⟩, ⟨#[]⟩] _ _ _ (hc3.alloc _) (Strs.lit _ [⟨#[115, 99, 114, 105, 112, 116]⟩, ⟨#[115, 116, 121, 108, 101]⟩, ⟨#[83, 99, 114, 105, 112, 116]⟩, ⟨#[]⟩] 9) (apart_new hlp3) (by decide) (by decide)).mono ?_
      rintro e w4 ⟨t, ht, rfl, hc4, ho4⟩
      have hz : 0 ≤ t.size ∧ t.size ≤ 6 := by
        have hall : ∀ x ∈ ([⟨#[115, 99, 114, 105, 112, 116]⟩, ⟨#[115, 116, 121, 108, 101]⟩, ⟨#[83, 99, 114, 105, 112, 116]⟩, ⟨#[]⟩] : List ByteArray), 0 ≤ x.size ∧ x.size ≤ 6 := by decide
        exact hall t ht
      clear ht
      have hO4 : Only w.heap.size w1 w4 := hO3.trans ho4.of_alloc
      clear hO3 ho4 hc3 hlp3
      go_wp2_with fail
      go_ret3
      exact ⟨s, z, t, by omega, by omega, rfl, hb1.trans (hO4.below (Nat.le_refl _) hb1.size)⟩

end Go.Proofs.YtlaidaghmhmgbaaDoor.Sg
