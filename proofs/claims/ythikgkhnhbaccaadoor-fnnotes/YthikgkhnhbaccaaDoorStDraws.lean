/- The draws of chapters 13 and 14: texts of at most 24 bytes. Written by mk_stdraws.py. -/
import Derived.Test.YthikgkhnhbaccaaDoorMO03
namespace Go.Proofs.YthikgkhnhbaccaaDoor.Sg
open Go.ChangeShapes Go.WideShapes Go.ChangeAt Go.RowKit


set_option maxHeartbeats 2000000 in
theorem l14Draw_any (p : Nat) (a : Option Addr) (n cap : Nat) (w : World) (hc : Cur p a n cap w) :
    Calls Tryd.prog 9 #[.pointer (some ⟨p, 0, none⟩)] w fun e w' => ∃ s : ByteArray, s.size ≤ 24 ∧ e = .returned (.string s) ∧ Cur p a n cap w' ∧ Only p w w' := by
  have Hc : Hid (Cur p a n cap w) := hc
  clear hc
  go_enter Tryd.func9, Tryd.ntmps9
  go_wp2_with fail
  go_loopw [3, 4] (fun sv iv wr => ∃ (k : Nat) (s : ByteArray), k ≤ 5 ∧ s.size ≤ 3 * k ∧ iv = .int .i64 k ∧ sv = .string s ∧ Hid (Cur p a n cap wr) ∧ Only p w wr) (fun _ iv _ => 5 - (intOf iv).toNat)
  case atStart => exact ⟨0, ⟨#[]⟩, by decide, by decide, rfl, rfl, Hc, Only.refl _ _⟩
  case round =>
    obtain ⟨k, s, hk, hs, rfl, rfl, Hc1, ho⟩ := hrel
    go_wp2_with fail
    refine (l1Below_any p a n cap 5 _ Hc1.out (by decide) (by decide)).mono ?_
    rintro e w1 ⟨x, hx, rfl, hc1, ho1⟩
    by_cases hlt : k < x
    · have hlt' : (k : Int) < (x : Int) := by omega
      have hlp := hc1.lt
      go_wp2_with fail
      refine (l1Pick_any p a n cap [⟨#[97]⟩, ⟨#[45]⟩, ⟨#[45, 45]⟩, ⟨#[13]⟩, ⟨#[12]⟩, ⟨#[10]⟩, ⟨#[1]⟩, ⟨#[255]⟩, ⟨#[60, 38, 62]⟩, ⟨#[93, 93, 62]⟩, ⟨#[195, 169]⟩, ⟨#[32]⟩] _ _ _ (hc1.alloc _) (Strs.lit _ [⟨#[97]⟩, ⟨#[45]⟩, ⟨#[45, 45]⟩, ⟨#[13]⟩, ⟨#[12]⟩, ⟨#[10]⟩, ⟨#[1]⟩, ⟨#[255]⟩, ⟨#[60, 38, 62]⟩, ⟨#[93, 93, 62]⟩, ⟨#[195, 169]⟩, ⟨#[32]⟩] 9) (apart_new hlp) (by decide) (by decide)).mono ?_
      rintro e w3 ⟨t, ht, rfl, hc3, ho3⟩
      have hO : Only p w w3 := (ho.trans ho1).trans ho3.of_alloc
      have hts : t.size ≤ 3 := by
        have hall : ∀ x ∈ ([⟨#[97]⟩, ⟨#[45]⟩, ⟨#[45, 45]⟩, ⟨#[13]⟩, ⟨#[12]⟩, ⟨#[10]⟩, ⟨#[1]⟩, ⟨#[255]⟩, ⟨#[60, 38, 62]⟩, ⟨#[93, 93, 62]⟩, ⟨#[195, 169]⟩, ⟨#[32]⟩] : List ByteArray), x.size ≤ 3 := by decide
        exact hall t ht
      have hsz := size_append s t
      have Hsz : Hid ((s ++ t).size = s.size + t.size) := hsz
      clear hsz ht
      go_wp2_with fail
      go_roundw
      case rel => exact ⟨k + 1, s ++ t, by omega, by rw [Hsz.out]; omega, by go_num, rfl, hc3, hO⟩
      case measure => simp [intOf]; omega
    · have hd : decide ((k : Int) < (x : Int)) = false := by simp; omega
      go_wp2_with fail
      go_ret
      exact ⟨s, by omega, rfl, hc1, ho.trans ho1⟩






set_option maxHeartbeats 2000000 in
theorem drawNoteOf (a : Option Addr) (n cap : Nat) (w : World) (hcode : Code w.heap.size w a n) (hn : n ≤ 1048576) :
    Calls Tryd.prog 5 #[.slice a n cap] w fun e w' => ∃ s : ByteArray, s.size ≤ 24 ∧ e = .returned (.string s) ∧ Below w.heap.size w w' := by
  have Hc : Hid (Code w.heap.size w a n) := hcode
  clear hcode
  go_enter Tryd.func5, Tryd.ntmps5
  go_wp2_with fail
  refine (l1New_any a n cap _ Hc.out hn).mono ?_
  rintro e w1 ⟨rfl, hc1, hb1⟩
  go_wp2_with fail
  refine (l14Draw_any _ a n cap _ hc1).mono ?_
  rintro e w2 ⟨s, hs, rfl, hc2, ho2⟩
  go_wp2_with fail
  go_ret
  exact ⟨s, hs, rfl, hb1.trans (ho2.below (Nat.le_refl _) hb1.size)⟩

end Go.Proofs.YthikgkhnhbaccaaDoor.Sg
