/- The draws of chapters 13 and 14: texts of at most 24 bytes. Written by mk_stdraws.py. -/
import Derived.Test.YthikgkhnhbaccaaGreatDoorMP01
namespace Go.Proofs.YthikgkhnhbaccaaGreatDoor.Sg
open Go.ChangeShapes Go.WideShapes Go.ChangeAt Go.RowKit


set_option maxHeartbeats 2000000 in
theorem l14Draw_any (p : Nat) (a : Option Addr) (n cap : Nat) (w : World) (hc : Cur p a n cap w) :
    Calls Tryz.prog 28 #[.pointer (some ⟨p, 0, none⟩)] w fun e w' => ∃ s : ByteArray, s.size ≤ 24 ∧ e = .returned (.string s) ∧ Cur p a n cap w' ∧ Only p w w' := by
  have Hc : Hid (Cur p a n cap w) := hc
  clear hc
  go_enter Tryz.func28, Tryz.ntmps28
  go_wp2_with fail
  go_loopw [3, 4] (fun sv iv wr => ∃ (k : Nat) (s : ByteArray), k ≤ 5 ∧ s.size ≤ 3 * k ∧ iv = .int .i64 k ∧ sv = .string s ∧ Hid (Cur p a n cap wr) ∧ Only p w wr) (fun _ iv _ => 5 - (intOf iv).toNat)
  case atStart => exact ⟨0, ⟨#[]⟩, by decide, by decide, rfl, rfl, Hc, Only.refl _ _⟩
  case round =>
    obtain ⟨k, s, hk, hs, rfl, rfl, Hc1, ho⟩ := hrel
    go_wp2_with fail
    refine (l1Below_any p a n cap 5 _ Hc1.out (by decide) (by decide)).mono ?_
    rintro e w1 ⟨x, hx, rfl, hc1, ho1⟩
    by_cases hlt : k < x
    · have hlt' : (k : Int) < (x : Int) := by omega
      have hlp := hc1.lt
      go_wp2_with fail
      refine (l1Pick_any p a n cap [⟨#[97]⟩, ⟨#[45]⟩, ⟨#[45, 45]⟩, ⟨#[13]⟩, ⟨#[12]⟩, ⟨#[10]⟩, ⟨#[1]⟩, ⟨#[255]⟩, ⟨#[60, 38, 62]⟩, ⟨#[93, 93, 62]⟩, ⟨#[195, 169]⟩, ⟨#[32]⟩] _ _ _ (hc1.alloc _) (Strs.lit _ [⟨#[97]⟩, ⟨#[45]⟩, ⟨#[45, 45]⟩, ⟨#[13]⟩, ⟨#[12]⟩, ⟨#[10]⟩, ⟨#[1]⟩, ⟨#[255]⟩, ⟨#[60, 38, 62]⟩, ⟨#[93, 93, 62]⟩, ⟨#[195, 169]⟩, ⟨#[32]⟩] 9) (apart_new hlp) (by decide) (by decide)).mono ?_
      rintro e w3 ⟨t, ht, rfl, hc3, ho3⟩
      have hO : Only p w w3 := (ho.trans ho1).trans ho3.of_alloc
      have hts : t.size ≤ 3 := by
        have hall : ∀ x ∈ ([⟨#[97]⟩, ⟨#[45]⟩, ⟨#[45, 45]⟩, ⟨#[13]⟩, ⟨#[12]⟩, ⟨#[10]⟩, ⟨#[1]⟩, ⟨#[255]⟩, ⟨#[60, 38, 62]⟩, ⟨#[93, 93, 62]⟩, ⟨#[195, 169]⟩, ⟨#[32]⟩] : List ByteArray), x.size ≤ 3 := by decide
        exact hall t ht
      have hsz := size_append s t
      have Hsz : Hid ((s ++ t).size = s.size + t.size) := hsz
      clear hsz ht
      go_wp2_with fail
      go_roundw
      case rel => exact ⟨k + 1, s ++ t, by omega, by rw [Hsz.out]; omega, by go_num, rfl, hc3, hO⟩
      case measure => simp [intOf]; omega
    · have hd : decide ((k : Int) < (x : Int)) = false := by simp; omega
      go_wp2_with fail
      go_ret
      exact ⟨s, by omega, rfl, hc1, ho.trans ho1⟩







end Go.Proofs.YthikgkhnhbaccaaGreatDoor.Sg
