/- Texts that are drawn: picks out of lists of strings, and the texts of chapter 1. -/
import Derived.Test.YtlghkbcdaoijhaaGreatDoorSgDrawNQ
namespace Go.Proofs.YtlghkbcdaoijhaaGreatDoor.Sg
open Go.ChangeShapes Go.WideShapes Go.ChangeAt Go.RowKit

set_option maxHeartbeats 2000000 in
theorem l1DrawText_any (p : Nat) (a : Option Addr) (n cap : Nat) (w : World) (hc : Cur p a n cap w) :
    Calls Tryz.prog 28 #[.pointer (some ⟨p, 0, none⟩)] w fun e w' => ∃ s : ByteArray, s.size ≤ 24 ∧ e = .returned (.string s) ∧ Cur p a n cap w' ∧ Only p w w' := by
  have Hc : Hid (Cur p a n cap w) := hc
  clear hc
  go_enter Tryz.func28, Tryz.ntmps28
  go_wp2_with fail
  go_loopw [3, 4] (fun sv iv wr => ∃ (k : Nat) (s : ByteArray), k ≤ 6 ∧ s.size ≤ 4 * k ∧ iv = .int .i64 k ∧ sv = .string s ∧ Hid (Cur p a n cap wr) ∧ Only p w wr) (fun _ iv _ => 6 - (intOf iv).toNat)
  case atStart => exact ⟨0, ⟨#[]⟩, by decide, by decide, rfl, rfl, Hc, Only.refl _ _⟩
  case round =>
    obtain ⟨k, s, hk, hs, rfl, rfl, Hc1, ho⟩ := hrel
    go_wp2_with fail
    refine (l1Below_any p a n cap 6 _ Hc1.out (by decide) (by decide)).mono ?_
    rintro e w1 ⟨x, hx, rfl, hc1, ho1⟩
    by_cases hlt : k < x
    · have hlt' : (k : Int) < (x : Int) := by omega
      go_wp2_with fail
      refine (l1Once_any p a n cap 3 _ hc1 (by decide) (by decide)).mono ?_
      rintro e w2 ⟨b, rfl, hc2, ho2⟩
      have hlp := hc2.lt
      cases b
      · go_wp2_with fail
        refine (l1DrawSign_any p a n cap _ hc2).mono ?_
        rintro e w3 ⟨z, _, rfl, hc3, ho3⟩
        go_wp2_with fail
        refine (specPutSign z _).mono ?_
        rintro e w4 ⟨rfl, hb4⟩
        have hps := putS_size z
        have hc4 := hc3.below hb4
        have hO : Only p w w4 := (((ho.trans ho1).trans ho2).trans ho3).trans (Only.of_below hb4)
        generalize putS z = t at *
        have hsz := size_append s t
        have Hsz : Hid ((s ++ t).size = s.size + t.size) := hsz
        clear hsz
        go_wp2_with fail
        go_roundw
        case rel => exact ⟨k + 1, s ++ t, by omega, by rw [Hsz.out]; omega, by go_num, rfl, hc4, hO⟩
        case measure => simp [intOf]; omega
      · go_wp2_with fail
        refine (l1Pick_any p a n cap [⟨#[255]⟩, ⟨#[192]⟩, ⟨#[226]⟩, ⟨#[226, 130]⟩, ⟨#[240, 144]⟩, ⟨#[237, 160]⟩, ⟨#[128]⟩, ⟨#[244, 144]⟩, ⟨#[194]⟩] _ _ _ (hc2.alloc _) (Strs.lit _ [⟨#[255]⟩, ⟨#[192]⟩, ⟨#[226]⟩, ⟨#[226, 130]⟩, ⟨#[240, 144]⟩, ⟨#[237, 160]⟩, ⟨#[128]⟩, ⟨#[244, 144]⟩, ⟨#[194]⟩] 9) (apart_new hlp) (by decide) (by decide)).mono ?_
        rintro e w3 ⟨t, ht, rfl, hc3, ho3⟩
        have hO : Only p w w3 := ((ho.trans ho1).trans ho2).trans ho3.of_alloc
        have hts : t.size ≤ 4 := by
          have hall : ∀ x ∈ ([⟨#[255]⟩, ⟨#[192]⟩, ⟨#[226]⟩, ⟨#[226, 130]⟩, ⟨#[240, 144]⟩, ⟨#[237, 160]⟩, ⟨#[128]⟩, ⟨#[244, 144]⟩, ⟨#[194]⟩] : List ByteArray), x.size ≤ 4 := by decide
          exact hall t ht
        have hsz := size_append s t
        have Hsz : Hid ((s ++ t).size = s.size + t.size) := hsz
        clear hsz ht
        go_wp2_with fail
        go_roundw
        case rel => exact ⟨k + 1, s ++ t, by omega, by rw [Hsz.out]; omega, by go_num, rfl, hc3, hO⟩
        case measure => simp [intOf]; omega
    · have hd : decide ((k : Int) < (x : Int)) = false := by simp; omega
      go_wp2_with fail
      go_ret
      exact ⟨s, by omega, rfl, hc1, ho.trans ho1⟩

end Go.Proofs.YtlghkbcdaoijhaaGreatDoor.Sg
