/- Texts that are drawn: picks out of lists of strings, and the texts of chapter 1. -/
import Derived.Test.YtidfbnhikkckmaaDoorSgDrawN
namespace Go.Proofs.YtidfbnhikkckmaaDoor.Sg
open Go.ChangeShapes Go.WideShapes Go.ChangeAt Go.RowKit

/-- A slice of strings that begins at 'a' holds just ss. -/
def Strs (w : World) (a : Option Addr) (ss : List ByteArray) : Prop :=
  ss = [] ∨ ∃ b off, a = some ⟨b, off, none⟩ ∧ b < w.heap.size ∧ ∀ i, i < ss.length → w.cell? ⟨b, off + i, none⟩ = some (.string (ss.getD i ByteArray.empty))

theorem Strs.only {p : Nat} {a : Option Addr} {ss : List ByteArray} {w w' : World} (h : Strs w a ss) (hp : Apart p a) (ho : Only p w w') : Strs w' a ss := by
  rcases h with h | ⟨b, off, ha, hb, hc⟩
  · exact .inl h
  · exact .inr ⟨b, off, ha, Nat.lt_of_lt_of_le hb ho.size, fun i hi => (World.cell?_of_block (w := w) (ho.block hb (hp b off ha))).trans (hc i hi)⟩

theorem Strs.lit (w : World) (ss : List ByteArray) (t : TypeId) : Strs (w.alloc (.cells (ss.map Value.string).toArray t)) (some ⟨w.heap.size, 0, none⟩) ss := by
  refine .inr ⟨w.heap.size, 0, rfl, by simp, fun i hi => ?_⟩
  rw [Nat.zero_add]
  refine (World.cell?_alloc_mark w _ t (0, 0) i).trans ?_
  simp [hi]

set_option maxHeartbeats 1000000 in
theorem l1Pick_any (p : Nat) (a : Option Addr) (n cap : Nat) (ss : List ByteArray) (al : Option Addr) (cl : Nat) (w : World) (hc : Cur p a n cap w) (hl : Strs w al ss) (hap : Apart p al) (hm : 1 ≤ ss.length) (hm2 : ss.length ≤ 1099511627776) :
    Calls Tryd.prog 50 #[.pointer (some ⟨p, 0, none⟩), .slice al ss.length cl] w fun e w' => ∃ z : ByteArray, z ∈ ss ∧ e = .returned (.string z) ∧ Cur p a n cap w' ∧ Only p w w' := by
  have Hc : Hid (Cur p a n cap w) := hc
  have Hl : Hid (Strs w al ss) := hl
  clear hc hl
  go_enter Tryd.func50, Tryd.ntmps50
  go_wp2_with fail
  refine (l1Below_any p a n cap ss.length _ Hc.out hm hm2).mono ?_
  rintro e w1 ⟨x, hx, rfl, hc1, ho1⟩
  have hl1 := Hl.out.only hap ho1
  rcases hl1 with h | ⟨b, off, rfl, hb, hcell⟩
  · rw [h] at hx
    simp at hx
  have h1 := hcell x hx
  have hmem : ss.getD x ByteArray.empty ∈ ss := by
    rw [List.getD_eq_getElem?_getD, List.getElem?_eq_getElem hx]
    exact List.getElem_mem hx
  generalize ss.getD x ByteArray.empty = z at h1 hmem
  clear hcell
  go_wp2_with fail
  go_ret
  exact ⟨z, hmem, rfl, hc1, ho1⟩

theorem size_append (s t : ByteArray) : (s ++ t).size = s.size + t.size := by simp [ByteArray.size_append]

set_option maxHeartbeats 2000000 in
theorem l1DrawText_any (p : Nat) (a : Option Addr) (n cap : Nat) (w : World) (hc : Cur p a n cap w) :
    Calls Tryd.prog 39 #[.pointer (some ⟨p, 0, none⟩)] w fun e w' => ∃ s : ByteArray, s.size ≤ 24 ∧ e = .returned (.string s) ∧ Cur p a n cap w' ∧ Only p w w' := by
  have Hc : Hid (Cur p a n cap w) := hc
  clear hc
  go_enter Tryd.func39, Tryd.ntmps39
  go_wp2_with fail
  go_loopw [3, 4] (fun sv iv wr => ∃ (k : Nat) (s : ByteArray), k ≤ 6 ∧ s.size ≤ 4 * k ∧ iv = .int .i64 k ∧ sv = .string s ∧ Hid (Cur p a n cap wr) ∧ Only p w wr) (fun _ iv _ => 6 - (intOf iv).toNat)
  case atStart => exact ⟨0, ⟨#[]⟩, by decide, by decide, rfl, rfl, Hc, Only.refl _ _⟩
  case round =>
    obtain ⟨k, s, hk, hs, rfl, rfl, Hc1, ho⟩ := hrel
    go_wp2_with fail
    refine (l1Below_any p a n cap 6 _ Hc1.out (by decide) (by decide)).mono ?_
    rintro e w1 ⟨x, hx, rfl, hc1, ho1⟩
    by_cases hlt : k < x
    · have hlt' : (k : Int) < (x : Int) := by omega
      go_wp2_with fail
      refine (l1Once_any p a n cap 3 _ hc1 (by decide) (by decide)).mono ?_
      rintro e w2 ⟨b, rfl, hc2, ho2⟩
      have hlp := hc2.lt
      cases b
      · go_wp2_with fail
        refine (l1DrawSign_any p a n cap _ hc2).mono ?_
        rintro e w3 ⟨z, _, rfl, hc3, ho3⟩
        go_wp2_with fail
        refine (specPutSign z _).mono ?_
        rintro e w4 ⟨rfl, hb4⟩
        have hps := putS_size z
        have hc4 := hc3.below hb4
        have hO : Only p w w4 := (((ho.trans ho1).trans ho2).trans ho3).trans (Only.of_below hb4)
        generalize putS z = t at *
        have hsz := size_append s t
        have Hsz : Hid ((s ++ t).size = s.size + t.size) := hsz
        clear hsz
        go_wp2_with fail
        go_roundw
        case rel => exact ⟨k + 1, s ++ t, by omega, by rw [Hsz.out]; omega, by go_num, rfl, hc4, hO⟩
        case measure => simp [intOf]; omega
      · go_wp2_with fail
        refine (l1Pick_any p a n cap [⟨#[255]⟩, ⟨#[192]⟩, ⟨#[226]⟩, ⟨#[226, 130]⟩, ⟨#[240, 144]⟩, ⟨#[237, 160]⟩, ⟨#[128]⟩, ⟨#[244, 144]⟩, ⟨#[194]⟩] _ _ _ (hc2.alloc _) (Strs.lit _ [⟨#[255]⟩, ⟨#[192]⟩, ⟨#[226]⟩, ⟨#[226, 130]⟩, ⟨#[240, 144]⟩, ⟨#[237, 160]⟩, ⟨#[128]⟩, ⟨#[244, 144]⟩, ⟨#[194]⟩] 9) (apart_new hlp) (by decide) (by decide)).mono ?_
        rintro e w3 ⟨t, ht, rfl, hc3, ho3⟩
        have hO : Only p w w3 := ((ho.trans ho1).trans ho2).trans ho3.of_alloc
        have hts : t.size ≤ 4 := by
          have hall : ∀ x ∈ ([⟨#[255]⟩, ⟨#[192]⟩, ⟨#[226]⟩, ⟨#[226, 130]⟩, ⟨#[240, 144]⟩, ⟨#[237, 160]⟩, ⟨#[128]⟩, ⟨#[244, 144]⟩, ⟨#[194]⟩] : List ByteArray), x.size ≤ 4 := by decide
          exact hall t ht
        have hsz := size_append s t
        have Hsz : Hid ((s ++ t).size = s.size + t.size) := hsz
        clear hsz ht
        go_wp2_with fail
        go_roundw
        case rel => exact ⟨k + 1, s ++ t, by omega, by rw [Hsz.out]; omega, by go_num, rfl, hc3, hO⟩
        case measure => simp [intOf]; omega
    · have hd : decide ((k : Int) < (x : Int)) = false := by simp; omega
      go_wp2_with fail
      go_ret
      exact ⟨s, by omega, rfl, hc1, ho.trans ho1⟩

end Go.Proofs.YtidfbnhikkckmaaDoor.Sg
