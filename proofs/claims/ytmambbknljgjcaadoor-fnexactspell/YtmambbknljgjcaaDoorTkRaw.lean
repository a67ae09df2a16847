/- Contracts of the model's Raw and RawEnd. -/
import Derived.Test.YtmambbknljgjcaaDoorTkEndP
import Derived.Test.YtmambbknljgjcaaDoorKdSmall
import Derived.Laws.DeepStrings4
namespace Go.Proofs.YtmambbknljgjcaaDoor.Sg
open Go.ChangeShapes Go.WideShapes Go.ChangeAt Go.RowKit

/-- A tag whose text is taken as it comes. -/
def rawB (s : ByteArray) : Bool := s.toList == [115, 99, 114, 105, 112, 116] || (s.toList == [115, 116, 121, 108, 101] || (s.toList == [116, 105, 116, 108, 101] || s.toList == [116, 101, 120, 116, 97, 114, 101, 97]))

theorem ret_bool' {a b : Bool} (h : a = b) : Ending.returned (.bool a) = .returned (.bool b) := by rw [h]

set_option maxHeartbeats 1000000 in
theorem specRaw (s : ByteArray) (w : World) :
    Calls Tryd.prog 44 #[.string s] w fun e w' => e = .returned (.bool (rawB s)) ∧ w' = w := by
  have e1 : (⟨#[115, 99, 114, 105, 112, 116]⟩ : ByteArray).toList = [115, 99, 114, 105, 112, 116] := ByteArray.toList_mk _
  have e2 : (⟨#[115, 116, 121, 108, 101]⟩ : ByteArray).toList = [115, 116, 121, 108, 101] := ByteArray.toList_mk _
  have e3 : (⟨#[116, 105, 116, 108, 101]⟩ : ByteArray).toList = [116, 105, 116, 108, 101] := ByteArray.toList_mk _
  have e4 : (⟨#[116, 101, 120, 116, 97, 114, 101, 97]⟩ : ByteArray).toList = [116, 101, 120, 116, 97, 114, 101, 97] := ByteArray.toList_mk _
  have Hn : Hid (rawB s = (s.toList == [115, 99, 114, 105, 112, 116] || (s.toList == [115, 116, 121, 108, 101] || (s.toList == [116, 105, 116, 108, 101] || s.toList == [116, 101, 120, 116, 97, 114, 101, 97])))) := rfl
  cases h1 : s.toList == [115, 99, 114, 105, 112, 116]
  · cases h2 : s.toList == [115, 116, 121, 108, 101]
    · cases h3 : s.toList == [116, 105, 116, 108, 101]
      · rw [h1, h2, h3] at Hn
        go_enter Tryd.func44, Tryd.ntmps44
        go_wp2
        go_ret
        exact ⟨ret_bool' (by rw [Hn.out]; rfl), rfl⟩
      · rw [h1, h2, h3] at Hn
        go_enter Tryd.func44, Tryd.ntmps44
        go_wp2
        go_ret
        exact ⟨ret_bool' (by rw [Hn.out]; rfl), rfl⟩
    · rw [h1, h2] at Hn
      go_enter Tryd.func44, Tryd.ntmps44
      go_wp2
      go_ret
      exact ⟨ret_bool' (by rw [Hn.out]; rfl), rfl⟩
  · rw [h1] at Hn
    go_enter Tryd.func44, Tryd.ntmps44
    go_wp2
    go_ret
    exact ⟨ret_bool' (by rw [Hn.out]; rfl), rfl⟩

/-- What may stand behind a name that ends a text. -/
def endU (b : UInt8) : Bool := blankU b || (decide (b.toNat = 47) || decide (b.toNat = 62))
/-- An end of that name stands at a place. -/
def rawAt (s name : ByteArray) (k : Nat) (h : k + 2 + name.size < s.size) : Bool :=
  decide ((s[k]'(by omega)).toNat = 60) && (decide ((s[k + 1]'(by omega)).toNat = 47) && (((smallS (s.extract (k + 2) (k + 2 + name.size))).toList == (smallS name).toList) && endU (s[k + 2 + name.size]'h)))
/-- The first such place from one on; the text's size where there is none. -/
def rawE (s name : ByteArray) (k : Nat) : Nat :=
  if h : k + 2 + name.size < s.size then if rawAt s name k h then k else rawE s name (k + 1) else s.size
  termination_by s.size - k
theorem rawE_yes {s name : ByteArray} {k : Nat} (h : k + 2 + name.size < s.size) (hr : rawAt s name k h = true) : rawE s name k = k := by
  rw [rawE, dif_pos h, if_pos hr]
theorem rawE_no {s name : ByteArray} {k : Nat} (h : k + 2 + name.size < s.size) (hr : rawAt s name k h = false) : rawE s name k = rawE s name (k + 1) := by
  rw [rawE, dif_pos h, if_neg (by rw [hr]; simp)]
theorem rawE_end {s name : ByteArray} {k : Nat} (h : ¬ k + 2 + name.size < s.size) : rawE s name k = s.size := by
  rw [rawE, dif_neg h]
def rawEndE (s : ByteArray) (p : Int) (name : ByteArray) : Nat := if (s.size : Int) ≤ p then s.size else rawE s name p.toNat

set_option maxHeartbeats 1000000 in
theorem l1Max_any (a b : Int) (w : World) :
    Calls Tryd.prog 61 #[.int .i64 a, .int .i64 b] w fun e w' => e = .returned (.int .i64 (max a b)) ∧ w' = w := by
  by_cases h : a < b
  · have Hn : Hid (max a b = b) := by show _ = _; omega
    have g : ¬ b < a := by omega
    have g1 : ¬ b ≤ a := by omega
    go_enter Tryd.func61, Tryd.ntmps61
    go_wp2
    go_ret
    exact ⟨ret_i64' Hn.out.symm, rfl⟩
  · have Hn : Hid (max a b = a) := by show _ = _; omega
    by_cases h2 : b < a
    · go_enter Tryd.func61, Tryd.ntmps61
      go_wp2
      go_ret
      exact ⟨ret_i64' Hn.out.symm, rfl⟩
    · have he : a = b := by omega
      subst he
      go_enter Tryd.func61, Tryd.ntmps61
      go_wp2
      go_ret
      exact ⟨by first | exact ret_i64' Hn.out.symm | rfl, rfl⟩

set_option maxRecDepth 20000 in
set_option maxHeartbeats 4000000 in
theorem specRawEnd (s : ByteArray) (p : Int) (name : ByteArray) (w : World) (hs : s.size ≤ 17592186044416) (hn : name.size ≤ 17592186044416) :
    Calls Tryd.prog 45 #[.string s, .int .i64 p, .string name] w fun e w' => e = .returned (.int .i64 (rawEndE s p name : Int)) ∧ Below w.heap.size w w' := by
  by_cases h0 : (s.size : Int) ≤ p
  · have Hn : Hid (rawEndE s p name = s.size) := if_pos h0
    go_enter Tryd.func45, Tryd.ntmps45
    go_wp2
    go_ret
    exact ⟨ret_i64' (by rw [Hn.out]), Below.refl _ _⟩
  have Ho : Hid (rawEndE s p name = rawE s name p.toNat) := if_neg h0
  have hi : p.toNat ≤ s.size := by omega
  have Hm : Hid (∀ w : World, Calls Tryd.prog 61 #[.int .i64 p, .int .i64 0] w fun e w' => e = .returned (.int .i64 (p.toNat : Int)) ∧ w' = w) := fun w => by
    have h := l1Max_any p 0 w
    rw [show max p 0 = (p.toNat : Int) by omega] at h
    exact h
  have g0 : ¬ (s.size : Int) ≤ p := h0
  clear h0
  generalize p.toNat = i at *
  have Hs2 : Hid (∀ w : World, Calls Tryd.prog 42 #[.string name] w fun e w' => e = .returned (.string (smallS name)) ∧ Below w.heap.size w w') := fun w => specSmall name w (by omega)
  go_enter Tryd.func45, Tryd.ntmps45
  go_wp2_with fail
  refine (Hm.out _).mono ?_
  rintro e w0 ⟨rfl, rfl⟩
  clear Hm
  go_wp2_with fail
  go_loopw [8] (fun v wr => ∃ k : Nat, k ≤ s.size ∧ v = .int .i64 (k : Int) ∧ Hid (rawE s name i = rawE s name k) ∧ Below w0.heap.size w0 wr) (fun v _ => s.size - (intOf v).toNat)
  case atStart => exact ⟨i, hi, rfl, rfl, Below.refl _ _⟩
  case round =>
    obtain ⟨k, hk, rfl, Hsp, hbel⟩ := hrel
    by_cases hlt : k + 2 + name.size < s.size
    · have hk0 : k < s.size := by omega
      have hk1 : k + 1 < s.size := by omega
      have g1 : (k : Int) + 2 + (name.size : Int) < (s.size : Int) := by omega
      have hra : ∀ b, rawAt s name k hlt = b → (decide ((s[k]'hk0).toNat = 60) && (decide ((s[k + 1]'hk1).toNat = 47) && (((smallS (s.extract (k + 2) (k + 2 + name.size))).toList == (smallS name).toList) && endU (s[k + 2 + name.size]'hlt)))) = b := fun b h => h
      have hro : ∀ b, (decide ((s[k]'hk0).toNat = 60) && (decide ((s[k + 1]'hk1).toNat = 47) && (((smallS (s.extract (k + 2) (k + 2 + name.size))).toList == (smallS name).toList) && endU (s[k + 2 + name.size]'hlt)))) = b → rawAt s name k hlt = b := fun b h => h
      clear hra
      by_cases q60 : (s[k]'hk0).toNat = 60
      case neg =>
        have gq60 : (((s[k]'hk0).toNat : Int) == 60) = false := by simp; omega
        have Hn : Hid (rawE s name i = rawE s name (k + 1)) := Hsp.out.trans (rawE_no hlt (by exact hro _ (by rw [decide_eq_false q60]; rfl)))
        clear Hsp hro q60
        go_wp2
        go_roundw
        case rel => exact ⟨k + 1, by omega, by go_num, Hn, hbel⟩
        case measure => simp [intOf]; omega
      by_cases q47 : (s[k + 1]'hk1).toNat = 47
      case neg =>
        have gq60 : (((s[k]'hk0).toNat : Int) == 60) = true := by simp [q60]
        have gq47 : (((s[k + 1]'hk1).toNat : Int) == 47) = false := by simp; omega
        have g2 : (k : Int) + 1 < (s.size : Int) := by omega
        have Hn : Hid (rawE s name i = rawE s name (k + 1)) := Hsp.out.trans (rawE_no hlt (by exact hro _ (by rw [decide_eq_true q60, decide_eq_false q47]; rfl)))
        clear Hsp hro q60 q47
        go_wp2
        go_roundw
        case rel => exact ⟨k + 1, by omega, by go_num, Hn, hbel⟩
        case measure => simp [intOf]; omega
      have gq60 : (((s[k]'hk0).toNat : Int) == 60) = true := by simp [q60]
      have gq47 : (((s[k + 1]'hk1).toNat : Int) == 47) = true := by simp [q47]
      have g2 : (k : Int) + 1 < (s.size : Int) := by omega
      have g3 : (k : Int) + 2 ≤ (k : Int) + 2 + (name.size : Int) := by omega
      have g4 : (k : Int) + 2 + (name.size : Int) ≤ (s.size : Int) := by omega
      have g5 : ((k : Int) + 2 + (name.size : Int)).toNat = k + 2 + name.size := by omega
      have g6 : ((k : Int) + 2).toNat = k + 2 := by omega
      have Hs1 : Hid (∀ w : World, Calls Tryd.prog 42 #[.string (s.extract (k + 2) (k + 2 + name.size))] w fun e w' => e = .returned (.string (smallS (s.extract (k + 2) (k + 2 + name.size)))) ∧ Below w.heap.size w w') := fun w => specSmall _ w (by simp only [ByteArray.size_extract]; omega)
      have hro2 : ∀ b, (((smallS (s.extract (k + 2) (k + 2 + name.size))).toList == (smallS name).toList) && endU (s[k + 2 + name.size]'hlt)) = b → rawAt s name k hlt = b := fun b h => hro b (by rw [decide_eq_true q60, decide_eq_true q47, Bool.true_and, Bool.true_and]; exact h)
      clear hro q60 q47
      generalize smallS (s.extract (k + 2) (k + 2 + name.size)) = sa at *
      generalize smallS name = sb at *
      cases hq : sa.toList == sb.toList
      · have Hr : Hid (rawAt s name k hlt = false) := hro2 _ (by rw [hq]; rfl)
        have Hn : Hid (rawE s name i = rawE s name (k + 1)) := Hsp.out.trans (rawE_no hlt (by exact Hr.out))
        clear Hsp Hr hro2
        go_wp2_with fail
        refine (Hs1.out _).mono ?_
        rintro e w1 ⟨rfl, b1⟩
        go_wp2_with fail
        refine (Hs2.out _).mono ?_
        rintro e w2 ⟨rfl, b2⟩
        have b12 := hbel.trans ((b1.trans (b2.mono b1.size)).mono hbel.size)
        clear b1 b2 hbel
        go_wp2
        go_roundw
        case rel => exact ⟨k + 1, by omega, by go_num, Hn, b12⟩
        case measure => simp [intOf]; omega
      · have hro3 : ∀ b, endU (s[k + 2 + name.size]'hlt) = b → rawAt s name k hlt = b := fun b h => hro2 b (by rw [hq]; exact h)
        clear hro2
        have hb256 : (s[k + 2 + name.size]'hlt).toNat < 256 := UInt8.toNat_lt _
        cases hbl : blankU (s[k + 2 + name.size]'hlt)
        · by_cases q47 : (s[k + 2 + name.size]'hlt).toNat = 47
          · have Hb : Hid (∀ w : World, Calls Tryd.prog 58 #[.int .u8 ((s[k + 2 + name.size]'hlt).toNat : Int)] w fun e w' => e = .returned (.bool false) ∧ w' = w) := fun w => hbl ▸ specBlankU (s[k + 2 + name.size]'hlt) w
            have gq47 : (((s[k + 2 + name.size]'hlt).toNat : Int) == 47) = true := by simp [q47]
            have Hr : Hid (rawAt s name k hlt = true) := hro3 _ (by unfold endU; rw [hbl, decide_eq_true q47]; rfl)
            have Hn : Hid (rawE s name i = k) := Hsp.out.trans (rawE_yes hlt (by exact Hr.out))
            clear Hsp Hr hro3 hbl q47
            go_wp2_with fail
            refine (Hs1.out _).mono ?_
            rintro e w1 ⟨rfl, b1⟩
            go_wp2_with fail
            refine (Hs2.out _).mono ?_
            rintro e w2 ⟨rfl, b2⟩
            have b12 := hbel.trans ((b1.trans (b2.mono b1.size)).mono hbel.size)
            clear b1 b2 hbel
            go_wp2_with fail
            refine (Hb.out _).mono ?_
            rintro e w3 ⟨rfl, rfl⟩
            go_wp2
            go_ret
            exact ⟨ret_i64' (by rw [Ho.out, Hn.out]), b12⟩
          · by_cases q62 : (s[k + 2 + name.size]'hlt).toNat = 62
            · have Hb : Hid (∀ w : World, Calls Tryd.prog 58 #[.int .u8 ((s[k + 2 + name.size]'hlt).toNat : Int)] w fun e w' => e = .returned (.bool false) ∧ w' = w) := fun w => hbl ▸ specBlankU (s[k + 2 + name.size]'hlt) w
              have gq47 : (((s[k + 2 + name.size]'hlt).toNat : Int) == 47) = false := by simp; omega
              have gq62 : (((s[k + 2 + name.size]'hlt).toNat : Int) == 62) = true := by simp [q62]
              have Hr : Hid (rawAt s name k hlt = true) := hro3 _ (by unfold endU; rw [hbl, decide_eq_false q47, decide_eq_true q62]; rfl)
              have Hn : Hid (rawE s name i = k) := Hsp.out.trans (rawE_yes hlt (by exact Hr.out))
              clear Hsp Hr hro3 hbl q47 q62
              go_wp2_with fail
              refine (Hs1.out _).mono ?_
              rintro e w1 ⟨rfl, b1⟩
              go_wp2_with fail
              refine (Hs2.out _).mono ?_
              rintro e w2 ⟨rfl, b2⟩
              have b12 := hbel.trans ((b1.trans (b2.mono b1.size)).mono hbel.size)
              clear b1 b2 hbel
              go_wp2_with fail
              refine (Hb.out _).mono ?_
              rintro e w3 ⟨rfl, rfl⟩
              go_wp2
              go_ret
              exact ⟨ret_i64' (by rw [Ho.out, Hn.out]), b12⟩
            · have Hb : Hid (∀ w : World, Calls Tryd.prog 58 #[.int .u8 ((s[k + 2 + name.size]'hlt).toNat : Int)] w fun e w' => e = .returned (.bool false) ∧ w' = w) := fun w => hbl ▸ specBlankU (s[k + 2 + name.size]'hlt) w
              have gq47 : (((s[k + 2 + name.size]'hlt).toNat : Int) == 47) = false := by simp; omega
              have gq62 : (((s[k + 2 + name.size]'hlt).toNat : Int) == 62) = false := by simp; omega
              have Hr : Hid (rawAt s name k hlt = false) := hro3 _ (by unfold endU; rw [hbl, decide_eq_false q47, decide_eq_false q62]; rfl)
              have Hn : Hid (rawE s name i = rawE s name (k + 1)) := Hsp.out.trans (rawE_no hlt (by exact Hr.out))
              clear Hsp Hr hro3 hbl q47 q62
              go_wp2_with fail
              refine (Hs1.out _).mono ?_
              rintro e w1 ⟨rfl, b1⟩
              go_wp2_with fail
              refine (Hs2.out _).mono ?_
              rintro e w2 ⟨rfl, b2⟩
              have b12 := hbel.trans ((b1.trans (b2.mono b1.size)).mono hbel.size)
              clear b1 b2 hbel
              go_wp2_with fail
              refine (Hb.out _).mono ?_
              rintro e w3 ⟨rfl, rfl⟩
              go_wp2
              go_roundw
              case rel => exact ⟨k + 1, by omega, by go_num, Hn, b12⟩
              case measure => simp [intOf]; omega
        · have Hb : Hid (∀ w : World, Calls Tryd.prog 58 #[.int .u8 ((s[k + 2 + name.size]'hlt).toNat : Int)] w fun e w' => e = .returned (.bool true) ∧ w' = w) := fun w => hbl ▸ specBlankU (s[k + 2 + name.size]'hlt) w
          have Hr : Hid (rawAt s name k hlt = true) := hro3 _ (by unfold endU; rw [hbl]; rfl)
          have Hn : Hid (rawE s name i = k) := Hsp.out.trans (rawE_yes hlt (by exact Hr.out))
          clear Hsp Hr hro3 hbl
          go_wp2_with fail
          refine (Hs1.out _).mono ?_
          rintro e w1 ⟨rfl, b1⟩
          go_wp2_with fail
          refine (Hs2.out _).mono ?_
          rintro e w2 ⟨rfl, b2⟩
          have b12 := hbel.trans ((b1.trans (b2.mono b1.size)).mono hbel.size)
          clear b1 b2 hbel
          go_wp2_with fail
          refine (Hb.out _).mono ?_
          rintro e w3 ⟨rfl, rfl⟩
          go_wp2
          go_ret
          exact ⟨ret_i64' (by rw [Ho.out, Hn.out]), b12⟩
    · have Hn : Hid (rawE s name i = s.size) := Hsp.out.trans (rawE_end hlt)
      have g1 : decide ((k : Int) + 2 + (name.size : Int) < (s.size : Int)) = false := decide_eq_false (by omega)
      clear Hsp
      go_wp2
      go_ret
      exact ⟨ret_i64' (by rw [Ho.out, Hn.out]), hbel⟩

end Go.Proofs.YtmambbknljgjcaaDoor.Sg
