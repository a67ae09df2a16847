/- Contract of the model's references by number. -/
import Derived.Test.YtlaidaghmhmgbaaDoorRfRefPQ
import Derived.Test.YtlaidaghmhmgbaaDoorRfDigQ
import Derived.Deep.Cut
import Derived.Deep.CutRange
namespace Go.Proofs.YtlaidaghmhmgbaaDoor.Sg
open Go.ChangeShapes Go.WideShapes Go.ChangeAt Go.RowKit

/-- What a reference tells, as a call hands it back. -/
def refV : Option (Int × Nat) → Value
  | none => .tuple #[.string ⟨#[]⟩, .int .i64 0]
  | some (z, m) => .tuple #[.string (putS z), .int .i64 ((m : Int) + 1)]

theorem ret_ref {x y : ByteArray} {a b : Int} (h : x = y) (h2 : a = b) : Ending.returned (.tuple #[.string x, .int .i64 a]) = .returned (.tuple #[.string y, .int .i64 b]) := by rw [h, h2]

theorem numG_yes (base n m : Nat) (b : UInt8) (l : List UInt8) (h : digV b.toNat < base) : numG base n m (b :: l) = numG base (min (n * base + digV b.toNat) 1114112) (m + 1) l := by
  rw [numG, if_pos h]
theorem numG_no (base n m : Nat) (b : UInt8) (l : List UInt8) (h : ¬ digV b.toNat < base) : numG base n m (b :: l) = (n, m) := by
  rw [numG, if_neg h]

theorem numR_none {l : List UInt8} (h : l.head? = some 35) {n : Nat} (hn : numG (baseG l) 0 0 (l.drop (headG l)) = (n, 0)) : numR l = none := by
  unfold numR
  rw [if_pos h, hn]
  rfl
theorem numR_some {l : List UInt8} (h : l.head? = some 35) {n m : Nat} (hn : numG (baseG l) 0 0 (l.drop (headG l)) = (n, m)) (hm : m ≠ 0) : numR l = some (numB (n : Int), endG l (headG l + m)) := by
  unfold numR
  rw [if_pos h, hn]
  simp [hm]

theorem endG_yes {l : List UInt8} {m : Nat} (h : (l.drop m).head? = some 59) : endG l m = m + 1 := if_pos h
theorem endG_no {l : List UInt8} {m : Nat} (h : (l.drop m).head? ≠ some 59) : endG l m = m := if_neg h

theorem hexG_at (s : ByteArray) (i : Nat) (h : i + 1 < s.size) (h2 : i + 2 < s.size) : hexG (tailL s (i + 1)) = (decide ((s[i + 2]'h2).toNat = 120) || decide ((s[i + 2]'h2).toNat = 88)) := by
  rw [tailL_step s (i + 1) h, tailL_step s (i + 1 + 1) h2]
  show ((s[i + 2]'h2) == 120 || (s[i + 2]'h2) == 88) = _
  have e (b : UInt8) (c : Nat) (hc : c < 256) : (b == UInt8.ofNat c) = decide (b.toNat = c) := by
    by_cases hb : b.toNat = c
    · rw [decide_eq_true hb]
      simp only [beq_iff_eq]
      apply UInt8.toNat_inj.1
      rw [hb, UInt8.toNat_ofNat']
      exact (Nat.mod_eq_of_lt hc).symm
    · rw [decide_eq_false hb]
      simp only [beq_eq_false_iff_ne]
      intro e
      apply hb
      rw [e, UInt8.toNat_ofNat']
      exact Nat.mod_eq_of_lt hc
  rw [show (120 : UInt8) = UInt8.ofNat 120 from rfl, show (88 : UInt8) = UInt8.ofNat 88 from rfl, e _ 120 (by decide), e _ 88 (by decide)]
theorem hexG_end (s : ByteArray) (i : Nat) (h : i + 1 < s.size) (h2 : ¬ i + 2 < s.size) : hexG (tailL s (i + 1)) = false := by
  rw [tailL_step s (i + 1) h, tailL_end s (i + 1 + 1) h2]
  rfl

theorem dig3_pos {hex : Bool} {base b : Nat} (hb : base = if hex then 16 else 10) (h : digV b < base) : dig3 hex b = (digV b : Int) := by
  unfold dig3
  rw [if_pos (hb ▸ h)]
theorem dig3_neg {hex : Bool} {base b : Nat} (hb : base = if hex then 16 else 10) (h : ¬ digV b < base) : dig3 hex b = -1 := by
  unfold dig3
  rw [if_neg (hb ▸ h)]

set_option maxHeartbeats 4000000 in
theorem specNumber (s : ByteArray) (i : Nat) (w : World) (hi : i + 1 < s.size) (h35 : (tailL s (i + 1)).head? = some 35) (hs : s.size ≤ 17592186044416) :
    Calls Tryd.prog 52 #[.string s, .int .i64 (i : Int)] w fun e w' => e = .returned (refV (numR (tailL s (i + 1)))) ∧ Below w.heap.size w w' := by
  have H35 : Hid ((tailL s (i + 1)).head? = some 35) := h35
  clear h35
  go_enter Tryd.func52, Tryd.ntmps52
  go_upto_region 2 with fail
  go_cut [7] from 13 (fun h wx => h = .bool (hexG (tailL s (i + 1))) ∧ wx = w)
  case first =>
    by_cases h2 : i + 2 < s.size
    · have hh := hexG_at s i hi h2
      have hix : (i : Int) + 2 < (s.size : Int) := by omega
      have e2 : ((i : Int) + 2).toNat = i + 2 := by omega
      by_cases hx : (s[i + 2]'h2).toNat = 120
      · have Hh : Hid (hexG (tailL s (i + 1)) = true) := by show _ = _; rw [hh, hx]; rfl
        have g1 : (((s[i + 2]'h2).toNat : Int) == 120) = true := by simp [hx]
        clear hh hx
        go_wp2
        go_meet
        case rel => exact ⟨by rw [Hh.out], rfl⟩
      · by_cases hX : (s[i + 2]'h2).toNat = 88
        · have Hh : Hid (hexG (tailL s (i + 1)) = true) := by show _ = _; rw [hh, hX]; rfl
          have g1 : (((s[i + 2]'h2).toNat : Int) == 120) = false := by simp; omega
          have g2 : (((s[i + 2]'h2).toNat : Int) == 88) = true := by simp [hX]
          clear hh hx hX
          go_wp2
          go_meet
          case rel => exact ⟨by rw [Hh.out], rfl⟩
        · have Hh : Hid (hexG (tailL s (i + 1)) = false) := by show _ = _; rw [hh, decide_eq_false hx, decide_eq_false hX]; rfl
          have g1 : (((s[i + 2]'h2).toNat : Int) == 120) = false := by simp; omega
          have g2 : (((s[i + 2]'h2).toNat : Int) == 88) = false := by simp; omega
          clear hh hx hX
          go_wp2
          go_meet
          case rel => exact ⟨by rw [Hh.out], rfl⟩
    · have hh := hexG_end s i hi h2
      have hix : decide ((i : Int) + 2 < (s.size : Int)) = false := decide_eq_false (by omega)
      go_wp2
      go_meet
      case rel => exact ⟨by rw [hh], rfl⟩
  case rest =>
    obtain ⟨rfl, rfl⟩ := hcut
    have Hhd : Hid (headG (tailL s (i + 1)) = if hexG (tailL s (i + 1)) then 2 else 1) := rfl
    have Hbs : Hid (baseG (tailL s (i + 1)) = if hexG (tailL s (i + 1)) then 16 else 10) := rfl
    generalize hexG (tailL s (i + 1)) = hx at *
    go_upto_if 29 with fail
    go_cut [6, 8] from 13 (fun k b wx => k = .int .i64 ((i + 1 + headG (tailL s (i + 1)) : Nat) : Int) ∧ b = .int .i64 (baseG (tailL s (i + 1)) : Int) ∧ wx = wc)
    case first =>
      cases hx
      · go_wp2
        go_meet
        case rel => exact ⟨by rw [Hhd.out]; rfl, by rw [Hbs.out]; rfl, rfl⟩
      · go_wp2
        go_meet
        case rel => exact ⟨by rw [Hhd.out]; rfl, by rw [Hbs.out]; rfl, rfl⟩
    case rest =>
      obtain ⟨rfl, rfl, rfl⟩ := hcut
      have Hhl : Hid (1 ≤ headG (tailL s (i + 1)) ∧ headG (tailL s (i + 1)) ≤ (tailL s (i + 1)).length) := headG_le _ (by intro e; have h := H35.out; rw [e] at h; cases h)
      have Hd : Hid ((tailL s (i + 1)).drop (headG (tailL s (i + 1))) = tailL s (i + 1 + headG (tailL s (i + 1)))) := tailL_drop _ _ _
      obtain ⟨hd, Hhe⟩ : ∃ hd, Hid (headG (tailL s (i + 1)) = hd) := ⟨_, rfl⟩
      obtain ⟨bs, Hbe⟩ : ∃ bs, Hid (baseG (tailL s (i + 1)) = bs) := ⟨_, rfl⟩
      rw [Hhe.out] at Hhl Hd Hhd
      rw [Hbe.out] at Hbs
      rw [Hhe.out, Hbe.out]
      have hhl : 1 ≤ hd ∧ i + 1 + hd ≤ s.size := by
        have h := Hhl.out
        rw [tailL_length] at h
        omega
      clear Hhl
      go_wp2_with fail
      go_loopw [6, 10] (fun kv nv wr => ∃ m n : Nat, i + 1 + hd + m ≤ s.size ∧ n ≤ 1114112 ∧ kv = .int .i64 ((i + 1 + hd + m : Nat) : Int) ∧ nv = .int .i64 (n : Int) ∧ Hid (numG bs 0 0 (tailL s (i + 1 + hd)) = numG bs n m (tailL s (i + 1 + hd + m))) ∧ wr = wc) (fun kv _ _ => s.size - (intOf kv).toNat)
      case atStart => exact ⟨0, 0, by omega, by omega, rfl, rfl, rfl, rfl⟩
      case round =>
        obtain ⟨m, n, hm, hn, rfl, rfl, Hacc, rfl⟩ := hrel
        by_cases hlt : i + 1 + hd + m < s.size
        · have hst := tailL_step s (i + 1 + hd + m) hlt
          by_cases hdg : digV (s[i + 1 + hd + m]'hlt).toNat < bs
          · cases hx
            · obtain rfl : bs = 10 := Hbs.out
              have Hv : Hid (∀ w : World, Calls Tryd.prog 57 #[.int .u8 ((s[i + 1 + hd + m]'hlt).toNat : Int), .bool false] w fun e w' => e = .returned (.int .i64 (digV (s[i + 1 + hd + m]'hlt).toNat : Int)) ∧ w' = w) := by
                intro w
                have h := specDigit (s[i + 1 + hd + m]'hlt).toNat false w (UInt8.toNat_lt _)
                rw [dig3_pos (base := 10) rfl hdg] at h
                exact h
              have Hn : Hid (numG 10 0 0 (tailL s (i + 1 + hd)) = numG 10 (min (n * 10 + digV (s[i + 1 + hd + m]'hlt).toNat) 1114112) (m + 1) (tailL s (i + 1 + hd + (m + 1)))) := by
                show _ = _
                rw [Hacc.out, hst, numG_yes _ _ _ _ _ hdg]
                rfl
              have hd16 := digV_le (s[i + 1 + hd + m]'hlt).toNat
              generalize digV (s[i + 1 + hd + m]'hlt).toNat = dv at *
              have hmin : min ((n : Int) * 10 + (dv : Int)) 1114112 = ((min (n * 10 + dv) 1114112 : Nat) : Int) := by omega
              clear hst hdg Hacc
              go_wp2_with fail
              refine (Hv.out _).mono ?_
              rintro e w1 ⟨rfl, rfl⟩
              go_wp2_with fail
              refine (Hv.out _).mono ?_
              rintro e w1 ⟨rfl, rfl⟩
              go_wp2_with fail
              refine (l1Min_any _ _ _).mono ?_
              rintro e w1 ⟨rfl, rfl⟩
              go_wp2_with fail
              go_roundw
              case rel =>
                (repeat apply Exists.intro)
                exact ⟨⟨m + 1, _, by omega, by omega, by go_num, rfl, Hn, trivial⟩, rfl⟩
              case measure => simp [intOf]; omega
            · obtain rfl : bs = 16 := Hbs.out
              have Hv : Hid (∀ w : World, Calls Tryd.prog 57 #[.int .u8 ((s[i + 1 + hd + m]'hlt).toNat : Int), .bool true] w fun e w' => e = .returned (.int .i64 (digV (s[i + 1 + hd + m]'hlt).toNat : Int)) ∧ w' = w) := by
                intro w
                have h := specDigit (s[i + 1 + hd + m]'hlt).toNat true w (UInt8.toNat_lt _)
                rw [dig3_pos (base := 16) rfl hdg] at h
                exact h
              have Hn : Hid (numG 16 0 0 (tailL s (i + 1 + hd)) = numG 16 (min (n * 16 + digV (s[i + 1 + hd + m]'hlt).toNat) 1114112) (m + 1) (tailL s (i + 1 + hd + (m + 1)))) := by
                show _ = _
                rw [Hacc.out, hst, numG_yes _ _ _ _ _ hdg]
                rfl
              have hd16 := digV_le (s[i + 1 + hd + m]'hlt).toNat
              generalize digV (s[i + 1 + hd + m]'hlt).toNat = dv at *
              have hmin : min ((n : Int) * 16 + (dv : Int)) 1114112 = ((min (n * 16 + dv) 1114112 : Nat) : Int) := by omega
              clear hst hdg Hacc
              go_wp2_with fail
              refine (Hv.out _).mono ?_
              rintro e w1 ⟨rfl, rfl⟩
              go_wp2_with fail
              refine (Hv.out _).mono ?_
              rintro e w1 ⟨rfl, rfl⟩
              go_wp2_with fail
              refine (l1Min_any _ _ _).mono ?_
              rintro e w1 ⟨rfl, rfl⟩
              go_wp2_with fail
              go_roundw
              case rel =>
                (repeat apply Exists.intro)
                exact ⟨⟨m + 1, _, by omega, by omega, by go_num, rfl, Hn, trivial⟩, rfl⟩
              case measure => simp [intOf]; omega
          · have Hv : Hid (∀ w : World, Calls Tryd.prog 57 #[.int .u8 ((s[i + 1 + hd + m]'hlt).toNat : Int), .bool hx] w fun e w' => e = .returned (.int .i64 (-1)) ∧ w' = w) := by
              intro w
              have h := specDigit (s[i + 1 + hd + m]'hlt).toNat hx w (UInt8.toNat_lt _)
              rw [dig3_neg Hbs.out hdg] at h
              exact h
            have Hg : Hid (numG (baseG (tailL s (i + 1))) 0 0 ((tailL s (i + 1)).drop (headG (tailL s (i + 1)))) = (n, m)) := by
              show _ = _
              rw [Hbe.out, Hhe.out, Hd.out, Hacc.out, hst, numG_no _ _ _ _ _ hdg]
            have Ht : Hid (((tailL s (i + 1)).drop (hd + m)).head? = some (s[i + 1 + hd + m]'hlt)) := by
              show _ = _
              rw [tailL_drop, ← Nat.add_assoc, hst]
              rfl
            clear hst hdg Hacc Hbs Hhd Hd
            by_cases hm0 : m = 0
            · subst hm0
              have Hn : Hid (numR (tailL s (i + 1)) = none) := numR_none H35.out Hg.out
              clear Ht Hg
              go_wp2_with fail
              refine (Hv.out _).mono ?_
              rintro e w1 ⟨rfl, rfl⟩
              go_wp2
              go_ret2
              exact ⟨congrArg (fun x => Ending.returned (refV x)) Hn.out.symm, Below.refl _ _⟩
            · have g0 : (((i + 1 + hd + m : Nat) : Int) == ((i + 1 + hd : Nat) : Int)) = false := by simp; omega
              by_cases h59 : (s[i + 1 + hd + m]'hlt).toNat = 59
              · have g1 : (((s[i + 1 + hd + m]'hlt).toNat : Int) == 59) = true := by simp [h59]
                have Hn : Hid (numR (tailL s (i + 1)) = some (numB (n : Int), hd + m + 1)) := by
                  show _ = _
                  rw [numR_some H35.out Hg.out hm0, Hhe.out, endG_yes (by rw [Ht.out, UInt8.toNat_inj.1 (show (s[i + 1 + hd + m]'hlt).toNat = (59 : UInt8).toNat from h59)])]
                clear h59 Ht Hg
                go_wp2_with fail
                refine (Hv.out _).mono ?_
                rintro e w1 ⟨rfl, rfl⟩
                go_wp2_with fail
                refine (specNumbered _ _).mono ?_
                rintro e w1 ⟨rfl, b1⟩
                go_wp2_with fail
                refine (specPutSign _ _).mono ?_
                rintro e w2 ⟨rfl, b2⟩
                have b12 := b1.trans (b2.mono b1.size)
                clear b1 b2
                go_wp2
                go_ret2
                exact ⟨(ret_ref rfl (by omega)).trans (congrArg (fun x => Ending.returned (refV x)) Hn.out.symm), b12⟩
              · have g1 : (((s[i + 1 + hd + m]'hlt).toNat : Int) == 59) = false := by simp; omega
                have Hn : Hid (numR (tailL s (i + 1)) = some (numB (n : Int), hd + m)) := by
                  show _ = _
                  rw [numR_some H35.out Hg.out hm0, Hhe.out, endG_no (by rw [Ht.out]; intro e; apply h59; rw [Option.some.inj e]; rfl)]
                clear h59 Ht Hg
                go_wp2_with fail
                refine (Hv.out _).mono ?_
                rintro e w1 ⟨rfl, rfl⟩
                go_wp2_with fail
                refine (specNumbered _ _).mono ?_
                rintro e w1 ⟨rfl, b1⟩
                go_wp2_with fail
                refine (specPutSign _ _).mono ?_
                rintro e w2 ⟨rfl, b2⟩
                have b12 := b1.trans (b2.mono b1.size)
                clear b1 b2
                go_wp2
                go_ret2
                exact ⟨(ret_ref rfl (by omega)).trans (congrArg (fun x => Ending.returned (refV x)) Hn.out.symm), b12⟩
        · have hst := tailL_end s (i + 1 + hd + m) hlt
          have Hg : Hid (numG (baseG (tailL s (i + 1))) 0 0 ((tailL s (i + 1)).drop (headG (tailL s (i + 1)))) = (n, m)) := by
            show _ = _
            rw [Hbe.out, Hhe.out, Hd.out, Hacc.out, hst]
            rfl
          have Ht : Hid (((tailL s (i + 1)).drop (hd + m)).head? = none) := by
            show _ = _
            rw [tailL_drop, ← Nat.add_assoc, hst]
            rfl
          have hdl : decide (((i + 1 + hd + m : Nat) : Int) < (s.size : Int)) = false := decide_eq_false (by omega)
          clear hst Hacc Hbs Hhd Hd
          by_cases hm0 : m = 0
          · subst hm0
            have Hn : Hid (numR (tailL s (i + 1)) = none) := numR_none H35.out Hg.out
            clear Ht Hg
            go_wp2
            go_ret2
            exact ⟨congrArg (fun x => Ending.returned (refV x)) Hn.out.symm, Below.refl _ _⟩
          · have g0 : (((i + 1 + hd + m : Nat) : Int) == ((i + 1 + hd : Nat) : Int)) = false := by simp; omega
            have Hn : Hid (numR (tailL s (i + 1)) = some (numB (n : Int), hd + m)) := by
              show _ = _
              rw [numR_some H35.out Hg.out hm0, Hhe.out, endG_no (by rw [Ht.out]; intro e; cases e)]
            clear Ht Hg
            go_wp2_with fail
            refine (specNumbered _ _).mono ?_
            rintro e w1 ⟨rfl, b1⟩
            go_wp2_with fail
            refine (specPutSign _ _).mono ?_
            rintro e w2 ⟨rfl, b2⟩
            have b12 := b1.trans (b2.mono b1.size)
            clear b1 b2
            go_wp2
            go_ret2
            exact ⟨(ret_ref rfl (by omega)).trans (congrArg (fun x => Ending.returned (refV x)) Hn.out.symm), b12⟩

end Go.Proofs.YtlaidaghmhmgbaaDoor.Sg
