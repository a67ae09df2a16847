/- Contract of the model's Ref. -/
import Derived.Test.YtlaidaghmhmgbaaDoorRfNumberQ
import Derived.Test.YtlaidaghmhmgbaaDoorRfLongQ
namespace Go.Proofs.YtlaidaghmhmgbaaDoor.Sg
open Go.ChangeShapes Go.WideShapes Go.ChangeAt Go.RowKit

/-- A reference at a place of a text. -/
def refO (s : ByteArray) (p : Int) (value : Bool) : Option (Int × Nat) :=
  if 0 ≤ p ∧ (tailL s p.toNat).head? = some 38 then refR value (tailL s (p.toNat + 1)) else none

theorem refO_low {s : ByteArray} {p : Int} {value : Bool} (h : p < 0) : refO s p value = none := by
  unfold refO
  rw [if_neg (by omega)]
theorem refO_past {s : ByteArray} {i : Nat} {value : Bool} (h : ¬ i < s.size) : refO s (i : Int) value = none := by
  unfold refO
  rw [Int.toNat_natCast, tailL_end s i h, if_neg (by simp)]
theorem refO_other {s : ByteArray} {i : Nat} {value : Bool} (h : i < s.size) (hb : (s[i]'h).toNat ≠ 38) : refO s (i : Int) value = none := by
  unfold refO
  rw [Int.toNat_natCast, tailL_step s i h, if_neg]
  intro e
  apply hb
  have := Option.some.inj e.2
  rw [this]
  rfl
theorem refO_at {s : ByteArray} {i : Nat} {value : Bool} (h : i < s.size) (hb : (s[i]'h).toNat = 38) : refO s (i : Int) value = refR value (tailL s (i + 1)) := by
  unfold refO
  rw [Int.toNat_natCast, tailL_step s i h, if_pos]
  refine ⟨by omega, ?_⟩
  show some _ = some _
  rw [UInt8.toNat_inj.1 (show (s[i]'h).toNat = (38 : UInt8).toNat from hb)]

theorem strB_data (l : List UInt8) : (strB l).data.toList = l := by simp [strB]
theorem strB_ne {l : List UInt8} (h : l ≠ []) : (strB l).toList ≠ [] := by
  rw [ByteArray.toList_eq, strB_data]
  exact h
theorem strB_nil {l : List UInt8} (h : l = []) : (strB l).toList = [] := by
  rw [ByteArray.toList_eq, strB_data]
  exact h

theorem refR_num {value : Bool} {l : List UInt8} (h : l.head? = some 35) : refR value l = numR l := if_pos h
theorem refR_name {value : Bool} {l : List UInt8} (h : l.head? ≠ some 35) : refR value l = nameR value l := if_neg h

theorem nameR_none {value : Bool} {l : List UInt8} (h : longL l = []) : nameR value l = none := if_pos h
theorem nameR_bars {value : Bool} {l : List UInt8} (h : longL l ≠ []) (h1 : value = true) (h2 : barsB (l.drop (longL l).length) = true) : nameR value l = none := by
  unfold nameR
  rw [if_neg h, if_pos ⟨h1, h2⟩]
theorem nameR_some {value : Bool} {l : List UInt8} (h : longL l ≠ []) (h2 : value = false ∨ barsB (l.drop (longL l).length) = false) : nameR value l = some (signG nameT (longL l), endG l (longL l).length) := by
  unfold nameR
  rw [if_neg h, if_neg]
  rintro ⟨a, b⟩
  rcases h2 with h2 | h2
  · rw [h2] at a; cases a
  · rw [h2] at b; cases b

set_option maxRecDepth 20000 in
set_option maxHeartbeats 4000000 in
theorem specRef (s : ByteArray) (p : Int) (value : Bool) (w : World) (hs : s.size ≤ 17592186044416) :
    Calls Tryd.prog 21 #[.string s, .int .i64 p, .bool value] w fun e w' => e = .returned (refV (refO s p value)) ∧ Below w.heap.size w w' := by
  by_cases h0 : p < 0
  · have Hn : Hid (refO s p value = none) := refO_low h0
    go_enter Tryd.func21, Tryd.ntmps21
    go_wp2
    go_ret2
    exact ⟨congrArg (fun x => Ending.returned (refV x)) Hn.out.symm, Below.refl _ _⟩
  obtain ⟨i, rfl⟩ : ∃ i : Nat, p = (i : Int) := ⟨p.toNat, by omega⟩
  clear h0
  by_cases h1 : i < s.size
  case neg =>
    have Hn : Hid (refO s (i : Int) value = none) := refO_past h1
    have g1 : (s.size : Int) ≤ (i : Int) := by omega
    go_enter Tryd.func21, Tryd.ntmps21
    go_wp2
    go_ret2
    exact ⟨congrArg (fun x => Ending.returned (refV x)) Hn.out.symm, Below.refl _ _⟩
  have g1 : ¬ (s.size : Int) ≤ (i : Int) := by omega
  by_cases h38 : (s[i]'h1).toNat = 38
  case neg =>
    have Hn : Hid (refO s (i : Int) value = none) := refO_other h1 h38
    have g2 : (((s[i]'h1).toNat : Int) != 38) = true := by simp; omega
    clear h38
    go_enter Tryd.func21, Tryd.ntmps21
    go_wp2
    go_ret2
    exact ⟨congrArg (fun x => Ending.returned (refV x)) Hn.out.symm, Below.refl _ _⟩
  have g2 : (((s[i]'h1).toNat : Int) != 38) = false := by simp [h38]
  have Ho : Hid (refO s (i : Int) value = refR value (tailL s (i + 1))) := refO_at h1 h38
  clear h38
  by_cases h35 : (tailL s (i + 1)).head? = some 35
  case pos =>
    have h2 : i + 1 < s.size := by
      apply Classical.byContradiction
      intro h
      rw [tailL_end s (i + 1) h] at h35
      cases h35
    have Hn : Hid (refO s (i : Int) value = numR (tailL s (i + 1))) := Ho.out.trans (refR_num h35)
    have g3 : (((s[i + 1]'h2).toNat : Int) == 35) = true := by
      rw [tailL_step s (i + 1) h2] at h35
      rw [Option.some.inj h35]
      rfl
    have g4 : (i : Int) + 1 < (s.size : Int) := by omega
    have Hc : Hid (∀ w : World, Calls Tryd.prog 52 #[.string s, .int .i64 (i : Int)] w fun e w' => e = .returned (refV (numR (tailL s (i + 1)))) ∧ Below w.heap.size w w') := fun w => specNumber s i w h2 h35 hs
    clear h35 Ho
    go_enter Tryd.func21, Tryd.ntmps21
    go_wp2_with fail
    refine (Hc.out _).mono ?_
    rintro e w1 ⟨rfl, b1⟩
    cases hv : numR (tailL s (i + 1)) with
    | none =>
      have Hv : Hid (refO s (i : Int) value = none) := Hn.out.trans hv
      clear hv Hn Hc
      simp only [refV]
      go_wp2
      go_ret2
      exact ⟨congrArg (fun x => Ending.returned (refV x)) Hv.out.symm, b1⟩
    | some q =>
      obtain ⟨z, m⟩ := q
      have Hv : Hid (refO s (i : Int) value = some (z, m)) := Hn.out.trans hv
      clear hv Hn Hc
      simp only [refV]
      go_wp2
      go_ret2
      exact ⟨congrArg (fun x => Ending.returned (refV x)) Hv.out.symm, b1⟩
  have h35' : ∀ h2 : i + 1 < s.size, (((s[i + 1]'h2).toNat : Int) == 35) = false := by
    intro h2
    simp only [beq_eq_false_iff_ne]
    intro e
    apply h35
    rw [tailL_step s (i + 1) h2]
    show some _ = some _
    rw [UInt8.toNat_inj.1 (show (s[i + 1]'h2).toNat = (35 : UInt8).toNat from by have h : (35 : UInt8).toNat = 35 := rfl; omega)]
  have Hn0 : Hid (refO s (i : Int) value = nameR value (tailL s (i + 1))) := Ho.out.trans (refR_name h35)
  have Hc : Hid (∀ w : World, Calls Tryd.prog 53 #[.string s, .int .i64 ((i : Int) + 1)] w fun e w' => e = .returned (.string (strB (longL (tailL s (i + 1))))) ∧ Below w.heap.size w w') := fun w => specLongest s (i + 1) w (by omega) hs
  have hlp := (longL_prefix (tailL s (i + 1))).length_le
  rw [tailL_length] at hlp
  have hdrop := tailL_drop s (i + 1) (longL (tailL s (i + 1))).length
  have hsome : longL (tailL s (i + 1)) ≠ [] → value = false ∨ barsB (tailL s (i + 1 + (longL (tailL s (i + 1))).length)) = false → nameR value (tailL s (i + 1)) = some (signG nameT (longL (tailL s (i + 1))), endG (tailL s (i + 1)) (longL (tailL s (i + 1))).length) := fun h h2 => nameR_some h (by rw [hdrop]; exact h2)
  have Hnone : Hid (longL (tailL s (i + 1)) = [] → nameR value (tailL s (i + 1)) = none) := nameR_none
  have Hbars : Hid (longL (tailL s (i + 1)) ≠ [] → value = true → barsB (tailL s (i + 1 + (longL (tailL s (i + 1))).length)) = true → nameR value (tailL s (i + 1)) = none) := fun h h1 h2 => nameR_bars h h1 (by rw [hdrop]; exact h2)
  have Hyes : Hid (longL (tailL s (i + 1)) ≠ [] → (tailL s (i + 1 + (longL (tailL s (i + 1))).length)).head? = some 59 → nameR value (tailL s (i + 1)) = some (signG nameT (longL (tailL s (i + 1))), (longL (tailL s (i + 1))).length + 1)) := by
    intro h h59
    rw [hsome h (.inr (by
      cases hl : tailL s (i + 1 + (longL (tailL s (i + 1))).length) with
      | nil => rfl
      | cons b l =>
        rw [hl] at h59
        rw [Option.some.inj h59]
        exact barsB_end l)), endG_yes (by rw [hdrop]; exact h59)]
  have Hno : Hid (longL (tailL s (i + 1)) ≠ [] → value = false ∨ barsB (tailL s (i + 1 + (longL (tailL s (i + 1))).length)) = false → (tailL s (i + 1 + (longL (tailL s (i + 1))).length)).head? ≠ some 59 → nameR value (tailL s (i + 1)) = some (signG nameT (longL (tailL s (i + 1))), (longL (tailL s (i + 1))).length)) := by
    intro h h2 h59
    rw [hsome h h2, endG_no (by rw [hdrop]; exact h59)]
  clear hdrop Ho h35 hsome
  generalize longL (tailL s (i + 1)) = x at *
  have hsz := strB_size x
  have Hx0 : Hid (x = [] → (strB x).toList = []) := strB_nil (l := x)
  have Hx1 : Hid (x ≠ [] → (strB x).toList ≠ []) := strB_ne (l := x)
  obtain ⟨sx, Hsx⟩ : ∃ sx, Hid (strB x = sx) := ⟨_, rfl⟩
  rw [Hsx.out] at Hc hsz Hx0 Hx1
  go_enter Tryd.func21, Tryd.ntmps21
  go_upto_region 3 with fail
  go_cut [37] from 26 (fun h wx => h = .bool false ∧ wx = w)
  case first =>
    by_cases h2 : i + 1 < s.size
    · have g3 := h35' h2
      have g4 : (i : Int) + 1 < (s.size : Int) := by omega
      clear h35'
      go_wp2
      go_meet
      case rel => exact ⟨rfl, rfl⟩
    · have g4 : decide ((i : Int) + 1 < (s.size : Int)) = false := decide_eq_false (by omega)
      clear h35'
      go_wp2
      go_meet
      case rel => exact ⟨rfl, rfl⟩
  case rest =>
    obtain ⟨rfl, rfl⟩ := hcut
    clear h35'
    go_wp2_with fail
    refine (Hc.out _).mono ?_
    rintro e w1 ⟨rfl, b1⟩
    by_cases hx : x = []
    · have Hn : Hid (refO s (i : Int) value = none) := Hn0.out.trans (Hnone.out hx)
      have g5 := Hx0.out hx
      clear hx Hn0 Hnone Hbars Hyes Hno Hx0 Hx1
      go_wp2
      go_ret2
      exact ⟨congrArg (fun x => Ending.returned (refV x)) Hn.out.symm, b1⟩
    · have g5 : (sx.toList == []) = false := by simpa using Hx1.out hx
      have g5' : sx.toList.isEmpty = false := by simpa using Hx1.out hx
      clear Hx0 Hx1 Hnone
      have hq : 1 ≤ x.length := List.length_pos_iff.2 hx
      by_cases h3 : i + 1 + x.length < s.size
      · have g6 : (i : Int) + 1 + (x.length : Int) < (s.size : Int) := by omega
        have hst := tailL_step s (i + 1 + x.length) h3
        have Hb : Hid (barsB (tailL s (i + 1 + x.length)) = (decide ((s[i + 1 + x.length]'h3).toNat = 61) || (letterB ((s[i + 1 + x.length]'h3).toNat : Int) || decide (digV (s[i + 1 + x.length]'h3).toNat < 10)))) := by
          show _ = _
          rw [hst]
          rfl
        by_cases h59 : (s[i + 1 + x.length]'h3).toNat = 59
        · have g7 : (((s[i + 1 + x.length]'h3).toNat : Int) == 59) = true := by simp [h59]
          have Hn : Hid (refO s (i : Int) value = some (signG nameT x, x.length + 1)) := Hn0.out.trans (Hyes.out hx (by
            rw [hst]
            show some _ = some _
            rw [UInt8.toNat_inj.1 (show (s[i + 1 + x.length]'h3).toNat = (59 : UInt8).toNat from h59)]))
          clear Hn0 Hbars Hyes Hno hst h59 Hb
          go_wp2_with fail
          refine (specNameSign _ _).mono ?_
          rintro e w2 ⟨rfl, b2⟩
          go_wp2_with fail
          refine (specPutSign _ _).mono ?_
          rintro e w3 ⟨rfl, b3⟩
          have b13 := b1.trans ((b2.trans (b3.mono b2.size)).mono b1.size)
          clear b1 b2 b3
          go_wp2
          go_ret2
          exact ⟨(ret_ref (by rw [← Hsx.out, strB_data]) (by omega)).trans (congrArg (fun x => Ending.returned (refV x)) Hn.out.symm), b13⟩
        · have g7 : (((s[i + 1 + x.length]'h3).toNat : Int) == 59) = false := by simp; omega
          have Hh : Hid ((tailL s (i + 1 + x.length)).head? ≠ some 59) := by
            show _ ≠ _
            rw [hst]
            intro e
            apply h59
            rw [Option.some.inj e]
            rfl
          clear hst h59 Hyes
          cases value
          · have Hn : Hid (refO s (i : Int) false = some (signG nameT x, x.length)) := Hn0.out.trans (Hno.out hx (.inl rfl) Hh.out)
            clear Hn0 Hbars Hno Hh Hb
            go_wp2_with fail
            refine (specNameSign _ _).mono ?_
            rintro e w2 ⟨rfl, b2⟩
            go_wp2_with fail
            refine (specPutSign _ _).mono ?_
            rintro e w3 ⟨rfl, b3⟩
            have b13 := b1.trans ((b2.trans (b3.mono b2.size)).mono b1.size)
            clear b1 b2 b3
            go_wp2
            go_ret2
            exact ⟨(ret_ref (by rw [← Hsx.out, strB_data]) (by omega)).trans (congrArg (fun x => Ending.returned (refV x)) Hn.out.symm), b13⟩
          · by_cases h61 : (s[i + 1 + x.length]'h3).toNat = 61
            · have g8 : (((s[i + 1 + x.length]'h3).toNat : Int) == 61) = true := by simp [h61]
              have Hn : Hid (refO s (i : Int) true = none) := Hn0.out.trans (Hbars.out hx rfl (by rw [Hb.out, decide_eq_true h61]; rfl))
              clear Hn0 Hbars Hno Hh Hb h61
              go_wp2
              go_ret2
              exact ⟨congrArg (fun x => Ending.returned (refV x)) Hn.out.symm, b1⟩
            · have g8 : (((s[i + 1 + x.length]'h3).toNat : Int) == 61) = false := by simp; omega
              have hb256 : (s[i + 1 + x.length]'h3).toNat < 256 := UInt8.toNat_lt _
              cases hlt : letterB ((s[i + 1 + x.length]'h3).toNat : Int)
              · have Hl : Hid (∀ w : World, Calls Tryd.prog 56 #[.int .i64 ((s[i + 1 + x.length]'h3).toNat : Int)] w fun e w' => e = .returned (.bool false) ∧ w' = w) := by
                  intro w
                  have h := specIsLetter ((s[i + 1 + x.length]'h3).toNat : Int) w
                  rw [hlt] at h
                  exact h
                by_cases hdg : digV (s[i + 1 + x.length]'h3).toNat < 10
                · have Hdg : Hid (∀ w : World, Calls Tryd.prog 57 #[.int .u8 ((s[i + 1 + x.length]'h3).toNat : Int), .bool false] w fun e w' => e = .returned (.int .i64 (digV (s[i + 1 + x.length]'h3).toNat : Int)) ∧ w' = w) := by
                    intro w
                    have h := specDigit (s[i + 1 + x.length]'h3).toNat false w (UInt8.toNat_lt _)
                    rw [dig3_pos (base := 10) rfl hdg] at h
                    exact h
                  have Hn : Hid (refO s (i : Int) true = none) := Hn0.out.trans (Hbars.out hx rfl (by rw [Hb.out, decide_eq_false h61, hlt, decide_eq_true hdg]; rfl))
                  clear Hn0 Hbars Hno Hh Hb h61 hlt hdg
                  go_wp2_with fail
                  refine (Hl.out _).mono ?_
                  rintro e w2 ⟨rfl, rfl⟩
                  go_wp2_with fail
                  refine (Hdg.out _).mono ?_
                  rintro e w2 ⟨rfl, rfl⟩
                  go_wp2
                  go_ret2
                  exact ⟨congrArg (fun x => Ending.returned (refV x)) Hn.out.symm, b1⟩
                · have Hdg : Hid (∀ w : World, Calls Tryd.prog 57 #[.int .u8 ((s[i + 1 + x.length]'h3).toNat : Int), .bool false] w fun e w' => e = .returned (.int .i64 (-1)) ∧ w' = w) := by
                    intro w
                    have h := specDigit (s[i + 1 + x.length]'h3).toNat false w (UInt8.toNat_lt _)
                    rw [dig3_neg (base := 10) rfl hdg] at h
                    exact h
                  have Hn : Hid (refO s (i : Int) true = some (signG nameT x, x.length)) := Hn0.out.trans (Hno.out hx (.inr (by rw [Hb.out, decide_eq_false h61, hlt, decide_eq_false hdg]; rfl)) Hh.out)
                  clear Hn0 Hbars Hno Hh Hb h61 hlt hdg
                  go_wp2_with fail
                  refine (Hl.out _).mono ?_
                  rintro e w2 ⟨rfl, rfl⟩
                  go_wp2_with fail
                  refine (Hdg.out _).mono ?_
                  rintro e w2 ⟨rfl, rfl⟩
                  go_wp2_with fail
                  refine (specNameSign _ _).mono ?_
                  rintro e w2 ⟨rfl, b2⟩
                  go_wp2_with fail
                  refine (specPutSign _ _).mono ?_
                  rintro e w3 ⟨rfl, b3⟩
                  have b13 := b1.trans ((b2.trans (b3.mono b2.size)).mono b1.size)
                  clear b1 b2 b3
                  go_wp2
                  go_ret2
                  exact ⟨(ret_ref (by rw [← Hsx.out, strB_data]) (by omega)).trans (congrArg (fun x => Ending.returned (refV x)) Hn.out.symm), b13⟩
              · have Hl : Hid (∀ w : World, Calls Tryd.prog 56 #[.int .i64 ((s[i + 1 + x.length]'h3).toNat : Int)] w fun e w' => e = .returned (.bool true) ∧ w' = w) := by
                  intro w
                  have h := specIsLetter ((s[i + 1 + x.length]'h3).toNat : Int) w
                  rw [hlt] at h
                  exact h
                have Hn : Hid (refO s (i : Int) true = none) := Hn0.out.trans (Hbars.out hx rfl (by rw [Hb.out, hlt]; simp))
                clear Hn0 Hbars Hno Hh Hb h61 hlt
                go_wp2_with fail
                refine (Hl.out _).mono ?_
                rintro e w2 ⟨rfl, rfl⟩
                go_wp2
                go_ret2
                exact ⟨congrArg (fun x => Ending.returned (refV x)) Hn.out.symm, b1⟩
      · have g6 : decide ((i : Int) + 1 + (x.length : Int) < (s.size : Int)) = false := decide_eq_false (by omega)
        have hst := tailL_end s (i + 1 + x.length) h3
        have Hn : Hid (refO s (i : Int) value = some (signG nameT x, x.length)) := Hn0.out.trans (Hno.out hx (.inr (by rw [hst]; rfl)) (by rw [hst]; simp))
        clear Hn0 Hbars Hyes Hno hst
        cases value
        · skip
          go_wp2_with fail
          refine (specNameSign _ _).mono ?_
          rintro e w2 ⟨rfl, b2⟩
          go_wp2_with fail
          refine (specPutSign _ _).mono ?_
          rintro e w3 ⟨rfl, b3⟩
          have b13 := b1.trans ((b2.trans (b3.mono b2.size)).mono b1.size)
          clear b1 b2 b3
          go_wp2
          go_ret2
          exact ⟨(ret_ref (by rw [← Hsx.out, strB_data]) (by omega)).trans (congrArg (fun x => Ending.returned (refV x)) Hn.out.symm), b13⟩
        · skip
          go_wp2_with fail
          refine (specNameSign _ _).mono ?_
          rintro e w2 ⟨rfl, b2⟩
          go_wp2_with fail
          refine (specPutSign _ _).mono ?_
          rintro e w3 ⟨rfl, b3⟩
          have b13 := b1.trans ((b2.trans (b3.mono b2.size)).mono b1.size)
          clear b1 b2 b3
          go_wp2
          go_ret2
          exact ⟨(ret_ref (by rw [← Hsx.out, strB_data]) (by omega)).trans (congrArg (fun x => Ending.returned (refV x)) Hn.out.symm), b13⟩

end Go.Proofs.YtlaidaghmhmgbaaDoor.Sg
