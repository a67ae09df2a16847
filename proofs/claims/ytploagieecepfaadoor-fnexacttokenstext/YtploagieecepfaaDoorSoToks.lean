/- Contract of the program's TokensText. -/
import Derived.Test.YtploagieecepfaaDoorSoTokP
namespace Go.Proofs.YtploagieecepfaaDoor.Sg
open Go.ChangeShapes Go.WideShapes Go.ChangeAt Go.RowKit

set_option maxRecDepth 20000 in
set_option maxHeartbeats 8000000 in
theorem implTokensText (l : List TokB) (a : Option Addr) (n cap : Nat) (w : World) (ha : ToksAt w a l) (hl : l.length = n) (hT : TabT w) (hw : toksW l ≤ 1048576) :
    Calls Tryd.prog 13 #[.slice a n cap] w fun r w' => r = .returned (.string (toksS l)) ∧ Below w.heap.size w w' := by
  have HA : Hid (ToksAt w a l) := ha
  have Hl : Hid (l.length = n) := hl
  have HW : Hid (∀ t ∈ l, tokW t ≤ 1048576) := fun t ht => by
    have := tokW_in ht
    omega
  have hs := toksS_size l
  have hn : n ≤ 1048576 := by unfold toksW at hw; omega
  obtain ⟨R, HR⟩ : ∃ R, Hid (toksS l = R) := ⟨_, rfl⟩
  rw [HR.out] at hs ⊢
  have hR : R.size ≤ 27262976 := by omega
  have HR0 : Hid (([] : List UInt8) ++ (toksS (l.drop 0)).data.toList = R.data.toList) := by
    show _ = _
    rw [← HR.out, List.drop_zero]
    rfl
  have bN := (Below.refl w.heap.size w).alloc (Nat.le_refl _) (.cells #[.pointer none, .slice none 0 0, .string ⟨#[]⟩, .string ⟨#[]⟩, .string ⟨#[]⟩, .string ⟨#[]⟩, .string ⟨#[]⟩, .string ⟨#[]⟩] 52)
  have HS0 : Hid (ShB w.heap.size w.heap.size [] noLine (w.alloc (.cells #[.pointer none, .slice none 0 0, .string ⟨#[]⟩, .string ⟨#[]⟩, .string ⟨#[]⟩, .string ⟨#[]⟩, .string ⟨#[]⟩, .string ⟨#[]⟩] 52))) := shown_new w
  have HT2 : Hid (TabB w.heap.size w) := Lib.tabBelow_of_tabIs hT
  have HK0 : Hid (Below w.heap.size w (w.alloc (.cells #[.pointer none, .slice none 0 0, .string ⟨#[]⟩, .string ⟨#[]⟩, .string ⟨#[]⟩, .string ⟨#[]⟩, .string ⟨#[]⟩, .string ⟨#[]⟩] 52))) := bN
  clear ha hl hw hs HR hT bN
  go_enter Tryd.func13, Tryd.ntmps13
  go_wp2_with fail
  generalize w.alloc (.cells #[.pointer none, .slice none 0 0, .string ⟨#[]⟩, .string ⟨#[]⟩, .string ⟨#[]⟩, .string ⟨#[]⟩, .string ⟨#[]⟩, .string ⟨#[]⟩] 52) = W0 at *
  go_loopw [5, 8] (fun _ iv wr => ∃ (k : Nat) (acc : List UInt8), k ≤ n ∧ iv = .int .i64 (k : Int) ∧ Hid (acc ++ (toksS (l.drop k)).data.toList = R.data.toList) ∧ Hid (ShB w.heap.size w.heap.size acc noLine wr) ∧ Hid (Below w.heap.size w wr)) (fun _ iv _ => n - (intOf iv).toNat)
  case atStart => exact ⟨0, [], Nat.zero_le _, rfl, HR0, HS0, HK0⟩
  case round =>
    clear HR0 HS0 HK0
    obtain ⟨k, acc, hk, rfl, HRk, HS, HB⟩ := hrel
    have hBr : w.heap.size ≤ wr.heap.size := HB.out.size
    by_cases hlt : k < n
    · have hkl : k < l.length := by rw [Hl.out]; exact hlt
      rcases HA.out.keep HB.out with h | ⟨b, rfl, _, hc⟩
      · rw [h] at hkl
        exact absurd hkl (Nat.not_lt_zero _)
      obtain ⟨c0, c1, ⟨sv, c2, ⟨aa, ac, rfl, _⟩⟩, c3, c4⟩ := hc k hkl
      have hw1 := HW.out _ (List.getElem_mem hkl)
      have hRk := HRk.out
      rw [toksS_drop l k hkl] at hRk
      generalize l[k]'hkl = t at *
      obtain ⟨kd, nm, ats, tx, sf⟩ := t
      simp only at c0 c1 c2 c3 c4
      have hts := tokS_size (kd, nm, ats, tx, sf)
      unfold tokW attrsW at hw1
      simp only at hw1
      have hnn : ats.length ≤ 1048576 := by omega
      have hv : (namedS nm tx).size ≤ nm.size + tx.size := by unfold namedS; split <;> omega
      have hd := digI_size ats.length (by omega)
      have Hln := word_line kd nm ats tx sf ⟨#[10]⟩
      rw [app_dat, app_dat, List.append_assoc] at hRk
      have HR2 : Hid ((acc ++ catB [⟨#[]⟩, kindS kd tkNames, ⟨#[32]⟩ ++ namedS nm tx, ⟨#[32, 61]⟩ ++ digI ats.length, if sf then ⟨#[32, 115, 101, 108, 102]⟩ else ⟨#[]⟩, ⟨#[10]⟩]) ++ (toksS (l.drop (k + 1))).data.toList = R.data.toList) := by
        show _ = _
        rw [Hln, ← hRk]
        simp only [List.append_assoc]
      have hlen := congrArg List.length HR2.out
      have hRl : R.data.toList.length = R.size := Array.length_toList
      rw [hRl, List.length_append, List.length_append] at hlen
      have bE := (Below.refl wr.heap.size wr).alloc (Nat.le_refl _) (.cells #[.int .i64 kd, .string nm, .slice aa ats.length ac, .string tx, .bool sf] 29)
      have HS1 := HS.out.below bE
      have HB1 : Hid (Below w.heap.size w (wr.alloc (.cells #[.int .i64 kd, .string nm, .slice aa ats.length ac, .string tx, .bool sf] 29))) := HB.out.trans (bE.mono hBr)
      have HP := implPutWord w.heap.size w.heap.size acc ⟨#[]⟩ ⟨#[]⟩ ⟨#[]⟩ ⟨#[]⟩ ⟨#[]⟩ ⟨#[]⟩ kd nm aa ats.length ac tx sf _ HS1 HB1.out.size (Lib.TabBelow.on HT2.out HB1.out) (by omega) (by omega) (by omega)
      have k0 : (0 : Int) ≤ (k : Int) := by omega
      have k1 : (k : Int) < (n : Int) := by omega
      clear hc HRk hRk Hln HS HS1 bE hts
      go_wp2_with fail
      refine HP.mono ?_
      rintro r w1 ⟨rfl, hs1, hk1⟩
      have HB2 : Hid (Below w.heap.size w w1) := HB1.out.trans hk1.bel
      have HE := implEnd w.heap.size w.heap.size acc _ _ _ _ _ _ w1 hs1 HB2.out.size (by omega)
      clear HP hs1 hk1 HB1 HB c0 c1 c2 c3 c4
      go_wp2_with fail
      refine HE.mono ?_
      rintro r w2 ⟨rfl, hs2, hk2⟩
      have HB3 : Hid (Below w.heap.size w w2) := HB2.out.trans hk2.bel
      have HS2 : Hid (ShB w.heap.size w.heap.size _ noLine w2) := hs2
      clear HE hs2 hk2 HB2
      go_wp2_with fail
      go_roundw
      case rel => exact ⟨k + 1, _, by omega, by go_num, HR2, HS2, HB3⟩
      case measure => simp [intOf]; omega
    · have g1 : decide ((k : Int) < (n : Int)) = false := decide_eq_false (by omega)
      have Hf : Hid (R.data.toList = acc) := by
        have := HRk.out
        rw [List.drop_eq_nil_of_le (by rw [Hl.out]; omega), toksS, show (⟨#[]⟩ : ByteArray).data.toList = [] from rfl, List.append_nil] at this
        exact this.symm
      have HF := headString w.heap.size w.heap.size acc _ wr HS.out hBr
      rw [of_dat Hf.out] at HF
      clear HRk HS
      go_wp2_with fail
      refine HF.mono ?_
      rintro e w5 ⟨rfl, hb5⟩
      have HA5 : Hid (Below w.heap.size w w5) := HB.out.trans hb5
      clear HF hb5
      go_wp2_with fail
      go_ret
      exact ⟨rfl, HA5.out⟩

end Go.Proofs.YtploagieecepfaaDoor.Sg
