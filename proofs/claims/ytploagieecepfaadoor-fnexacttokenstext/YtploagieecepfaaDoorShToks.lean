/- Contract of the model's TokensText. -/
import Derived.Test.YtploagieecepfaaDoorShTok
import Derived.Test.YtploagieecepfaaDoorLwTo2
namespace Go.Proofs.YtploagieecepfaaDoor.Sg
open Go.ChangeShapes Go.WideShapes Go.ChangeAt Go.RowKit

/-- Words of a page shown, a line each. -/
def toksS : List TokB → ByteArray
  | [] => ⟨#[]⟩
  | t :: l => tokS t ++ ⟨#[10]⟩ ++ toksS l
theorem toksS_drop (l : List TokB) (k : Nat) (h : k < l.length) : toksS (l.drop k) = tokS (l[k]'h) ++ ⟨#[10]⟩ ++ toksS (l.drop (k + 1)) := by
  rw [List.drop_eq_getElem_cons h, toksS]
theorem tokS_size (t : TokB) : (tokS t).size ≤ tokW t + 25 := by
  have h1 := kindS_size t.1 tkNames (by decide)
  have h2 : (strB (shDig t.2.2.1.length)).size ≤ t.2.2.1.length + 1 := by rw [strB_size]; exact shDig_len _
  have h3 : (namedS t.2.1 t.2.2.2.1).size ≤ t.2.1.size + t.2.2.2.1.size := by unfold namedS; split <;> omega
  have u1 : (⟨#[32]⟩ : ByteArray).size = 1 := rfl
  have u2 : (⟨#[32, 61]⟩ : ByteArray).size = 2 := rfl
  have u3 : (if t.2.2.2.2 = true then (⟨#[32, 115, 101, 108, 102]⟩ : ByteArray) else ⟨#[]⟩).size ≤ 5 := by split <;> decide
  unfold tokS tokW attrsW
  simp only [ByteArray.size_append]
  omega
theorem toksS_size : ∀ l : List TokB, (toksS l).size ≤ 26 * toksW l
  | [] => Nat.zero_le _
  | t :: l => by
    have h1 := tokS_size t
    have h2 := toksS_size l
    have u1 : (⟨#[10]⟩ : ByteArray).size = 1 := rfl
    have e : toksW (t :: l) = toksW l + 1 + tokW t := by simp [toksW]; omega
    rw [toksS, e]
    simp only [ByteArray.size_append]
    omega

theorem tokW_in {t : TokB} : ∀ {l : List TokB}, t ∈ l → tokW t ≤ toksW l
  | [], h => nomatch h
  | u :: l, h => by
    have e : toksW (u :: l) = toksW l + 1 + tokW u := by simp [toksW]; omega
    rw [e]
    rcases List.mem_cons.1 h with rfl | h
    · omega
    · have := tokW_in h
      omega

set_option maxRecDepth 20000 in
set_option maxHeartbeats 4000000 in
theorem specTokensText (l : List TokB) (a : Option Addr) (n cap : Nat) (w : World) (ha : ToksAt w a l) (hl : l.length = n) (hw : toksW l ≤ 1048576) :
    Calls Tryd.prog 11 #[.slice a n cap] w fun r w' => r = .returned (.string (toksS l)) ∧ Below w.heap.size w w' := by
  have HA : Hid (ToksAt w a l) := ha
  have Hl : Hid (l.length = n) := hl
  have HW : Hid (∀ t ∈ l, t.2.2.1.length ≤ 1048576 ∧ t.2.1.size ≤ 1048576 ∧ t.2.2.2.1.size ≤ 1048576) := fun t ht => by
    have := tokW_in ht
    unfold tokW attrsW at this
    exact ⟨by omega, by omega, by omega⟩
  have hs := toksS_size l
  have hn : n ≤ 1048576 := by unfold toksW at hw; omega
  obtain ⟨R, HR⟩ : ∃ R, Hid (toksS l = R) := ⟨_, rfl⟩
  rw [HR.out] at hs ⊢
  have hR : R.size ≤ 27262976 := by omega
  have HR0 : Hid ((⟨#[]⟩ : ByteArray) ++ toksS (l.drop 0) = R) := by
    show _ = _
    rw [← HR.out, List.drop_zero]
    exact ByteArray.empty_append
  clear ha hl hw hs HR
  go_enter Tryd.func11, Tryd.ntmps11
  go_wp2_with fail
  go_loopw [3, 4] (fun ov iv wr => ∃ (k : Nat) (o : ByteArray), k ≤ n ∧ iv = .int .i64 (k : Int) ∧ ov = .string o ∧ Hid (o ++ toksS (l.drop k) = R) ∧ Hid (Below w.heap.size w wr)) (fun _ iv _ => n - (intOf iv).toNat)
  case atStart => exact ⟨0, ⟨#[]⟩, Nat.zero_le _, rfl, rfl, HR0, Below.refl _ _⟩
  case round =>
    clear HR0
    obtain ⟨k, o, hk, rfl, rfl, HRk, HB⟩ := hrel
    by_cases hlt : k < n
    · have hkl : k < l.length := by rw [Hl.out]; exact hlt
      rcases HA.out.keep HB.out with h | ⟨b, rfl, _, hc⟩
      · rw [h] at hkl
        exact absurd hkl (Nat.not_lt_zero _)
      obtain ⟨c0, c1, ⟨sv, c2, ⟨aa, ac, rfl, _⟩⟩, c3, c4⟩ := hc k hkl
      obtain ⟨w1, w2, w3⟩ := HW.out _ (List.getElem_mem hkl)
      have hRk := HRk.out
      rw [toksS_drop l k hkl] at hRk
      generalize l[k]'hkl = t at *
      obtain ⟨kd, nm, ats, tx, sf⟩ := t
      simp only at c0 c1 c2 c3 c4 w1 w2 w3
      have HC := specTokenText kd nm tx sf ats.length aa ac wr w1 w2 w3
      have et : tokS (kd, nm, ats, tx, sf) = (((kindS kd tkNames ++ ⟨#[32]⟩) ++ namedS nm tx) ++ ⟨#[32, 61]⟩) ++ strB (shDig ats.length) ++ (if sf then ⟨#[32, 115, 101, 108, 102]⟩ else ⟨#[]⟩) := rfl
      rw [← et] at HC
      generalize tokS (kd, nm, ats, tx, sf) = x at *
      have hRs := congrArg ByteArray.size hRk
      have u1 : (⟨#[10]⟩ : ByteArray).size = 1 := rfl
      simp only [ByteArray.size_append] at hRs
      have HR2 : Hid (o ++ x ++ ⟨#[10]⟩ ++ toksS (l.drop (k + 1)) = R) := by show _ = _; rw [← hRk]; simp only [ByteArray.append_assoc]
      have s1 : ¬ 9223372036854775807 < o.size + x.size := by omega
      have s2 : ¬ 9223372036854775807 < o.size + x.size + 1 := by omega
      have k0 : (0 : Int) ≤ (k : Int) := by omega
      have k1 : (k : Int) < (n : Int) := by omega
      clear hc HRk hRk hRs et w1 w2 w3
      go_wp2_with fail
      refine HC.mono ?_
      rintro r w1 ⟨rfl, b1⟩
      have HB1 : Hid (Below w.heap.size w w1) := HB.out.trans (b1.mono HB.out.size)
      clear HC b1 HB c0 c1 c2 c3 c4
      go_wp2_with fail
      go_roundw
      case rel => exact ⟨k + 1, o ++ x ++ ⟨#[10]⟩, by omega, by go_num, rfl, HR2, HB1⟩
      case measure => simp [intOf]; omega
    · have g1 : decide ((k : Int) < (n : Int)) = false := decide_eq_false (by omega)
      have Hf : Hid (o = R) := by
        have := HRk.out
        rw [List.drop_eq_nil_of_le (by rw [Hl.out]; omega), toksS] at this
        exact (ByteArray.append_empty (b := o)).symm.trans this
      clear HRk
      go_wp2_with fail
      go_ret
      exact ⟨ret_sh Hf.out, HB.out⟩

end Go.Proofs.YtploagieecepfaaDoor.Sg
