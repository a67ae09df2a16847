/- Contract of the model's WordsOf. -/
import Derived.Test.YtploagieecepfaaElTo
namespace Go.Proofs.Ytploagieecepfaa.Sg
open Go.ChangeShapes Go.WideShapes Go.ChangeAt Go.RowKit

mutual
/-- The texts in an element, and in elements, one behind the other. -/
def wordsE : ElB → ByteArray
  | .mk kd _ _ _ tx ks => (if kd = 2 then tx else ⟨#[]⟩) ++ wordsL ks
def wordsL : List ElB → ByteArray
  | [] => ⟨#[]⟩
  | e :: es => wordsE e ++ wordsL es
end
theorem wordsL_drop : ∀ (es : List ElB) (k : Nat) (h : k < es.length), wordsL (es.drop k) = wordsE (es[k]'h) ++ wordsL (es.drop (k + 1))
  | [], k, h => absurd h (by simp)
  | e :: es, 0, _ => by simp [wordsL]
  | e :: es, k + 1, h => by
    have := wordsL_drop es k (by simpa using h)
    simpa using this
mutual
theorem wordsE_le : ∀ e : ElB, (wordsE e).size ≤ elW e
  | .mk kd sp nm ats tx ks => by
    have := wordsL_le ks
    unfold wordsE elW
    rw [ByteArray.size_append]
    split
    · omega
    · have : (⟨#[]⟩ : ByteArray).size = 0 := rfl
      omega
theorem wordsL_le : ∀ es : List ElB, (wordsL es).size ≤ es.length + elsW es
  | [] => Nat.zero_le _
  | e :: es => by
    have := wordsE_le e
    have := wordsL_le es
    unfold wordsL elsW
    rw [ByteArray.size_append, List.length_cons]
    omega
end
theorem eb_app (t : ByteArray) : (⟨#[]⟩ : ByteArray) ++ t = t := ByteArray.empty_append
theorem app_eb (t : ByteArray) : t ++ (⟨#[]⟩ : ByteArray) = t := ByteArray.append_empty
theorem ret_wd {a b : ByteArray} (h : a = b) : Ending.returned (.string a) = .returned (.string b) := by rw [h]

/-- The contract at a list of elements. -/
def SpWords (l : List ElB) : Prop := ∀ (lo : Nat) (a : Option Addr) (n cap : Nat) (w : World), KidsIn (QA lo) (lo ≤ ·) w a l → l.length = n → ElsLight l → (wordsL l).size ≤ 1099511627776 → n ≤ 1099511627776 → Calls Try.prog 6 #[.slice a n cap] w fun r w' => r = .returned (.string (wordsL l)) ∧ w' = w
def SpWordsE : ElB → Prop
  | .mk _ _ _ _ _ ks => SpWords ks

set_option maxRecDepth 20000 in
set_option maxHeartbeats 4000000 in
theorem words_of (l : List ElB) (hA : ∀ e ∈ l, SpWordsE e) : SpWords l := by
  intro lo a n cap w hk hl hlt hs hn
  have HLt : Hid (ElsLight l) := hlt
  have HK : Hid (KidsIn (QA lo) (lo ≤ ·) w a l) := hk
  have HA : Hid (∀ e ∈ l, SpWordsE e) := hA
  have Hl : Hid (l.length = n) := hl
  obtain ⟨R, HR⟩ : ∃ R, Hid (wordsL l = R) := ⟨_, rfl⟩
  have HR0 : Hid ((⟨#[]⟩ : ByteArray) ++ wordsL (l.drop 0) = R) := by
    show _ = _
    rw [← HR.out, List.drop_zero, eb_app]
  rw [HR.out] at hs ⊢
  clear hk hA hl HR hlt
  go_enter Try.func6, Try.ntmps6
  go_wp2_with fail
  go_loopw [3, 4] (fun ov iv wr => ∃ (k : Nat) (o : ByteArray), k ≤ n ∧ iv = .int .i64 (k : Int) ∧ ov = .string o ∧ Hid (o ++ wordsL (l.drop k) = R) ∧ wr = w) (fun _ iv _ => n - (intOf iv).toNat)
  case atStart => exact ⟨0, ⟨#[]⟩, Nat.zero_le _, rfl, rfl, HR0, rfl⟩
  case round =>
    clear HR0
    obtain ⟨k, o, hk, rfl, rfl, HRk, rfl⟩ := hrel
    by_cases hlt : k < n
    · have hkl : k < l.length := by rw [Hl.out]; exact hlt
      rcases HK.out with h | ⟨b, off, rfl, _, hc⟩
      · omega
      obtain ⟨v0, v1, v2, v3, v4, v5, c0, c1, c2, c3, c4, c5, hV⟩ := (hc.get k hkl).cells
      have hE := HA.out _ (List.getElem_mem hkl)
      have hLt := HLt.out.get _ (List.getElem_mem hkl)
      have hRk := HRk.out
      rw [wordsL_drop l k hkl] at hRk
      generalize l[k]'hkl = e at *
      obtain ⟨kd, sp, nm, ats, tx, ks⟩ := e
      obtain ⟨av, ka, kc, ev, _, hkk⟩ := hV
      cases ev
      obtain ⟨_, hL1, hL2⟩ := hLt
      unfold wordsE at hRk
      have hRs := congrArg ByteArray.size hRk
      simp only [ByteArray.size_append] at hRs
      have HC := hE lo ka ks.length kc _ hkk rfl hL2 (by omega) hL1
      generalize wordsL ks = t at *
      have k0 : (0 : Int) ≤ (k : Int) := by omega
      have k1 : (k : Int) < (n : Int) := by omega
      clear hc hkk HRk hE hL1 hL2
      by_cases hkd : kd = 2
      · subst hkd
        rw [if_pos rfl] at hRk hRs
        have HR2 : Hid (o ++ tx ++ t ++ wordsL (l.drop (k + 1)) = R) := by show _ = _; rw [← hRk]; simp only [ByteArray.append_assoc]
        have s1 : ¬ 9223372036854775807 < o.size + tx.size := by omega
        have s2 : ¬ 9223372036854775807 < (o ++ tx).size + t.size := by rw [ByteArray.size_append]; omega
        have g2 : ((2 : Int) == 2) = true := by decide
        clear hRk hRs
        go_wp2_with fail
        refine HC.mono ?_
        rintro r wr ⟨rfl, rfl⟩
        go_wp2_with fail
        go_roundw
        case rel => exact ⟨k + 1, o ++ tx ++ t, by omega, by go_num, rfl, HR2, by first | trivial | rfl⟩
        case measure => simp [intOf]; omega
      · rw [if_neg hkd, eb_app] at hRk
        rw [if_neg hkd] at hRs
        have HR2 : Hid (o ++ t ++ wordsL (l.drop (k + 1)) = R) := by show _ = _; rw [← hRk]; simp only [ByteArray.append_assoc]
        have s1 : ¬ 9223372036854775807 < o.size + t.size := by omega
        have g2 : (kd == 2) = false := by simp [hkd]
        clear hRk hRs
        go_wp2_with fail
        refine HC.mono ?_
        rintro r wr ⟨rfl, rfl⟩
        go_wp2_with fail
        go_roundw
        case rel => exact ⟨k + 1, o ++ t, by omega, by go_num, rfl, HR2, by first | trivial | rfl⟩
        case measure => simp [intOf]; omega
    · have hkn : k = n := by omega
      have g1 : decide ((k : Int) < (n : Int)) = false := decide_eq_false (by omega)
      have Hf : Hid (o = R) := by
        have := HRk.out
        rw [List.drop_eq_nil_of_le (by rw [Hl.out]; omega), wordsL, app_eb] at this
        exact this
      clear HRk
      go_wp2_with fail
      go_ret
      exact ⟨ret_wd Hf.out, rfl⟩

mutual
theorem words_kids : ∀ e : ElB, SpWordsE e
  | .mk _ _ _ _ _ ks => words_of ks (words_all ks)
theorem words_all : ∀ es : List ElB, ∀ e ∈ es, SpWordsE e
  | [], _, h => nomatch h
  | x :: xs, e, h => (List.mem_cons.1 h).elim (fun he => he ▸ words_kids x) (fun hm => words_all xs e hm)
end
theorem specWordsOf (l : List ElB) : SpWords l := words_of l (words_all l)

end Go.Proofs.Ytploagieecepfaa.Sg
