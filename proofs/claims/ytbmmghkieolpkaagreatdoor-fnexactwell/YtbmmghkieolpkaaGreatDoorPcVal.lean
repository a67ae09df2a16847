/- A value up to a byte 34, without a byte 9 or 10: in the model's words and in the program's. Plain. -/
import Derived.Test.YtbmmghkieolpkaaGreatDoorMW206
namespace Go.Proofs.YtbmmghkieolpkaaGreatDoor.Sg

theorem xtext_stop (s : ByteArray) (e : List UInt8) : ∀ (d k : Nat) (r : List UInt8 × Nat), s.size - k ≤ d → k ≤ s.size → xtextR s e k = some r → ∀ h : r.2 < s.size, e.contains (s[r.2]'h) = true := by
  intro d
  induction d with
  | zero =>
    intro k r hd hk h
    rw [xtextR_end (by omega)] at h
    cases h
    intro h
    exact absurd h (by simp only; omega)
  | succ d ih =>
    intro k r hd hk h
    by_cases hlt : k < s.size
    · cases h1 : e.contains (s[k]'hlt)
      · by_cases h2 : (s[k]'hlt) = 38
        · cases h3 : xrefR s k with
          | none =>
            rw [xtextR_none hlt h1 h2 h3] at h
            cases h
          | some tj =>
            obtain ⟨t, j⟩ := tj
            rw [xtextR_ref hlt h1 h2 h3] at h
            have hl := xrefR_le h3
            cases hx : xtextR s e j with
            | none =>
              rw [hx] at h
              cases h
            | some q =>
              rw [hx] at h
              cases h
              exact ih j q (by omega) hl.2.1 hx
        · cases h3 : xsignB s k
          · rw [xtextR_bad hlt h1 h2 h3] at h
            cases h
          · rw [xtextR_sign hlt h1 h2 h3] at h
            have hm := getS_many s k hlt
            cases hx : xtextR s e (k + (getS s k).2) with
            | none =>
              rw [hx] at h
              cases h
            | some q =>
              rw [hx] at h
              cases h
              exact ih _ q (by omega) (by omega) hx
      · rw [xtextR_stop hlt h1] at h
        cases h
        exact fun _ => h1
    · rw [xtextR_end hlt] at h
      cases h
      intro h
      exact absurd h hlt
theorem val_one {b : UInt8} (h : List.contains [34, 9, 10] b = false) : List.contains [34] b = false ∧ b ≠ 9 ∧ b ≠ 10 := by
  simp only [List.contains_cons, List.contains_nil, Bool.or_false, Bool.or_eq_false_iff, beq_eq_false_iff_ne] at h ⊢
  exact ⟨h.1, h.2.1, h.2.2⟩
theorem val_two {b : UInt8} (h : List.contains [34] b = false) (h9 : b ≠ 9) (h10 : b ≠ 10) : List.contains [34, 9, 10] b = false := by
  simp only [List.contains_cons, List.contains_nil, Bool.or_false, Bool.or_eq_false_iff, beq_eq_false_iff_ne] at h ⊢
  exact ⟨h, h9, h10⟩
theorem inner_no {b : UInt8} (h : refByte b = true ∨ b = 59) : b ≠ 9 ∧ b ≠ 10 := by
  refine ⟨?_, ?_⟩
  · rintro rfl
    exact absurd h (by decide)
  · rintro rfl
    exact absurd h (by decide)
theorem high_no {b : UInt8} (h : 128 ≤ b.toNat) : b ≠ 9 ∧ b ≠ 10 := by
  refine ⟨?_, ?_⟩
  · rintro rfl
    exact absurd h (by decide)
  · rintro rfl
    exact absurd h (by decide)
theorem xsign_read {s : ByteArray} {k : Nat} (h : xsignB s k = true) : asRead s k = true := by
  rw [xsign_split] at h
  unfold psignB at h
  simp only [Bool.and_eq_true] at h
  exact h.1.2.2.2

theorem val_to (s : ByteArray) : ∀ (d k : Nat) (r : List UInt8 × Nat), s.size - k ≤ d → k ≤ s.size → xtextR s [34, 9, 10] k = some r → (∀ h : r.2 < s.size, s[r.2]'h = 34) → r.2 < s.size → xtextR s [34] k = some r ∧ ∀ j, k ≤ j → j < r.2 → s.get! j ≠ 9 ∧ s.get! j ≠ 10 := by
  intro d
  induction d with
  | zero =>
    intro k r hd hk h _ hq
    rw [xtextR_end (by omega)] at h
    cases h
    exact absurd hq (by simp only; omega)
  | succ d ih =>
    intro k r hd hk h h34 hq
    by_cases hlt : k < s.size
    · cases h1 : List.contains [34, 9, 10] (s[k]'hlt)
      · obtain ⟨h1', h9, h10⟩ := val_one h1
        by_cases h2 : (s[k]'hlt) = 38
        · cases h3 : xrefR s k with
          | none =>
            rw [xtextR_none hlt h1 h2 h3] at h
            cases h
          | some tj =>
            obtain ⟨t, j⟩ := tj
            rw [xtextR_ref hlt h1 h2 h3] at h
            have hl := xrefR_le h3
            cases hx : xtextR s [34, 9, 10] j with
            | none =>
              rw [hx] at h
              cases h
            | some q =>
              rw [hx] at h
              cases h
              have hi := ih j q (by omega) hl.2.1 hx h34 hq
              refine ⟨by rw [xtextR_ref hlt h1' h2 h3, hi.1]; rfl, fun p hp1 hp2 => ?_⟩
              by_cases hpk : p = k
              · subst hpk
                rw [get_bang hlt]
                exact ⟨h9, h10⟩
              · by_cases hpj : p < j
                · exact inner_no (xref_inner h3 hlt h2 (by omega) hpj)
                · exact hi.2 p (by omega) hp2
        · cases h3 : xsignB s k
          · rw [xtextR_bad hlt h1 h2 h3] at h
            cases h
          · rw [xtextR_sign hlt h1 h2 h3] at h
            have hm := getS_many s k hlt
            cases hx : xtextR s [34, 9, 10] (k + (getS s k).2) with
            | none =>
              rw [hx] at h
              cases h
            | some q =>
              rw [hx] at h
              cases h
              have hi := ih _ q (by omega) (by omega) hx h34 hq
              refine ⟨by rw [xtextR_sign hlt h1' h2 h3, hi.1]; rfl, fun p hp1 hp2 => ?_⟩
              by_cases hpk : p = k
              · subst hpk
                rw [get_bang hlt]
                exact ⟨h9, h10⟩
              · by_cases hpj : p < k + (getS s k).2
                · exact high_no (read_high hlt (xsign_read h3) (by omega) hpj)
                · exact hi.2 p (by omega) hp2
      · rw [xtextR_stop hlt h1] at h
        cases h
        refine ⟨xtextR_stop hlt ?_, fun j h1 h2 => ?_⟩
        · rw [h34 hlt]
          rfl
        · simp only at h2
          omega
    · rw [xtextR_end hlt] at h
      cases h
      exact absurd hq hlt
theorem val_from (s : ByteArray) : ∀ (d k : Nat) (r : List UInt8 × Nat), s.size - k ≤ d → k ≤ s.size → xtextR s [34] k = some r → (∀ j, k ≤ j → j < r.2 → s.get! j ≠ 9 ∧ s.get! j ≠ 10) → r.2 < s.size → xtextR s [34, 9, 10] k = some r := by
  intro d
  induction d with
  | zero =>
    intro k r hd hk h _ hq
    rw [xtextR_end (by omega)] at h
    cases h
    exact absurd hq (by simp only; omega)
  | succ d ih =>
    intro k r hd hk h hno hq
    by_cases hlt : k < s.size
    · have hle := xtextR_le s [34] s.size k r (by omega) hk h
      cases h1 : List.contains [34] (s[k]'hlt)
      · by_cases h2 : (s[k]'hlt) = 38
        · cases h3 : xrefR s k with
          | none =>
            rw [xtextR_none hlt h1 h2 h3] at h
            cases h
          | some tj =>
            obtain ⟨t, j⟩ := tj
            rw [xtextR_ref hlt h1 h2 h3] at h
            have hl := xrefR_le h3
            cases hx : xtextR s [34] j with
            | none =>
              rw [hx] at h
              cases h
            | some q =>
              rw [hx] at h
              cases h
              have hq2 := xtextR_le s [34] s.size j q (by omega) hl.2.1 hx
              have hk9 := hno k (Nat.le_refl _) (by simp only; omega)
              rw [get_bang hlt] at hk9
              have hi := ih j q (by omega) hl.2.1 hx (fun p h1 h2 => hno p (by omega) h2) hq
              rw [xtextR_ref hlt (val_two h1 hk9.1 hk9.2) h2 h3, hi]
              rfl
        · cases h3 : xsignB s k
          · rw [xtextR_bad hlt h1 h2 h3] at h
            cases h
          · rw [xtextR_sign hlt h1 h2 h3] at h
            have hm := getS_many s k hlt
            cases hx : xtextR s [34] (k + (getS s k).2) with
            | none =>
              rw [hx] at h
              cases h
            | some q =>
              rw [hx] at h
              cases h
              have hq2 := xtextR_le s [34] s.size _ q (by omega) (by omega) hx
              have hk9 := hno k (Nat.le_refl _) (by simp only; omega)
              rw [get_bang hlt] at hk9
              have hi := ih _ q (by omega) (by omega) hx (fun p h1 h2 => hno p (by omega) h2) hq
              rw [xtextR_sign hlt (val_two h1 hk9.1 hk9.2) h2 h3, hi]
              rfl
      · rw [xtextR_stop hlt h1] at h
        cases h
        refine xtextR_stop hlt ?_
        simp only [List.contains_cons, List.contains_nil, Bool.or_false] at h1 ⊢
        rw [h1]
        rfl
    · rw [xtextR_end hlt] at h
      cases h
      exact absurd hq hlt
theorem raw_no {s : ByteArray} {k m : Nat} (hm : m ≤ s.size) (b : UInt8) : (s.extract k m).data.toList.contains b = false ↔ ∀ j, k ≤ j → j < m → s.get! j ≠ b := by
  rw [Bool.eq_false_iff, ne_eq, List.contains_iff_mem, Lib.extract_data]
  constructor
  · intro h j h1 h2 e
    apply h
    have h3 := tail_of_bN (s := s) (k := k) (j := j - k) (by omega)
    rw [show k + (j - k) = j by omega, e] at h3
    have h4 : ((tailL s k).take (m - k))[j - k]? = some b := by rw [List.getElem?_take_of_lt (by omega)]; exact h3
    exact List.mem_of_getElem? h4
  · intro h hmem
    obtain ⟨i, hi, e⟩ := List.getElem_of_mem hmem
    rw [List.length_take, List.length_drop] at hi
    have hi2 : k + i < s.size := by
      have : s.data.toList.length = s.size := Array.length_toList
      omega
    have h3 := tail_of_bN (s := s) (k := k) (j := i) hi2
    have h4 : (tailL s k)[i]? = some b := by
      rw [← e, List.getElem_take]
      exact List.getElem?_eq_getElem _
    rw [h4] at h3
    exact h (k + i) (by omega) (by omega) (Option.some.inj h3).symm

/-- A value, and the place of the byte 34 behind it. -/
def valP (s : ByteArray) (k : Nat) : Option (List UInt8 × Nat) :=
  match xtextR s [34, 9, 10] k with
  | none => none
  | some r => if Lib.hasPrefix (tailL s r.2) [34] then some r else none
theorem quote_tail {s : ByteArray} {q : Nat} : Lib.hasPrefix (tailL s q) [34] = true ↔ ∃ h : q < s.size, s[q]'h = 34 := by
  unfold Lib.hasPrefix
  by_cases h : q < s.size
  · rw [tailL_step s q h]
    simp only [List.isPrefixOf, Bool.and_true, beq_iff_eq]
    exact ⟨fun e => ⟨h, e.symm⟩, fun ⟨_, e⟩ => e.symm⟩
  · rw [tailL_end s q h]
    simp [List.isPrefixOf, h]
theorem valP_eq {s : ByteArray} {k : Nat} (hk : k ≤ s.size) : (match xtextR s [34] k with
    | none => none
    | some r => if ¬ r.2 < s.size ∨ ((s.extract k r.2).data.toList.contains 9 || (s.extract k r.2).data.toList.contains 10) = true then none else some r) = valP s k := by
  unfold valP
  cases hx : xtextR s [34, 9, 10] k with
  | some r =>
    by_cases hp : Lib.hasPrefix (tailL s r.2) [34] = true
    · obtain ⟨h, e⟩ := quote_tail.1 hp
      have hv := val_to s s.size k r (by omega) hk hx (fun _ => e) h
      have hno9 := (raw_no (s := s) (k := k) (m := r.2) (by omega) 9).2 fun j h1 h2 => (hv.2 j h1 h2).1
      have hno10 := (raw_no (s := s) (k := k) (m := r.2) (by omega) 10).2 fun j h1 h2 => (hv.2 j h1 h2).2
      rw [hv.1]
      simp only
      rw [if_pos hp, if_neg]
      rintro (h2 | h2)
      · exact h2 h
      · rw [hno9, hno10] at h2
        cases h2
    · cases hy : xtextR s [34] k with
      | none =>
        simp only
        rw [if_neg hp]
      | some r2 =>
        simp only
        rw [if_neg hp]
        split
        · rfl
        · rename_i hc
          exfalso
          have hm : r2.2 < s.size := Classical.byContradiction fun h => hc (.inl h)
          have hb : ((s.extract k r2.2).data.toList.contains 9 || (s.extract k r2.2).data.toList.contains 10) = false := by
            cases h : ((s.extract k r2.2).data.toList.contains 9 || (s.extract k r2.2).data.toList.contains 10) with
            | false => rfl
            | true => exact absurd (.inr h) hc
          rw [Bool.or_eq_false_iff] at hb
          have h9 := (raw_no (s := s) (k := k) (m := r2.2) (by omega) 9).1 hb.1
          have h10 := (raw_no (s := s) (k := k) (m := r2.2) (by omega) 10).1 hb.2
          have hf := val_from s s.size k r2 (by omega) hk hy (fun j h1 h2 => ⟨h9 j h1 h2, h10 j h1 h2⟩) hm
          rw [hx] at hf
          cases hf
          have h34 := xtext_stop s [34] s.size k r (by omega) hk hy hm
          apply hp
          refine quote_tail.2 ⟨hm, ?_⟩
          simpa using h34
  | none =>
    cases hy : xtextR s [34] k with
    | none => rfl
    | some r2 =>
      simp only
      split
      · rfl
      · rename_i hc
        exfalso
        have hm : r2.2 < s.size := Classical.byContradiction fun h => hc (.inl h)
        have hb : ((s.extract k r2.2).data.toList.contains 9 || (s.extract k r2.2).data.toList.contains 10) = false := by
          cases h : ((s.extract k r2.2).data.toList.contains 9 || (s.extract k r2.2).data.toList.contains 10) with
          | false => rfl
          | true => exact absurd (.inr h) hc
        rw [Bool.or_eq_false_iff] at hb
        have h9 := (raw_no (s := s) (k := k) (m := r2.2) (by omega) 9).1 hb.1
        have h10 := (raw_no (s := s) (k := k) (m := r2.2) (by omega) 10).1 hb.2
        have hf := val_from s s.size k r2 (by omega) hk hy (fun j h1 h2 => ⟨h9 j h1 h2, h10 j h1 h2⟩) hm
        rw [hx] at hf
        cases hf
/-- An attribute, in the program's words. -/
theorem xattr_prog {s : ByteArray} {k : Nat} (hk : k ≤ s.size) : xattrR s k = if xnameE s true k = k ∨ standsB s (xnameE s true k) eqB = false then none else (valP s (xnameE s true k + 2)).map fun r => (xnameE s true k, r.1, r.2) := by
  have hle := xnameE_le s s.size k true (by omega) hk
  unfold xattrR
  simp only
  generalize xnameE s true k = n at *
  by_cases h : n = k ∨ standsB s n eqB = false
  · rw [if_pos h, if_pos h]
  · rw [if_neg h, if_neg h]
    have hst : standsB s n eqB = true := by
      cases hc : standsB s n eqB with
      | true => rfl
      | false => exact absurd (.inr hc) h
    have h2 : n + 2 ≤ s.size := stands_le hst
    rw [← valP_eq h2]
    cases xtextR s [34] (n + 2) with
    | none => rfl
    | some r =>
      obtain ⟨v, m⟩ := r
      simp only
      split <;> rfl

end Go.Proofs.YtbmmghkieolpkaaGreatDoor.Sg
