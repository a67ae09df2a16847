/- A strict text up to a byte of some, and what is read of it once it is cut there. Plain. No program in it. -/
import Derived.Test.YtbmmghkieolpkaaGreatDoorMR2306
import Derived.Test.YtbmmghkieolpkaaGreatDoorPcRef
namespace Go.Proofs.YtbmmghkieolpkaaGreatDoor.Sg

/-- What may stand there as it is, but for the end of another thing. -/
def psignB (s : ByteArray) (k : Nat) : Bool := textB ((getS s k).1 : Int) && (decide ((getS s k).1 ≠ 13) && (decide ((getS s k).1 ≠ 60) && asRead s k))
/-- A text from a place on to its end. -/
def ptextR (s : ByteArray) (k : Nat) : Option (List UInt8) :=
  if h : k < s.size then
    if (s[k]'h) = 38 then
      match xrefR s k with
      | none => none
      | some (t, j) => if _hj : k < j ∧ j ≤ s.size then (ptextR s j).map (fun r => t.data.toList ++ r) else none
    else if psignB s k then (ptextR s (k + (getS s k).2)).map (fun r => (s.extract k (k + (getS s k).2)).data.toList ++ r)
    else none
  else some []
  termination_by s.size - k
  decreasing_by
    · omega
    · have := getS_many s k (by assumption)
      omega
theorem ptextR_end {s : ByteArray} {k : Nat} (h : ¬ k < s.size) : ptextR s k = some [] := by
  rw [ptextR, dif_neg h]
theorem ptextR_none {s : ByteArray} {k : Nat} (h : k < s.size) (h2 : (s[k]'h) = 38) (h3 : xrefR s k = none) : ptextR s k = none := by
  rw [ptextR, dif_pos h, if_pos h2, h3]
theorem ptextR_ref {s : ByteArray} {k : Nat} {t : ByteArray} {j : Nat} (h : k < s.size) (h2 : (s[k]'h) = 38) (h3 : xrefR s k = some (t, j)) : ptextR s k = (ptextR s j).map (fun r => t.data.toList ++ r) := by
  have hl := xrefR_le h3
  rw [ptextR, dif_pos h, if_pos h2, h3]
  show (if hj : _ then _ else _) = _
  rw [dif_pos ⟨hl.1, hl.2.1⟩]
theorem ptextR_bad {s : ByteArray} {k : Nat} (h : k < s.size) (h2 : ¬ (s[k]'h) = 38) (h3 : psignB s k = false) : ptextR s k = none := by
  rw [ptextR, dif_pos h, if_neg h2, if_neg (by rw [h3]; simp)]
theorem ptextR_sign {s : ByteArray} {k : Nat} (h : k < s.size) (h2 : ¬ (s[k]'h) = 38) (h3 : psignB s k = true) : ptextR s k = (ptextR s (k + (getS s k).2)).map (fun r => (s.extract k (k + (getS s k).2)).data.toList ++ r) := by
  rw [ptextR, dif_pos h, if_neg h2, if_pos h3]

/-- The bytes of what a reference's inside may be. -/
def refByte (b : UInt8) : Bool := b == 35 || digB b || decide (97 ≤ b.toNat ∧ b.toNat ≤ 122)
theorem refSign_bytes {x : List UInt8} {z : Int} (h : refSignL x = some z) : ∀ b ∈ x, refByte b = true := by
  unfold refSignL at h
  split at h
  · rename_i e
    subst e
    decide
  split at h
  · rename_i e
    subst e
    decide
  split at h
  · rename_i e
    subst e
    decide
  split at h
  · rename_i e
    subst e
    decide
  split at h
  · rename_i e
    subst e
    decide
  split at h
  · rename_i e
    cases x with
    | nil => cases e
    | cons a d =>
      have ha : a = 35 := by simpa using e
      subst ha
      unfold numL at h
      split at h
      · rename_i h1
        have hd := numG_full d 0 0 (by rw [show (numG 10 0 0 d).2 = d.length from h1.1]; simp)
        intro b hb
        rcases List.mem_cons.1 hb with e | hb
        · subst e
          rfl
        · unfold refByte
          rw [List.all_eq_true.1 hd b hb]
          simp
      · cases h
  · cases h
/-- Bytes at which a text may end: none of them is a reference's, or part of a longer sign, or of what must not stand there. -/
def EndOk (e : List UInt8) : Prop := ∀ b ∈ e, b = 9 ∨ b = 10 ∨ b = 34 ∨ b = 60
theorem EndOk.no {e : List UInt8} (h : EndOk e) {b : UInt8} (hb : b ∈ e) : refByte b = false ∧ b.toNat < 128 ∧ b ≠ 59 ∧ b ≠ 93 ∧ b ≠ 62 ∧ b ≠ 38 := by
  rcases h b hb with rfl | rfl | rfl | rfl <;> decide

/-- The bytes behind a reference's first one, up to its last one. -/
theorem xref_inner {s : ByteArray} {k j p : Nat} {t : ByteArray} (h : xrefR s k = some (t, j)) (hk : k < s.size) (h38 : s[k]'hk = 38) (h1 : k < p) (h2 : p < j) : refByte (s.get! p) = true ∨ s.get! p = 59 := by
  rw [refP_eq hk h38] at h
  unfold refP at h
  rcases Lib.index_spec (tailL s (k + 1)) [59] with ⟨e1, _⟩ | ⟨i, e1, e2, e3, _⟩
  · rw [if_neg (by omega)] at h
    cases h
  · rw [e1, if_pos (by omega), show ((i : Nat) : Int).toNat = i from rfl] at h
    cases hz : refSignL ((tailL s (k + 1)).take i) with
    | none =>
      rw [hz] at h
      cases h
    | some z =>
      rw [hz] at h
      have hj : k + 2 + i = j := by
        injection h with h
        injection h with _ h
      have hi := (occ_semi _ _).1 e3
      have hil := (List.getElem?_eq_some_iff.1 hi).1
      have hlen := tailL_length s (k + 1)
      have hget : (tailL s (k + 1))[p - (k + 1)]? = some (s.get! p) := by
        have := tail_of_bN (s := s) (k := k + 1) (j := p - (k + 1)) (by omega)
        rw [show k + 1 + (p - (k + 1)) = p by omega] at this
        exact this
      by_cases hp : p - (k + 1) < i
      · refine .inl (refSign_bytes hz _ ?_)
        have h3 : ((tailL s (k + 1)).take i)[p - (k + 1)]? = some (s.get! p) := by rw [List.getElem?_take_of_lt hp]; exact hget
        exact List.mem_of_getElem? h3
      · rw [show p - (k + 1) = i by omega, hi] at hget
        exact .inr (Option.some.inj hget).symm

/-- A text that is cut: what is left of it. -/
theorem cut_tail (s : ByteArray) (q k : Nat) : tailL (s.extract 0 q) k = (tailL s k).take (q - k) := by
  unfold tailL
  rw [Lib.extract_data, List.drop_zero, Nat.sub_zero, List.drop_take]
theorem cut_size (s : ByteArray) (q : Nat) (h : q ≤ s.size) : (s.extract 0 q).size = q := by rw [ByteArray.size_extract]; omega
theorem cut_get {s : ByteArray} {q p : Nat} (h : q ≤ s.size) (hp : p < q) : (s.extract 0 q)[p]'(by rw [cut_size s q h]; exact hp) = s[p]'(by omega) := by
  have e : (s.extract 0 q).data[p]'(by show p < (s.extract 0 q).size; rw [cut_size s q h]; exact hp) = s.data[p]'(by show p < s.size; omega) := by
    simp only [ByteArray.data_extract, Array.getElem_extract, Nat.zero_add]
  exact e
/-- A reference ahead of the first byte of an end is told by what stands ahead of it. -/
theorem ref_cut {s : ByteArray} {e : List UInt8} {k q : Nat} (he : EndOk e) (hk : k < q) (hq : q ≤ s.size) (hend : ∀ h : q < s.size, s[q]'h ∈ e) (h38 : s[k]'(by omega) = 38) : xrefR (s.extract 0 q) k = xrefR s k := by
  have hs' := cut_size s q hq
  have h38' : (s.extract 0 q)[k]'(by rw [hs']; exact hk) = 38 := (cut_get hq hk).trans h38
  rw [refP_eq (by rw [hs']; exact hk) h38', refP_eq (by omega) h38, cut_tail]
  have hlen := tailL_length s (k + 1)
  congr 1
  generalize hl : tailL s (k + 1) = l at *
  have htake : (l.take (q - (k + 1))).length = q - (k + 1) := by rw [List.length_take]; omega
  unfold refP
  rcases Lib.index_spec l [59] with ⟨e1, e2⟩ | ⟨i, e1, e2, e3, e4⟩
  · have e5 : Lib.index (l.take (q - (k + 1))) [59] = -1 := by
      apply Lib.index_none
      intro j hj
      cases hc : Lib.occAt (l.take (q - (k + 1))) [59] j with
      | false => rfl
      | true =>
        have h1 := (occ_semi _ _).1 hc
        have h2 := (List.getElem?_eq_some_iff.1 h1).1
        have h3 : l[j]? = some 59 := by rw [List.getElem?_take_of_lt (by omega)] at h1; exact h1
        have h4 := (occ_semi l j).2 h3
        rw [e2 j (by omega)] at h4
        cases h4
    rw [e1, e5]
    rfl
  · have h59 := (occ_semi l i).1 e3
    have hil := (List.getElem?_eq_some_iff.1 h59).1
    by_cases hi : i < q - (k + 1)
    · have e5 : Lib.index (l.take (q - (k + 1))) [59] = i := by
        refine Lib.index_first (by omega) ((occ_semi _ _).2 ?_) ?_
        · rw [List.getElem?_take_of_lt hi]
          exact h59
        · intro j hj
          cases hc : Lib.occAt (l.take (q - (k + 1))) [59] j with
          | false => rfl
          | true =>
            have h1 := (occ_semi _ _).1 hc
            have h3 : l[j]? = some 59 := by rw [List.getElem?_take_of_lt (by omega)] at h1; exact h1
            have h4 := (occ_semi l j).2 h3
            rw [e4 j hj] at h4
            cases h4
      rw [e1, e5, if_pos (by omega), if_pos (by omega), List.take_take, show min ((i : Nat) : Int).toNat (q - (k + 1)) = i by omega]
      rfl
    · have e5 : Lib.index (l.take (q - (k + 1))) [59] = -1 := by
        apply Lib.index_none
        intro j hj
        cases hc : Lib.occAt (l.take (q - (k + 1))) [59] j with
        | false => rfl
        | true =>
          have h1 := (occ_semi _ _).1 hc
          have h2 := (List.getElem?_eq_some_iff.1 h1).1
          have h3 : l[j]? = some 59 := by rw [List.getElem?_take_of_lt (by omega)] at h1; exact h1
          have h4 := (occ_semi l j).2 h3
          rw [e4 j (by omega)] at h4
          cases h4
      rw [e1, e5, if_neg (by omega), if_pos (by omega), show ((i : Nat) : Int).toNat = i from rfl]
      cases hz : refSignL (l.take i) with
      | none => rfl
      | some z =>
        exfalso
        have hqs : q < s.size := by omega
        have hb := hend hqs
        have hne := he.no hb
        have hgq : l[q - (k + 1)]? = some (s[q]'hqs) := by
          have := tail_of_bN (s := s) (k := k + 1) (j := q - (k + 1)) (by omega)
          rw [hl, show k + 1 + (q - (k + 1)) = q by omega] at this
          rw [this]
          congr 1
          simp [ByteArray.get!, ByteArray.getElem_eq_getElem_data, ByteArray.size_data, hqs]
        by_cases heq : q - (k + 1) = i
        · rw [heq, h59] at hgq
          exact hne.2.2.1 (Option.some.inj hgq).symm
        · have h3 : (l.take i)[q - (k + 1)]? = some (s[q]'hqs) := by rw [List.getElem?_take_of_lt (by omega)]; exact hgq
          have := refSign_bytes hz _ (List.mem_of_getElem? h3)
          rw [hne.1] at this
          cases this

end Go.Proofs.YtbmmghkieolpkaaGreatDoor.Sg
