/- A strict text up to a byte of some, and what is read of it once it is cut there. Plain. No program in it. A strict text up to a byte of some is what is read of it once it is cut there. Plain. No program in it. Contracts of the model's loops over bytes. Contracts of the program's isOne, past and upTo. What the program reads of a text up to a byte of some, in the model's words. Plain. Contracts of Numbered, of the program and of the model: both answer the same plain number. What a reference tells, in plain lists of bytes. Contracts of what a digit counts, and of the smaller of two numbers. Contract of the model's references by number. -/
import Derived.Test.YthipdkagkdnaiaaGreatDoorPcRead
import Derived.Test.YthipdkagkdnaiaaGreatDoorPcRef
import Derived.Test.YthipdkagkdnaiaaGreatDoorMRD03
import Derived.Test.YthipdkagkdnaiaaGreatDoorSgOk
import Derived.Test.YthipdkagkdnaiaaGreatDoorShelf
import Derived.Lib.LaidTab
import Derived.Test.YthipdkagkdnaiaaGreatDoorMRD06
import Derived.Deep.Cut
import Derived.Deep.CutRange
namespace Go.Proofs.YthipdkagkdnaiaaGreatDoor.Sg

/-- What may stand there as it is, but for the end of another thing. -/
def psignB (s : ByteArray) (k : Nat) : Bool := textB ((getS s k).1 : Int) && (decide ((getS s k).1 ≠ 13) && (decide ((getS s k).1 ≠ 60) && asRead s k))
/-- A text from a place on to its end. -/
def ptextR (s : ByteArray) (k : Nat) : Option (List UInt8) :=
  if h : k < s.size then
    if (s[k]'h) = 38 then
      match xrefR s k with
      | none => none
      | some (t, j) => if _hj : k < j ∧ j ≤ s.size then (ptextR s j).map (fun r => t.data.toList ++ r) else none
    else if psignB s k then (ptextR s (k + (getS s k).2)).map (fun r => (s.extract k (k + (getS s k).2)).data.toList ++ r)
    else none
  else some []
  termination_by s.size - k
  decreasing_by
    · omega
    · have := getS_many s k (by assumption)
      omega
theorem ptextR_end {s : ByteArray} {k : Nat} (h : ¬ k < s.size) : ptextR s k = some [] := by
  rw [ptextR, dif_neg h]
theorem ptextR_none {s : ByteArray} {k : Nat} (h : k < s.size) (h2 : (s[k]'h) = 38) (h3 : xrefR s k = none) : ptextR s k = none := by
  rw [ptextR, dif_pos h, if_pos h2, h3]
theorem ptextR_ref {s : ByteArray} {k : Nat} {t : ByteArray} {j : Nat} (h : k < s.size) (h2 : (s[k]'h) = 38) (h3 : xrefR s k = some (t, j)) : ptextR s k = (ptextR s j).map (fun r => t.data.toList ++ r) := by
  have hl := xrefR_le h3
  rw [ptextR, dif_pos h, if_pos h2, h3]
  show (if hj : _ then _ else _) = _
  rw [dif_pos ⟨hl.1, hl.2.1⟩]
theorem ptextR_bad {s : ByteArray} {k : Nat} (h : k < s.size) (h2 : ¬ (s[k]'h) = 38) (h3 : psignB s k = false) : ptextR s k = none := by
  rw [ptextR, dif_pos h, if_neg h2, if_neg (by rw [h3]; simp)]
theorem ptextR_sign {s : ByteArray} {k : Nat} (h : k < s.size) (h2 : ¬ (s[k]'h) = 38) (h3 : psignB s k = true) : ptextR s k = (ptextR s (k + (getS s k).2)).map (fun r => (s.extract k (k + (getS s k).2)).data.toList ++ r) := by
  rw [ptextR, dif_pos h, if_neg h2, if_pos h3]

/-- The bytes of what a reference's inside may be. -/
def refByte (b : UInt8) : Bool := b == 35 || digB b || decide (97 ≤ b.toNat ∧ b.toNat ≤ 122)
theorem refSign_bytes {x : List UInt8} {z : Int} (h : refSignL x = some z) : ∀ b ∈ x, refByte b = true := by
  unfold refSignL at h
  split at h
  · rename_i e
    subst e
    decide
  split at h
  · rename_i e
    subst e
    decide
  split at h
  · rename_i e
    subst e
    decide
  split at h
  · rename_i e
    subst e
    decide
  split at h
  · rename_i e
    subst e
    decide
  split at h
  · rename_i e
    cases x with
    | nil => cases e
    | cons a d =>
      have ha : a = 35 := by simpa using e
      subst ha
      unfold numL at h
      split at h
      · rename_i h1
        have hd := numG_full d 0 0 (by rw [show (numG 10 0 0 d).2 = d.length from h1.1]; simp)
        intro b hb
        rcases List.mem_cons.1 hb with e | hb
        · subst e
          rfl
        · unfold refByte
          rw [List.all_eq_true.1 hd b hb]
          simp
      · cases h
  · cases h
/-- Bytes at which a text may end: none of them is a reference's, or part of a longer sign, or of what must not stand there. -/
def EndOk (e : List UInt8) : Prop := ∀ b ∈ e, b = 9 ∨ b = 10 ∨ b = 34 ∨ b = 60
theorem EndOk.no {e : List UInt8} (h : EndOk e) {b : UInt8} (hb : b ∈ e) : refByte b = false ∧ b.toNat < 128 ∧ b ≠ 59 ∧ b ≠ 93 ∧ b ≠ 62 ∧ b ≠ 38 := by
  rcases h b hb with rfl | rfl | rfl | rfl <;> decide

/-- The bytes behind a reference's first one, up to its last one. -/
theorem xref_inner {s : ByteArray} {k j p : Nat} {t : ByteArray} (h : xrefR s k = some (t, j)) (hk : k < s.size) (h38 : s[k]'hk = 38) (h1 : k < p) (h2 : p < j) : refByte (s.get! p) = true ∨ s.get! p = 59 := by
  rw [refP_eq hk h38] at h
  unfold refP at h
  rcases Lib.index_spec (tailL s (k + 1)) [59] with ⟨e1, _⟩ | ⟨i, e1, e2, e3, _⟩
  · rw [if_neg (by omega)] at h
    cases h
  · rw [e1, if_pos (by omega), show ((i : Nat) : Int).toNat = i from rfl] at h
    cases hz : refSignL ((tailL s (k + 1)).take i) with
    | none =>
      rw [hz] at h
      cases h
    | some z =>
      rw [hz] at h
      have hj : k + 2 + i = j := by
        injection h with h
        injection h with _ h
      have hi := (occ_semi _ _).1 e3
      have hil := (List.getElem?_eq_some_iff.1 hi).1
      have hlen := tailL_length s (k + 1)
      have hget : (tailL s (k + 1))[p - (k + 1)]? = some (s.get! p) := by
        have := tail_of_bN (s := s) (k := k + 1) (j := p - (k + 1)) (by omega)
        rw [show k + 1 + (p - (k + 1)) = p by omega] at this
        exact this
      by_cases hp : p - (k + 1) < i
      · refine .inl (refSign_bytes hz _ ?_)
        have h3 : ((tailL s (k + 1)).take i)[p - (k + 1)]? = some (s.get! p) := by rw [List.getElem?_take_of_lt hp]; exact hget
        exact List.mem_of_getElem? h3
      · rw [show p - (k + 1) = i by omega, hi] at hget
        exact .inr (Option.some.inj hget).symm

/-- A text that is cut: what is left of it. -/
theorem cut_tail (s : ByteArray) (q k : Nat) : tailL (s.extract 0 q) k = (tailL s k).take (q - k) := by
  unfold tailL
  rw [Lib.extract_data, List.drop_zero, Nat.sub_zero, List.drop_take]
theorem cut_size (s : ByteArray) (q : Nat) (h : q ≤ s.size) : (s.extract 0 q).size = q := by rw [ByteArray.size_extract]; omega
theorem cut_get {s : ByteArray} {q p : Nat} (h : q ≤ s.size) (hp : p < q) : (s.extract 0 q)[p]'(by rw [cut_size s q h]; exact hp) = s[p]'(by omega) := by
  have e : (s.extract 0 q).data[p]'(by show p < (s.extract 0 q).size; rw [cut_size s q h]; exact hp) = s.data[p]'(by show p < s.size; omega) := by
    simp only [ByteArray.data_extract, Array.getElem_extract, Nat.zero_add]
  exact e
/-- A reference ahead of the first byte of an end is told by what stands ahead of it. -/
theorem ref_cut {s : ByteArray} {e : List UInt8} {k q : Nat} (he : EndOk e) (hk : k < q) (hq : q ≤ s.size) (hend : ∀ h : q < s.size, s[q]'h ∈ e) (h38 : s[k]'(by omega) = 38) : xrefR (s.extract 0 q) k = xrefR s k := by
  have hs' := cut_size s q hq
  have h38' : (s.extract 0 q)[k]'(by rw [hs']; exact hk) = 38 := (cut_get hq hk).trans h38
  rw [refP_eq (by rw [hs']; exact hk) h38', refP_eq (by omega) h38, cut_tail]
  have hlen := tailL_length s (k + 1)
  congr 1
  generalize hl : tailL s (k + 1) = l at *
  have htake : (l.take (q - (k + 1))).length = q - (k + 1) := by rw [List.length_take]; omega
  unfold refP
  rcases Lib.index_spec l [59] with ⟨e1, e2⟩ | ⟨i, e1, e2, e3, e4⟩
  · have e5 : Lib.index (l.take (q - (k + 1))) [59] = -1 := by
      apply Lib.index_none
      intro j hj
      cases hc : Lib.occAt (l.take (q - (k + 1))) [59] j with
      | false => rfl
      | true =>
        have h1 := (occ_semi _ _).1 hc
        have h2 := (List.getElem?_eq_some_iff.1 h1).1
        have h3 : l[j]? = some 59 := by rw [List.getElem?_take_of_lt (by omega)] at h1; exact h1
        have h4 := (occ_semi l j).2 h3
        rw [e2 j (by omega)] at h4
        cases h4
    rw [e1, e5]
    rfl
  · have h59 := (occ_semi l i).1 e3
    have hil := (List.getElem?_eq_some_iff.1 h59).1
    by_cases hi : i < q - (k + 1)
    · have e5 : Lib.index (l.take (q - (k + 1))) [59] = i := by
        refine Lib.index_first (by omega) ((occ_semi _ _).2 ?_) ?_
        · rw [List.getElem?_take_of_lt hi]
          exact h59
        · intro j hj
          cases hc : Lib.occAt (l.take (q - (k + 1))) [59] j with
          | false => rfl
          | true =>
            have h1 := (occ_semi _ _).1 hc
            have h3 : l[j]? = some 59 := by rw [List.getElem?_take_of_lt (by omega)] at h1; exact h1
            have h4 := (occ_semi l j).2 h3
            rw [e4 j hj] at h4
            cases h4
      rw [e1, e5, if_pos (by omega), if_pos (by omega), List.take_take, show min ((i : Nat) : Int).toNat (q - (k + 1)) = i by omega]
      rfl
    · have e5 : Lib.index (l.take (q - (k + 1))) [59] = -1 := by
        apply Lib.index_none
        intro j hj
        cases hc : Lib.occAt (l.take (q - (k + 1))) [59] j with
        | false => rfl
        | true =>
          have h1 := (occ_semi _ _).1 hc
          have h2 := (List.getElem?_eq_some_iff.1 h1).1
          have h3 : l[j]? = some 59 := by rw [List.getElem?_take_of_lt (by omega)] at h1; exact h1
          have h4 := (occ_semi l j).2 h3
          rw [e4 j (by omega)] at h4
          cases h4
      rw [e1, e5, if_neg (by omega), if_pos (by omega), show ((i : Nat) : Int).toNat = i from rfl]
      cases hz : refSignL (l.take i) with
      | none => rfl
      | some z =>
        exfalso
        have hqs : q < s.size := by omega
        have hb := hend hqs
        have hne := he.no hb
        have hgq : l[q - (k + 1)]? = some (s[q]'hqs) := by
          have := tail_of_bN (s := s) (k := k + 1) (j := q - (k + 1)) (by omega)
          rw [hl, show k + 1 + (q - (k + 1)) = q by omega] at this
          rw [this]
          congr 1
          simp [ByteArray.get!, ByteArray.getElem_eq_getElem_data, ByteArray.size_data, hqs]
        by_cases heq : q - (k + 1) = i
        · rw [heq, h59] at hgq
          exact hne.2.2.1 (Option.some.inj hgq).symm
        · have h3 : (l.take i)[q - (k + 1)]? = some (s[q]'hqs) := by rw [List.getElem?_take_of_lt (by omega)]; exact hgq
          have := refSign_bytes hz _ (List.mem_of_getElem? h3)
          rw [hne.1] at this
          cases this

end Go.Proofs.YthipdkagkdnaiaaGreatDoor.Sg

namespace Go.Proofs.YthipdkagkdnaiaaGreatDoor.Sg

theorem ptail_all (s : ByteArray) (k : Nat) (hk : k ≤ s.size) : s = strB (s.data.toList.take k ++ tailL s k) ∧ (s.data.toList.take k).length = k := by
  have hl : s.data.toList.length = s.size := Array.length_toList
  refine ⟨?_, by rw [List.length_take]; omega⟩
  unfold tailL strB
  rw [List.take_append_drop]
/-- What is written as it is read is some sign's bytes. -/
theorem read_put {s : ByteArray} {k : Nat} (hk : k < s.size) (hr : asRead s k = true) : ∃ (z : Int) (post : List UInt8), okB z = true ∧ tailL s k = (putS z).data.toList ++ post ∧ getS s k = (z.toNat, (putS z).size) := by
  have hm := getS_many s k hk
  unfold asRead at hr
  rw [ByteArray.toList_eq, ByteArray.toList_eq, beq_iff_eq, Lib.extract_data] at hr
  have hlen := tailL_length s k
  refine ⟨fix ((getS s k).1 : Int), (tailL s k).drop (getS s k).2, fix_ok _, ?_, ?_⟩
  · rw [putS_fix, hr]
    show tailL s k = (tailL s k).take (k + (getS s k).2 - k) ++ _
    rw [show k + (getS s k).2 - k = (getS s k).2 by omega, List.take_append_drop]
  · have ht : tailL s k = (putS (fix ((getS s k).1 : Int))).data.toList ++ (tailL s k).drop (getS s k).2 := by
      rw [putS_fix, hr]
      show tailL s k = (tailL s k).take (k + (getS s k).2 - k) ++ _
      rw [show k + (getS s k).2 - k = (getS s k).2 by omega, List.take_append_drop]
    obtain ⟨e, hl⟩ := ptail_all s k (by omega)
    have hg := getS_put (fix ((getS s k).1 : Int)) (fix_ok _) (s.data.toList.take k) ((tailL s k).drop (getS s k).2)
    rw [← ht, hl] at hg
    have e2 : (⟨(s.data.toList.take k ++ tailL s k).toArray⟩ : ByteArray) = s := e.symm
    rw [e2] at hg
    exact hg
theorem put_asRead {s : ByteArray} {k : Nat} {z : Int} {post : List UInt8} (hk : k < s.size) (hz : okB z = true) (ht : tailL s k = (putS z).data.toList ++ post) : asRead s k = true ∧ getS s k = (z.toNat, (putS z).size) := by
  obtain ⟨e, hl⟩ := ptail_all s k (by omega)
  have hg := getS_put z hz (s.data.toList.take k) post
  rw [← ht, hl] at hg
  have e2 : (⟨(s.data.toList.take k ++ tailL s k).toArray⟩ : ByteArray) = s := e.symm
  rw [e2] at hg
  refine ⟨?_, hg⟩
  have hzn : ((z.toNat : Nat) : Int) = z := by have := okB_of hz; omega
  have hlen : (putS z).data.toList.length = (putS z).size := Array.length_toList
  unfold asRead
  rw [hg, ByteArray.toList_eq, ByteArray.toList_eq, beq_iff_eq, Lib.extract_data]
  show (putS ((z.toNat : Nat) : Int)).data.toList = (tailL s k).take (k + (putS z).size - k)
  rw [hzn, ht, show k + (putS z).size - k = (putS z).data.toList.length by omega, List.take_left]
/-- Behind a sign's first byte there are none below 128. -/
theorem read_high {s : ByteArray} {k j : Nat} (hk : k < s.size) (hr : asRead s k = true) (h1 : k < j) (h2 : j < k + (getS s k).2) : 128 ≤ (s.get! j).toNat := by
  obtain ⟨z, post, hz, ht, hg⟩ := read_put hk hr
  have hm := getS_many s k hk
  rw [hg] at h2 hm
  have hlen : (putS z).data.toList.length = (putS z).size := Array.length_toList
  have h0 := (okB_of hz).1
  have h128 : 128 ≤ z := by
    apply Classical.byContradiction
    intro h
    rw [putS_one h0 (by omega)] at hlen
    simp at hlen
    simp only at h2
    omega
  have hget := tail_of_bN (s := s) (k := k) (j := j - k) (by simp only at hm h2; omega)
  rw [show k + (j - k) = j by omega, ht, List.getElem?_append_left (by simp only at h2; omega)] at hget
  exact putS_high hz h128 _ (List.mem_of_getElem? hget)
theorem get_bang {s : ByteArray} {k : Nat} (h : k < s.size) : s.get! k = s[k]'h := by
  simp [ByteArray.get!, ByteArray.getElem_eq_getElem_data, ByteArray.size_data, h]
/-- A sign ahead of the first byte of an end. -/
theorem sign_in {s : ByteArray} {e : List UInt8} {k q : Nat} (he : EndOk e) (hk : k < q) (hq : q ≤ s.size) (hend : ∀ h : q < s.size, s[q]'h ∈ e) (hr : asRead s k = true) : k + (getS s k).2 ≤ q := by
  apply Classical.byContradiction
  intro h
  have hm := getS_many s k (by omega)
  have hqs : q < s.size := by omega
  have h1 := read_high (j := q) (by omega) hr hk (by omega)
  have h2 := he.no (hend hqs)
  rw [get_bang hqs] at h1
  omega
theorem sign_cut {s : ByteArray} {e : List UInt8} {k q : Nat} (he : EndOk e) (hk : k < q) (hq : q ≤ s.size) (hend : ∀ h : q < s.size, s[q]'h ∈ e) : asRead (s.extract 0 q) k = asRead s k ∧ (asRead s k = true → getS (s.extract 0 q) k = getS s k) := by
  have hs' := cut_size s q hq
  have hct := cut_tail s q k
  cases hr : asRead s k
  · refine ⟨?_, fun h => by cases h⟩
    cases hr' : asRead (s.extract 0 q) k with
    | false => rfl
    | true =>
      exfalso
      obtain ⟨z, post, hz, ht, _⟩ := read_put (by rw [hs']; exact hk) hr'
      rw [hct] at ht
      have h2 : tailL s k = (putS z).data.toList ++ (post ++ (tailL s k).drop (q - k)) := by
        rw [← List.append_assoc, ← ht, List.take_append_drop]
      have := (put_asRead (by omega) hz h2).1
      rw [hr] at this
      cases this
  · have hin := sign_in he hk hq hend hr
    obtain ⟨z, post, hz, ht, hg⟩ := read_put (by omega) hr
    have hlen : (putS z).data.toList.length = (putS z).size := Array.length_toList
    rw [hg] at hin
    have h2 : tailL (s.extract 0 q) k = (putS z).data.toList ++ post.take (q - k - (putS z).size) := by
      rw [hct, ht, List.take_append, List.take_of_length_le (by simp only at hin; omega), hlen]
    have h3 := put_asRead (by rw [hs']; exact hk) hz h2
    exact ⟨h3.1, fun _ => by rw [h3.2, hg]⟩

theorem stands_close {s : ByteArray} {p : Nat} (h : standsB s p closeB = true) : p + 3 ≤ s.size ∧ s.get! p = 93 ∧ s.get! (p + 1) = 93 ∧ s.get! (p + 2) = 62 := by
  have hle := stands_le h
  have h3 : p + 3 ≤ s.size := hle
  obtain ⟨e, hl⟩ := ptail_all s p (by omega)
  rw [e, show closeB = strB [93, 93, 62] from rfl] at h
  have h4 := h
  conv at h4 => lhs; arg 2; rw [← hl]
  rw [stands_pre, List.isPrefixOf_iff_prefix] at h4
  obtain ⟨r, hr⟩ := h4
  have g : ∀ j, j < 3 → (tailL s p)[j]? = some (s.get! (p + j)) := fun j hj => tail_of_bN (by omega)
  have g0 := g 0 (by omega)
  have g1 := g 1 (by omega)
  have g2 := g 2 (by omega)
  rw [← hr] at g0 g1 g2
  refine ⟨h3, ?_, ?_, ?_⟩
  · exact (Option.some.inj g0).symm
  · exact (Option.some.inj g1).symm
  · exact (Option.some.inj g2).symm
theorem xsign_split (s : ByteArray) (k : Nat) : xsignB s k = (psignB s k && !standsB s k closeB) := by
  unfold xsignB psignB
  cases textB ((getS s k).1 : Int) <;> cases decide ((getS s k).1 ≠ 13) <;> cases decide ((getS s k).1 ≠ 60) <;> cases asRead s k <;> rfl
theorem cut_bytes {s : ByteArray} {q a b : Nat} (hb : b ≤ q) : ((s.extract 0 q).extract a b).data.toList = (s.extract a b).data.toList := by
  rw [Lib.extract_data, Lib.extract_data, Lib.extract_data, List.drop_zero, Nat.sub_zero, List.drop_take, List.take_take, Nat.min_eq_left (by omega)]

theorem text_cut {s : ByteArray} {e : List UInt8} {q : Nat} (he : EndOk e) (hq : q ≤ s.size) (hend : ∀ h : q < s.size, s[q]'h ∈ e) : ∀ (d k : Nat), q - k ≤ d → k ≤ q → (∀ j, k ≤ j → ∀ h : j < q, e.contains (s[j]'(by omega)) = false) →
    ((∃ p, k ≤ p ∧ p < q ∧ standsB s p closeB = true) → xtextR s e k = none) ∧
    ((∀ p, k ≤ p → p < q → standsB s p closeB = false) → xtextR s e k = (ptextR (s.extract 0 q) k).map fun r => (r, q)) := by
  have hs' := cut_size s q hq
  have stop : xtextR s e q = (ptextR (s.extract 0 q) q).map fun r => (r, q) := by
    rw [ptextR_end (by rw [hs']; omega)]
    by_cases h : q < s.size
    · rw [xtextR_stop h (List.contains_iff_mem.2 (hend h))]
      rfl
    · rw [xtextR_end h]
      rfl
  intro d
  induction d with
  | zero =>
    intro k hd hk hno
    obtain rfl : k = q := by omega
    refine ⟨?_, fun _ => stop⟩
    rintro ⟨p, h1, h2, _⟩
    omega
  | succ d ih =>
    intro k hd hk hno
    by_cases hkq : k = q
    · subst hkq
      refine ⟨?_, fun _ => stop⟩
      rintro ⟨p, h1, h2, _⟩
      omega
    · have hlt : k < q := by omega
      have hks : k < s.size := by omega
      have hnk := hno k (Nat.le_refl _) hlt
      have hkg := cut_get (s := s) hq hlt
      have hk' : k < (s.extract 0 q).size := by rw [hs']; exact hlt
      by_cases h38 : s[k]'hks = 38
      · have h38' : (s.extract 0 q)[k]'hk' = 38 := hkg.trans h38
        have hrc := ref_cut he hlt hq hend h38
        cases hx : xrefR s k with
        | none =>
          rw [hx] at hrc
          exact ⟨fun _ => xtextR_none hks hnk h38 hx, fun _ => by rw [xtextR_none hks hnk h38 hx, ptextR_none hk' h38' hrc]; rfl⟩
        | some tj =>
          obtain ⟨t, j⟩ := tj
          rw [hx] at hrc
          have hle := xrefR_le hrc
          rw [hs'] at hle
          have hi := ih j (by omega) (by omega) fun p h1 h2 => hno p (by omega) h2
          refine ⟨?_, ?_⟩
          · rintro ⟨p, h1, h2, h3⟩
            have h4 := stands_close h3
            have hpj : j ≤ p := by
              apply Classical.byContradiction
              intro h
              have hpk : p ≠ k := by
                rintro rfl
                rw [get_bang hks, h38] at h4
                exact absurd h4.2.1 (by decide)
              rcases xref_inner hx hks h38 (p := p) (by omega) (by omega) with h5 | h5
              · rw [h4.2.1] at h5
                exact absurd h5 (by decide)
              · rw [h4.2.1] at h5
                exact absurd h5 (by decide)
            rw [xtextR_ref hks hnk h38 hx, hi.1 ⟨p, hpj, h2, h3⟩]
            rfl
          · intro hcl
            rw [xtextR_ref hks hnk h38 hx, ptextR_ref hk' h38' hrc, hi.2 fun p h1 h2 => hcl p (by omega) h2, Option.map_map, Option.map_map]
            rfl
      · have h38' : ¬ (s.extract 0 q)[k]'hk' = 38 := fun h => h38 (hkg.symm.trans h)
        have hsc := sign_cut he hlt hq hend
        have hps : psignB (s.extract 0 q) k = psignB s k := by
          unfold psignB
          rw [hsc.1]
          cases hr : asRead s k with
          | false => simp
          | true => rw [hsc.2 hr]
        refine ⟨?_, ?_⟩
        · rintro ⟨p, h1, h2, h3⟩
          have h4 := stands_close h3
          cases hx : xsignB s k with
          | false => exact xtextR_bad hks hnk h38 hx
          | true =>
            have hx2 := hx
            rw [xsign_split, Bool.and_eq_true] at hx2
            have hr : asRead s k = true := by
              have := hx2.1
              unfold psignB at this
              simp only [Bool.and_eq_true] at this
              exact this.2.2.2
            have hin := sign_in he hlt hq hend hr
            have hm := getS_many s k hks
            have hpj : k + (getS s k).2 ≤ p := by
              apply Classical.byContradiction
              intro h
              have hpk : p ≠ k := by
                rintro rfl
                rw [h3] at hx2
                exact absurd hx2.2 (by decide)
              have := read_high (j := p) hks hr (by omega) (by omega)
              rw [h4.2.1] at this
              exact absurd this (by decide)
            have hi := ih (k + (getS s k).2) (by omega) (by omega) fun p h1 h2 => hno p (by omega) h2
            rw [xtextR_sign hks hnk h38 hx, hi.1 ⟨p, hpj, h2, h3⟩]
            rfl
        · intro hcl
          have hxs : xsignB s k = psignB s k := by rw [xsign_split, hcl k (Nat.le_refl _) hlt]; simp
          cases hx : psignB s k with
          | false =>
            rw [xtextR_bad hks hnk h38 (hxs.trans hx), ptextR_bad hk' h38' (hps.trans hx)]
            rfl
          | true =>
            have hr : asRead s k = true := by
              have := hx
              unfold psignB at this
              simp only [Bool.and_eq_true] at this
              exact this.2.2.2
            have hin := sign_in he hlt hq hend hr
            have hm := getS_many s k hks
            have hi := ih (k + (getS s k).2) (by omega) (by omega) fun p h1 h2 => hno p (by omega) h2
            rw [xtextR_sign hks hnk h38 (hxs.trans hx), ptextR_sign hk' h38' (hps.trans hx), hi.2 fun p h1 h2 => hcl p (by omega) h2, hsc.2 hr, cut_bytes hin, Option.map_map, Option.map_map]
            rfl

end Go.Proofs.YthipdkagkdnaiaaGreatDoor.Sg

namespace Go.Proofs.YthipdkagkdnaiaaGreatDoor.Sg
open Go.ChangeShapes Go.WideShapes Go.ChangeAt Go.RowKit

theorem ret_i64' {a b : Int} (h : a = b) : Ending.returned (.int .i64 a) = .returned (.int .i64 b) := by rw [h]

set_option maxHeartbeats 2000000 in
theorem specFind (s : ByteArray) (i : Nat) (b : UInt8) (w : World) (hi : i ≤ s.size) (hs : s.size ≤ 17592186044416) :
    Calls Tryz.prog 81 #[.string s, .int .i64 (i : Int), .int .u8 (b.toNat : Int)] w fun e w' => e = .returned (.int .i64 (findV (findE s i b))) ∧ w' = w := by
  go_enter Tryz.func81, Tryz.ntmps81
  go_wp2
  go_loopw [1] (fun v wr => ∃ k : Nat, k ≤ s.size ∧ v = .int .i64 (k : Int) ∧ Hid (findE s i b = findE s k b) ∧ wr = w) (fun v _ => s.size - (intOf v).toNat)
  case atStart => exact ⟨i, hi, rfl, rfl, rfl⟩
  case round =>
    obtain ⟨k, hk, rfl, Hsp, rfl⟩ := hrel
    by_cases hlt : k < s.size
    · by_cases he : s[k]'hlt = b
      · have Hn : Hid (findE s i b = some k) := Hsp.out.trans (findE_yes hlt he)
        have g1 : (((s[k]'hlt).toNat : Int) == (b.toNat : Int)) = true := by simp [he]
        clear he Hsp
        go_wp2
        go_ret
        exact ⟨ret_i64' (by rw [Hn.out]; rfl), rfl⟩
      · have Hn : Hid (findE s i b = findE s (k + 1) b) := Hsp.out.trans (findE_no hlt he)
        have g1 : (((s[k]'hlt).toNat : Int) == (b.toNat : Int)) = false := by
          simp only [beq_eq_false_iff_ne]
          intro h
          exact he (UInt8.toNat_inj.1 (by omega))
        have g2 : ((s[k]'hlt).toNat == b.toNat) = false := by
          simp only [beq_eq_false_iff_ne]
          exact fun h => he (UInt8.toNat_inj.1 h)
        clear he Hsp
        go_wp2
        go_roundw
        case rel => exact ⟨k + 1, by omega, by go_num, Hn, by first | trivial | rfl⟩
        case measure => simp [intOf]; omega
    · have Hn : Hid (findE s i b = none) := Hsp.out.trans (findE_end hlt)
      have g0 : decide ((k : Int) < (s.size : Int)) = false := decide_eq_false (by omega)
      clear Hsp
      go_wp2
      go_ret
      exact ⟨ret_i64' (by rw [Hn.out]; rfl), rfl⟩

end Go.Proofs.YthipdkagkdnaiaaGreatDoor.Sg

namespace Go.Proofs.YthipdkagkdnaiaaGreatDoor.Sg
open Go.ChangeShapes Go.WideShapes Go.ChangeAt Go.RowKit

/-- A byte is one of those. -/
def oneU (t : ByteArray) (b : UInt8) : Bool := t.data.toList.contains b

theorem indexByte_ge (l : List UInt8) (b : UInt8) : (0 : Int) ≤ Lib.indexByte l b ∨ Lib.indexByte l b = -1 := by
  induction l with
  | nil => exact .inr rfl
  | cons x l ih =>
    unfold Lib.indexByte
    by_cases h : (x == b) = true
    · rw [if_pos h]; exact .inl (Int.le_refl _)
    · rw [if_neg h]
      by_cases h2 : (Lib.indexByte l b == -1) = true
      · rw [if_pos h2]; exact .inr rfl
      · rw [if_neg h2]
        rcases ih with h3 | h3
        · exact .inl (by omega)
        · exact absurd (beq_iff_eq.2 h3) h2
theorem indexByte_one (l : List UInt8) (b : UInt8) : decide ((0 : Int) ≤ Lib.indexByte l b) = l.contains b := by
  induction l with
  | nil => rfl
  | cons x l ih =>
    unfold Lib.indexByte
    rw [List.contains_cons]
    by_cases h : (x == b) = true
    · rw [if_pos h]
      have e : x = b := beq_iff_eq.1 h
      subst e
      simp
    · rw [if_neg h]
      have e : (b == x) = false := by
        apply Bool.eq_false_iff.2
        intro h2
        exact h (beq_iff_eq.2 (beq_iff_eq.1 h2).symm)
      rw [e, ← ih, Bool.false_or]
      by_cases h2 : (Lib.indexByte l b == -1) = true
      · rw [if_pos h2]
        have e2 : Lib.indexByte l b = -1 := beq_iff_eq.1 h2
        rw [e2]
      · rw [if_neg h2]
        have e2 : Lib.indexByte l b ≠ -1 := fun e3 => h2 (beq_iff_eq.2 e3)
        have := indexByte_ge l b
        rw [decide_eq_decide]
        omega

set_option maxHeartbeats 1000000 in
theorem implIsOne (b : UInt8) (t : ByteArray) (w : World) :
    Calls Tryz.prog 126 #[.int .u8 (b.toNat : Int), .string t] w fun e w' => e = .returned (.bool (oneU t b)) ∧ w' = w := by
  have Hi := Tryz.strings_IndexByte t (b.toNat : Int)
  rw [show ((b.toNat : Int)).toNat.toUInt8 = b by simp] at Hi
  have Hn : Hid (decide ((0 : Int) ≤ Lib.indexByte t.data.toList b) = oneU t b) := indexByte_one _ _
  generalize Lib.indexByte t.data.toList b = z at *
  go_enter Tryz.func126, Tryz.ntmps126
  go_wp2_with fail
  refine (Hi _).mono ?_
  rintro e w1 ⟨rfl, rfl⟩
  go_wp2
  go_ret
  exact ⟨ret_bool Hn.out, rfl⟩

/-- A byte is none of those. -/
def notU (t : ByteArray) (b : UInt8) : Bool := !oneU t b

set_option maxHeartbeats 1000000 in
theorem implUpTo (s : ByteArray) (k0 : Nat) (t : ByteArray) (w : World) (hs : s.size ≤ 17592186044416) :
    Calls Tryz.prog 106 #[.string s, .int .i64 (k0 : Int), .string t] w fun e w' => e = .returned (.int .i64 (runE (notU t) s k0 : Int)) ∧ w' = w := by
  go_enter Tryz.func106, Tryz.ntmps106
  go_wp2
  go_loopw [1] (fun v wr => ∃ k : Nat, v = .int .i64 (k : Int) ∧ Hid (runE (notU t) s k0 = runE (notU t) s k) ∧ wr = w) (fun v _ => s.size - (intOf v).toNat)
  case atStart => exact ⟨k0, rfl, rfl, rfl⟩
  case round =>
    obtain ⟨k, rfl, Hsp, rfl⟩ := hrel
    by_cases hlt : k < s.size
    · have Hv := implIsOne (s[k]'hlt) t
      cases hp : oneU t (s[k]'hlt)
      · have Hn : Hid (runE (notU t) s k0 = runE (notU t) s (k + 1)) := Hsp.out.trans (runE_yes hlt (by unfold notU; rw [hp]; rfl))
        rw [hp] at Hv
        clear Hsp hp
        go_wp2_with fail
        refine (Hv _).mono ?_
        rintro e w1 ⟨rfl, rfl⟩
        go_wp2
        go_roundw
        case rel => exact ⟨k + 1, by go_num, Hn, by first | trivial | rfl⟩
        case measure => simp [intOf]; omega
      · have Hn : Hid (runE (notU t) s k0 = k) := Hsp.out.trans (runE_no hlt (by unfold notU; rw [hp]; rfl))
        rw [hp] at Hv
        clear Hsp hp
        go_wp2_with fail
        refine (Hv _).mono ?_
        rintro e w1 ⟨rfl, rfl⟩
        go_wp2
        go_ret
        exact ⟨ret_i64' (by rw [Hn.out]), rfl⟩
    · have Hn : Hid (runE (notU t) s k0 = k) := Hsp.out.trans (runE_end hlt)
      have g0 : decide ((k : Int) < (s.size : Int)) = false := decide_eq_false (by omega)
      clear Hsp
      go_wp2
      go_ret
      exact ⟨ret_i64' (by rw [Hn.out]), rfl⟩

end Go.Proofs.YthipdkagkdnaiaaGreatDoor.Sg

namespace Go.Proofs.YthipdkagkdnaiaaGreatDoor.Sg

theorem runE_all {p : UInt8 → Bool} {s : ByteArray} : ∀ (d k : Nat), s.size - k ≤ d → k ≤ s.size → (∀ j, k ≤ j → j < runE p s k → ∀ hs : j < s.size, p (s[j]'hs) = true) ∧ (∀ h : runE p s k < s.size, p (s[runE p s k]'h) = false) := by
  intro d
  induction d with
  | zero =>
    intro k hd hk
    have e := runE_end (p := p) (s := s) (k := k) (by omega)
    exact ⟨fun j h1 h2 hs => by omega, fun h => by omega⟩
  | succ d ih =>
    intro k hd hk
    by_cases h : k < s.size
    · cases hp : p (s[k]'h)
      · have e := runE_no h hp
        refine ⟨fun j h1 h2 hs => by omega, fun h2 => ?_⟩
        rw [← hp]
        congr 2
      · have e := runE_yes h hp
        have hi := ih (k + 1) (by omega) (by omega)
        rw [e]
        refine ⟨fun j h1 h2 hs => ?_, hi.2⟩
        by_cases hj : j = k
        · subst hj
          exact hp
        · exact hi.1 j (by omega) h2 hs
    · have e := runE_end (p := p) (s := s) (k := k) h
      exact ⟨fun j h1 h2 hs => by omega, fun h => by omega⟩

theorem stands_tail {s : ByteArray} {p : Nat} (h : p ≤ s.size) : standsB s p closeB = List.isPrefixOf [93, 93, 62] (tailL s p) := by
  obtain ⟨e, hl⟩ := ptail_all s p h
  have h1 := stands_pre (s.data.toList.take p) (tailL s p) [93, 93, 62]
  rw [hl, ← e] at h1
  exact h1
theorem stands_cut {s : ByteArray} {e : List UInt8} {p q : Nat} (he : EndOk e) (hp : p < q) (hq : q ≤ s.size) (hend : ∀ h : q < s.size, s[q]'h ∈ e) : standsB s p closeB = List.isPrefixOf [93, 93, 62] (tailL (s.extract 0 q) p) := by
  rw [cut_tail]
  cases hc : standsB s p closeB
  · cases h2 : List.isPrefixOf [93, 93, 62] ((tailL s p).take (q - p)) with
    | false => rfl
    | true =>
      rw [stands_tail (by omega)] at hc
      rw [List.isPrefixOf_iff_prefix] at h2
      have h3 := List.isPrefixOf_iff_prefix.2 (h2.trans (List.take_prefix _ _))
      rw [hc] at h3
      cases h3
  · have h4 := stands_close hc
    rw [stands_tail (by omega)] at hc
    have hq3 : p + 3 ≤ q := by
      apply Classical.byContradiction
      intro h
      have hqs : q < s.size := by omega
      have h5 := he.no (hend hqs)
      rw [← get_bang hqs] at h5
      by_cases h6 : q = p + 1
      · rw [h6] at h5
        exact h5.2.2.2.1 h4.2.2.1
      · rw [show q = p + 2 by omega] at h5
        exact h5.2.2.2.2.1 h4.2.2.2
    rw [List.isPrefixOf_iff_prefix] at hc
    have h6 : ([93, 93, 62] : List UInt8) <+: (tailL s p).take (q - p) := by
      obtain ⟨r, hr⟩ := hc
      rw [← hr, List.take_append, List.take_of_length_le (by show 3 ≤ q - p; omega)]
      exact ⟨_, rfl⟩
    exact (List.isPrefixOf_iff_prefix.2 h6).symm
/-- What the program tells of a text up to a byte of some. -/
def textP (s : ByteArray) (k q : Nat) : Option (List UInt8 × Nat) := if Lib.contains (tailL (s.extract 0 q) k) [93, 93, 62] then none else (ptextR (s.extract 0 q) k).map fun r => (r, q)
theorem textP_eq {s e : ByteArray} {k : Nat} (he : EndOk e.data.toList) (hk : k ≤ s.size) : xtextR s e.data.toList k = textP s k (runE (notU e) s k) := by
  have hr := runE_all (p := notU e) (s := s) s.size k (by omega) hk
  have hle := runE_le (p := notU e) (s := s) hk
  generalize runE (notU e) s k = q at *
  have hend : ∀ h : q < s.size, s[q]'h ∈ e.data.toList := by
    intro h
    have h1 := hr.2 h
    unfold notU oneU at h1
    rw [Bool.not_eq_false', List.contains_iff_mem] at h1
    exact h1
  have hno : ∀ j, k ≤ j → ∀ h : j < q, e.data.toList.contains (s[j]'(by omega)) = false := by
    intro j h1 h2
    have h3 := hr.1 j h1 h2 (by omega)
    unfold notU oneU at h3
    rw [Bool.not_eq_true'] at h3
    exact h3
  have hT := text_cut he hle.2 hend (q - k) k (Nat.le_refl _) hle.1 hno
  have hs' := cut_size s q hle.2
  have hlen := tailL_length (s.extract 0 q) k
  rw [hs'] at hlen
  have hd : ∀ j, (tailL (s.extract 0 q) k).drop j = tailL (s.extract 0 q) (k + j) := fun j => tailL_drop _ _ _
  unfold textP Lib.contains
  rcases Lib.index_spec (tailL (s.extract 0 q) k) [93, 93, 62] with ⟨e1, e2⟩ | ⟨i, e1, e2, e3, e4⟩
  · rw [e1, if_neg (by decide)]
    apply hT.2
    intro p h1 h2
    have := e2 (p - k) (by omega)
    unfold Lib.occAt at this
    rw [hd, show k + (p - k) = p by omega] at this
    rw [stands_cut he h2 hle.2 hend, this]
  · rw [e1, if_pos (decide_eq_true (by omega))]
    apply hT.1
    have hroom := Lib.index_room (tailL (s.extract 0 q) k) [93, 93, 62] (by omega)
    rw [e1] at hroom
    simp only [List.length_cons, List.length_nil] at hroom
    refine ⟨k + i, by omega, by omega, ?_⟩
    rw [stands_cut he (by omega) hle.2 hend]
    unfold Lib.occAt at e3
    rw [hd] at e3
    exact e3

end Go.Proofs.YthipdkagkdnaiaaGreatDoor.Sg

namespace Go.Proofs.YthipdkagkdnaiaaGreatDoor.Sg
open Go.ChangeShapes Go.WideShapes Go.ChangeAt Go.RowKit

theorem ret_i64 {a b : Int} (h : a = b) : Ending.returned (.int .i64 a) = .returned (.int .i64 b) := by rw [h]

end Go.Proofs.YthipdkagkdnaiaaGreatDoor.Sg

namespace Go.Proofs.YthipdkagkdnaiaaGreatDoor.Sg

end Go.Proofs.YthipdkagkdnaiaaGreatDoor.Sg

namespace Go.Proofs.YthipdkagkdnaiaaGreatDoor.Sg
open Go.ChangeShapes Go.WideShapes Go.ChangeAt Go.RowKit

/-- What a digit of 10 or of 16 counts; -1 of what is none. -/
def dig3 (hex : Bool) (b : Nat) : Int := if digV b < (if hex then 16 else 10) then (digV b : Int) else -1

theorem seven (b : Nat) : b < 48 ∨ (48 ≤ b ∧ b ≤ 57) ∨ (58 ≤ b ∧ b ≤ 64) ∨ (65 ≤ b ∧ b ≤ 70) ∨ (71 ≤ b ∧ b ≤ 96) ∨ (97 ≤ b ∧ b ≤ 102) ∨ 103 ≤ b := by omega

theorem dig3_ten {b : Nat} (h : 48 ≤ b ∧ b ≤ 57) (hex : Bool) : dig3 hex b = (b : Int) - 48 := by
  have : digV b = b - 48 := by rcases digV_cases b with h | h | h | h <;> omega
  unfold dig3
  rw [if_pos (by cases hex <;> simp <;> omega)]
  omega
theorem dig3_low {b : Nat} (h : 97 ≤ b ∧ b ≤ 102) : dig3 true b = (b : Int) - 87 := by
  have : digV b = b - 87 := by rcases digV_cases b with h | h | h | h <;> omega
  unfold dig3
  rw [if_pos (by simp; omega)]
  omega
theorem dig3_big {b : Nat} (h : 65 ≤ b ∧ b ≤ 70) : dig3 true b = (b : Int) - 55 := by
  have : digV b = b - 55 := by rcases digV_cases b with h | h | h | h <;> omega
  unfold dig3
  rw [if_pos (by simp; omega)]
  omega
theorem dig3_not {b : Nat} (h : ¬ (48 ≤ b ∧ b ≤ 57)) : dig3 false b = -1 := by
  have : 10 ≤ digV b := by rcases digV_cases b with h | h | h | h <;> omega
  unfold dig3
  rw [if_neg (by simp; omega)]
theorem dig3_none {b : Nat} (h : ¬ (48 ≤ b ∧ b ≤ 57)) (h1 : ¬ (97 ≤ b ∧ b ≤ 102)) (h2 : ¬ (65 ≤ b ∧ b ≤ 70)) (hex : Bool) : dig3 hex b = -1 := by
  have : digV b = 16 := by rcases digV_cases b with h | h | h | h <;> omega
  unfold dig3
  rw [if_neg (by cases hex <;> simp <;> omega)]

set_option maxHeartbeats 2000000 in
theorem specDigit (b : Nat) (hex : Bool) (w : World) (hb : b < 256) :
    Calls Tryz.prog 131 #[.int .u8 (b : Int), .bool hex] w fun e w' => e = .returned (.int .i64 (dig3 hex b)) ∧ w' = w := by
  cases hex
  · rcases seven b with h | h | h | h | h | h | h
    case inr.inl =>
      have Hn : Hid (dig3 false b = (b : Int) - 48) := dig3_ten h false
      obtain ⟨h1, h2⟩ := h
      go_enter Tryz.func131, Tryz.ntmps131
      go_wp2
      go_ret
      exact ⟨ret_i64 Hn.out.symm, rfl⟩
    all_goals
      have Hn : Hid (dig3 false b = -1) := dig3_not (by omega)
      go_enter Tryz.func131, Tryz.ntmps131
      go_wp2
      all_goals (go_ret; exact ⟨ret_i64 Hn.out.symm, rfl⟩)
  · rcases seven b with h | h | h | h | h | h | h
    case inr.inl =>
      have Hn : Hid (dig3 true b = (b : Int) - 48) := dig3_ten h true
      obtain ⟨h1, h2⟩ := h
      go_enter Tryz.func131, Tryz.ntmps131
      go_wp2
      go_ret
      exact ⟨ret_i64 Hn.out.symm, rfl⟩
    case inr.inr.inr.inl =>
      have Hn : Hid (dig3 true b = (b : Int) - 55) := dig3_big h
      obtain ⟨h1, h2⟩ := h
      go_enter Tryz.func131, Tryz.ntmps131
      go_wp2
      go_ret
      exact ⟨ret_i64 Hn.out.symm, rfl⟩
    case inr.inr.inr.inr.inr.inl =>
      have Hn : Hid (dig3 true b = (b : Int) - 87) := dig3_low h
      obtain ⟨h1, h2⟩ := h
      go_enter Tryz.func131, Tryz.ntmps131
      go_wp2
      go_ret
      exact ⟨ret_i64 Hn.out.symm, rfl⟩
    all_goals
      have Hn : Hid (dig3 true b = -1) := dig3_none (by omega) (by omega) (by omega) true
      go_enter Tryz.func131, Tryz.ntmps131
      go_wp2
      all_goals (go_ret; exact ⟨ret_i64 Hn.out.symm, rfl⟩)

end Go.Proofs.YthipdkagkdnaiaaGreatDoor.Sg

namespace Go.Proofs.YthipdkagkdnaiaaGreatDoor.Sg
open Go.ChangeShapes Go.WideShapes Go.ChangeAt Go.RowKit

theorem numG_yes (base n m : Nat) (b : UInt8) (l : List UInt8) (h : digV b.toNat < base) : numG base n m (b :: l) = numG base (min (n * base + digV b.toNat) 1114112) (m + 1) l := by
  rw [numG, if_pos h]
theorem numG_no (base n m : Nat) (b : UInt8) (l : List UInt8) (h : ¬ digV b.toNat < base) : numG base n m (b :: l) = (n, m) := by
  rw [numG, if_neg h]

end Go.Proofs.YthipdkagkdnaiaaGreatDoor.Sg
