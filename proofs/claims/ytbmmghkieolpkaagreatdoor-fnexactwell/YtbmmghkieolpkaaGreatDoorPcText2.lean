/- A strict text up to a byte of some is what is read of it once it is cut there. Plain. No program in it. -/
import Derived.Test.YtbmmghkieolpkaaGreatDoorPcText
namespace Go.Proofs.YtbmmghkieolpkaaGreatDoor.Sg

theorem ptail_all (s : ByteArray) (k : Nat) (hk : k ≤ s.size) : s = strB (s.data.toList.take k ++ tailL s k) ∧ (s.data.toList.take k).length = k := by
  have hl : s.data.toList.length = s.size := Array.length_toList
  refine ⟨?_, by rw [List.length_take]; omega⟩
  unfold tailL strB
  rw [List.take_append_drop]
/-- What is written as it is read is some sign's bytes. -/
theorem read_put {s : ByteArray} {k : Nat} (hk : k < s.size) (hr : asRead s k = true) : ∃ (z : Int) (post : List UInt8), okB z = true ∧ tailL s k = (putS z).data.toList ++ post ∧ getS s k = (z.toNat, (putS z).size) := by
  have hm := getS_many s k hk
  unfold asRead at hr
  rw [ByteArray.toList_eq, ByteArray.toList_eq, beq_iff_eq, Lib.extract_data] at hr
  have hlen := tailL_length s k
  refine ⟨fix ((getS s k).1 : Int), (tailL s k).drop (getS s k).2, fix_ok _, ?_, ?_⟩
  · rw [putS_fix, hr]
    show tailL s k = (tailL s k).take (k + (getS s k).2 - k) ++ _
    rw [show k + (getS s k).2 - k = (getS s k).2 by omega, List.take_append_drop]
  · have ht : tailL s k = (putS (fix ((getS s k).1 : Int))).data.toList ++ (tailL s k).drop (getS s k).2 := by
      rw [putS_fix, hr]
      show tailL s k = (tailL s k).take (k + (getS s k).2 - k) ++ _
      rw [show k + (getS s k).2 - k = (getS s k).2 by omega, List.take_append_drop]
    obtain ⟨e, hl⟩ := ptail_all s k (by omega)
    have hg := getS_put (fix ((getS s k).1 : Int)) (fix_ok _) (s.data.toList.take k) ((tailL s k).drop (getS s k).2)
    rw [← ht, hl] at hg
    have e2 : (⟨(s.data.toList.take k ++ tailL s k).toArray⟩ : ByteArray) = s := e.symm
    rw [e2] at hg
    exact hg
theorem put_asRead {s : ByteArray} {k : Nat} {z : Int} {post : List UInt8} (hk : k < s.size) (hz : okB z = true) (ht : tailL s k = (putS z).data.toList ++ post) : asRead s k = true ∧ getS s k = (z.toNat, (putS z).size) := by
  obtain ⟨e, hl⟩ := ptail_all s k (by omega)
  have hg := getS_put z hz (s.data.toList.take k) post
  rw [← ht, hl] at hg
  have e2 : (⟨(s.data.toList.take k ++ tailL s k).toArray⟩ : ByteArray) = s := e.symm
  rw [e2] at hg
  refine ⟨?_, hg⟩
  have hzn : ((z.toNat : Nat) : Int) = z := by have := okB_of hz; omega
  have hlen : (putS z).data.toList.length = (putS z).size := Array.length_toList
  unfold asRead
  rw [hg, ByteArray.toList_eq, ByteArray.toList_eq, beq_iff_eq, Lib.extract_data]
  show (putS ((z.toNat : Nat) : Int)).data.toList = (tailL s k).take (k + (putS z).size - k)
  rw [hzn, ht, show k + (putS z).size - k = (putS z).data.toList.length by omega, List.take_left]
/-- Behind a sign's first byte there are none below 128. -/
theorem read_high {s : ByteArray} {k j : Nat} (hk : k < s.size) (hr : asRead s k = true) (h1 : k < j) (h2 : j < k + (getS s k).2) : 128 ≤ (s.get! j).toNat := by
  obtain ⟨z, post, hz, ht, hg⟩ := read_put hk hr
  have hm := getS_many s k hk
  rw [hg] at h2 hm
  have hlen : (putS z).data.toList.length = (putS z).size := Array.length_toList
  have h0 := (okB_of hz).1
  have h128 : 128 ≤ z := by
    apply Classical.byContradiction
    intro h
    rw [putS_one h0 (by omega)] at hlen
    simp at hlen
    simp only at h2
    omega
  have hget := tail_of_bN (s := s) (k := k) (j := j - k) (by simp only at hm h2; omega)
  rw [show k + (j - k) = j by omega, ht, List.getElem?_append_left (by simp only at h2; omega)] at hget
  exact putS_high hz h128 _ (List.mem_of_getElem? hget)
theorem get_bang {s : ByteArray} {k : Nat} (h : k < s.size) : s.get! k = s[k]'h := by
  simp [ByteArray.get!, ByteArray.getElem_eq_getElem_data, ByteArray.size_data, h]
/-- A sign ahead of the first byte of an end. -/
theorem sign_in {s : ByteArray} {e : List UInt8} {k q : Nat} (he : EndOk e) (hk : k < q) (hq : q ≤ s.size) (hend : ∀ h : q < s.size, s[q]'h ∈ e) (hr : asRead s k = true) : k + (getS s k).2 ≤ q := by
  apply Classical.byContradiction
  intro h
  have hm := getS_many s k (by omega)
  have hqs : q < s.size := by omega
  have h1 := read_high (j := q) (by omega) hr hk (by omega)
  have h2 := he.no (hend hqs)
  rw [get_bang hqs] at h1
  omega
theorem sign_cut {s : ByteArray} {e : List UInt8} {k q : Nat} (he : EndOk e) (hk : k < q) (hq : q ≤ s.size) (hend : ∀ h : q < s.size, s[q]'h ∈ e) : asRead (s.extract 0 q) k = asRead s k ∧ (asRead s k = true → getS (s.extract 0 q) k = getS s k) := by
  have hs' := cut_size s q hq
  have hct := cut_tail s q k
  cases hr : asRead s k
  · refine ⟨?_, fun h => by cases h⟩
    cases hr' : asRead (s.extract 0 q) k with
    | false => rfl
    | true =>
      exfalso
      obtain ⟨z, post, hz, ht, _⟩ := read_put (by rw [hs']; exact hk) hr'
      rw [hct] at ht
      have h2 : tailL s k = (putS z).data.toList ++ (post ++ (tailL s k).drop (q - k)) := by
        rw [← List.append_assoc, ← ht, List.take_append_drop]
      have := (put_asRead (by omega) hz h2).1
      rw [hr] at this
      cases this
  · have hin := sign_in he hk hq hend hr
    obtain ⟨z, post, hz, ht, hg⟩ := read_put (by omega) hr
    have hlen : (putS z).data.toList.length = (putS z).size := Array.length_toList
    rw [hg] at hin
    have h2 : tailL (s.extract 0 q) k = (putS z).data.toList ++ post.take (q - k - (putS z).size) := by
      rw [hct, ht, List.take_append, List.take_of_length_le (by simp only at hin; omega), hlen]
    have h3 := put_asRead (by rw [hs']; exact hk) hz h2
    exact ⟨h3.1, fun _ => by rw [h3.2, hg]⟩

theorem stands_close {s : ByteArray} {p : Nat} (h : standsB s p closeB = true) : p + 3 ≤ s.size ∧ s.get! p = 93 ∧ s.get! (p + 1) = 93 ∧ s.get! (p + 2) = 62 := by
  have hle := stands_le h
  have h3 : p + 3 ≤ s.size := hle
  obtain ⟨e, hl⟩ := ptail_all s p (by omega)
  rw [e, show closeB = strB [93, 93, 62] from rfl] at h
  have h4 := h
  conv at h4 => lhs; arg 2; rw [← hl]
  rw [stands_pre, List.isPrefixOf_iff_prefix] at h4
  obtain ⟨r, hr⟩ := h4
  have g : ∀ j, j < 3 → (tailL s p)[j]? = some (s.get! (p + j)) := fun j hj => tail_of_bN (by omega)
  have g0 := g 0 (by omega)
  have g1 := g 1 (by omega)
  have g2 := g 2 (by omega)
  rw [← hr] at g0 g1 g2
  refine ⟨h3, ?_, ?_, ?_⟩
  · exact (Option.some.inj g0).symm
  · exact (Option.some.inj g1).symm
  · exact (Option.some.inj g2).symm
theorem xsign_split (s : ByteArray) (k : Nat) : xsignB s k = (psignB s k && !standsB s k closeB) := by
  unfold xsignB psignB
  cases textB ((getS s k).1 : Int) <;> cases decide ((getS s k).1 ≠ 13) <;> cases decide ((getS s k).1 ≠ 60) <;> cases asRead s k <;> rfl
theorem cut_bytes {s : ByteArray} {q a b : Nat} (hb : b ≤ q) : ((s.extract 0 q).extract a b).data.toList = (s.extract a b).data.toList := by
  rw [Lib.extract_data, Lib.extract_data, Lib.extract_data, List.drop_zero, Nat.sub_zero, List.drop_take, List.take_take, Nat.min_eq_left (by omega)]

theorem text_cut {s : ByteArray} {e : List UInt8} {q : Nat} (he : EndOk e) (hq : q ≤ s.size) (hend : ∀ h : q < s.size, s[q]'h ∈ e) : ∀ (d k : Nat), q - k ≤ d → k ≤ q → (∀ j, k ≤ j → ∀ h : j < q, e.contains (s[j]'(by omega)) = false) →
    ((∃ p, k ≤ p ∧ p < q ∧ standsB s p closeB = true) → xtextR s e k = none) ∧
    ((∀ p, k ≤ p → p < q → standsB s p closeB = false) → xtextR s e k = (ptextR (s.extract 0 q) k).map fun r => (r, q)) := by
  have hs' := cut_size s q hq
  have stop : xtextR s e q = (ptextR (s.extract 0 q) q).map fun r => (r, q) := by
    rw [ptextR_end (by rw [hs']; omega)]
    by_cases h : q < s.size
    · rw [xtextR_stop h (List.contains_iff_mem.2 (hend h))]
      rfl
    · rw [xtextR_end h]
      rfl
  intro d
  induction d with
  | zero =>
    intro k hd hk hno
    obtain rfl : k = q := by omega
    refine ⟨?_, fun _ => stop⟩
    rintro ⟨p, h1, h2, _⟩
    omega
  | succ d ih =>
    intro k hd hk hno
    by_cases hkq : k = q
    · subst hkq
      refine ⟨?_, fun _ => stop⟩
      rintro ⟨p, h1, h2, _⟩
      omega
    · have hlt : k < q := by omega
      have hks : k < s.size := by omega
      have hnk := hno k (Nat.le_refl _) hlt
      have hkg := cut_get (s := s) hq hlt
      have hk' : k < (s.extract 0 q).size := by rw [hs']; exact hlt
      by_cases h38 : s[k]'hks = 38
      · have h38' : (s.extract 0 q)[k]'hk' = 38 := hkg.trans h38
        have hrc := ref_cut he hlt hq hend h38
        cases hx : xrefR s k with
        | none =>
          rw [hx] at hrc
          exact ⟨fun _ => xtextR_none hks hnk h38 hx, fun _ => by rw [xtextR_none hks hnk h38 hx, ptextR_none hk' h38' hrc]; rfl⟩
        | some tj =>
          obtain ⟨t, j⟩ := tj
          rw [hx] at hrc
          have hle := xrefR_le hrc
          rw [hs'] at hle
          have hi := ih j (by omega) (by omega) fun p h1 h2 => hno p (by omega) h2
          refine ⟨?_, ?_⟩
          · rintro ⟨p, h1, h2, h3⟩
            have h4 := stands_close h3
            have hpj : j ≤ p := by
              apply Classical.byContradiction
              intro h
              have hpk : p ≠ k := by
                rintro rfl
                rw [get_bang hks, h38] at h4
                exact absurd h4.2.1 (by decide)
              rcases xref_inner hx hks h38 (p := p) (by omega) (by omega) with h5 | h5
              · rw [h4.2.1] at h5
                exact absurd h5 (by decide)
              · rw [h4.2.1] at h5
                exact absurd h5 (by decide)
            rw [xtextR_ref hks hnk h38 hx, hi.1 ⟨p, hpj, h2, h3⟩]
            rfl
          · intro hcl
            rw [xtextR_ref hks hnk h38 hx, ptextR_ref hk' h38' hrc, hi.2 fun p h1 h2 => hcl p (by omega) h2, Option.map_map, Option.map_map]
            rfl
      · have h38' : ¬ (s.extract 0 q)[k]'hk' = 38 := fun h => h38 (hkg.symm.trans h)
        have hsc := sign_cut he hlt hq hend
        have hps : psignB (s.extract 0 q) k = psignB s k := by
          unfold psignB
          rw [hsc.1]
          cases hr : asRead s k with
          | false => simp
          | true => rw [hsc.2 hr]
        refine ⟨?_, ?_⟩
        · rintro ⟨p, h1, h2, h3⟩
          have h4 := stands_close h3
          cases hx : xsignB s k with
          | false => exact xtextR_bad hks hnk h38 hx
          | true =>
            have hx2 := hx
            rw [xsign_split, Bool.and_eq_true] at hx2
            have hr : asRead s k = true := by
              have := hx2.1
              unfold psignB at this
              simp only [Bool.and_eq_true] at this
              exact this.2.2.2
            have hin := sign_in he hlt hq hend hr
            have hm := getS_many s k hks
            have hpj : k + (getS s k).2 ≤ p := by
              apply Classical.byContradiction
              intro h
              have hpk : p ≠ k := by
                rintro rfl
                rw [h3] at hx2
                exact absurd hx2.2 (by decide)
              have := read_high (j := p) hks hr (by omega) (by omega)
              rw [h4.2.1] at this
              exact absurd this (by decide)
            have hi := ih (k + (getS s k).2) (by omega) (by omega) fun p h1 h2 => hno p (by omega) h2
            rw [xtextR_sign hks hnk h38 hx, hi.1 ⟨p, hpj, h2, h3⟩]
            rfl
        · intro hcl
          have hxs : xsignB s k = psignB s k := by rw [xsign_split, hcl k (Nat.le_refl _) hlt]; simp
          cases hx : psignB s k with
          | false =>
            rw [xtextR_bad hks hnk h38 (hxs.trans hx), ptextR_bad hk' h38' (hps.trans hx)]
            rfl
          | true =>
            have hr : asRead s k = true := by
              have := hx
              unfold psignB at this
              simp only [Bool.and_eq_true] at this
              exact this.2.2.2
            have hin := sign_in he hlt hq hend hr
            have hm := getS_many s k hks
            have hi := ih (k + (getS s k).2) (by omega) (by omega) fun p h1 h2 => hno p (by omega) h2
            rw [xtextR_sign hks hnk h38 (hxs.trans hx), ptextR_sign hk' h38' (hps.trans hx), hi.2 fun p h1 h2 => hcl p (by omega) h2, hsc.2 hr, cut_bytes hin, Option.map_map, Option.map_map]
            rfl

end Go.Proofs.YtbmmghkieolpkaaGreatDoor.Sg
