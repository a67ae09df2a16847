/- What the program reads of a text up to a byte of some, in the model's words. Plain. -/
import Derived.Test.YtfbnhjogkjbcbaaDoorPcText2
import Derived.Test.YtfbnhjogkjbcbaaDoorTkOne
namespace Go.Proofs.YtfbnhjogkjbcbaaDoor.Sg

theorem runE_all {p : UInt8 → Bool} {s : ByteArray} : ∀ (d k : Nat), s.size - k ≤ d → k ≤ s.size → (∀ j, k ≤ j → j < runE p s k → ∀ hs : j < s.size, p (s[j]'hs) = true) ∧ (∀ h : runE p s k < s.size, p (s[runE p s k]'h) = false) := by
  intro d
  induction d with
  | zero =>
    intro k hd hk
    have e := runE_end (p := p) (s := s) (k := k) (by omega)
    exact ⟨fun j h1 h2 hs => by omega, fun h => by omega⟩
  | succ d ih =>
    intro k hd hk
    by_cases h : k < s.size
    · cases hp : p (s[k]'h)
      · have e := runE_no h hp
        refine ⟨fun j h1 h2 hs => by omega, fun h2 => ?_⟩
        rw [← hp]
        congr 2
      · have e := runE_yes h hp
        have hi := ih (k + 1) (by omega) (by omega)
        rw [e]
        refine ⟨fun j h1 h2 hs => ?_, hi.2⟩
        by_cases hj : j = k
        · subst hj
          exact hp
        · exact hi.1 j (by omega) h2 hs
    · have e := runE_end (p := p) (s := s) (k := k) h
      exact ⟨fun j h1 h2 hs => by omega, fun h => by omega⟩

theorem stands_tail {s : ByteArray} {p : Nat} (h : p ≤ s.size) : standsB s p closeB = List.isPrefixOf [93, 93, 62] (tailL s p) := by
  obtain ⟨e, hl⟩ := ptail_all s p h
  have h1 := stands_pre (s.data.toList.take p) (tailL s p) [93, 93, 62]
  rw [hl, ← e] at h1
  exact h1
theorem stands_cut {s : ByteArray} {e : List UInt8} {p q : Nat} (he : EndOk e) (hp : p < q) (hq : q ≤ s.size) (hend : ∀ h : q < s.size, s[q]'h ∈ e) : standsB s p closeB = List.isPrefixOf [93, 93, 62] (tailL (s.extract 0 q) p) := by
  rw [cut_tail]
  cases hc : standsB s p closeB
  · cases h2 : List.isPrefixOf [93, 93, 62] ((tailL s p).take (q - p)) with
    | false => rfl
    | true =>
      rw [stands_tail (by omega)] at hc
      rw [List.isPrefixOf_iff_prefix] at h2
      have h3 := List.isPrefixOf_iff_prefix.2 (h2.trans (List.take_prefix _ _))
      rw [hc] at h3
      cases h3
  · have h4 := stands_close hc
    rw [stands_tail (by omega)] at hc
    have hq3 : p + 3 ≤ q := by
      apply Classical.byContradiction
      intro h
      have hqs : q < s.size := by omega
      have h5 := he.no (hend hqs)
      rw [← get_bang hqs] at h5
      by_cases h6 : q = p + 1
      · rw [h6] at h5
        exact h5.2.2.2.1 h4.2.2.1
      · rw [show q = p + 2 by omega] at h5
        exact h5.2.2.2.2.1 h4.2.2.2
    rw [List.isPrefixOf_iff_prefix] at hc
    have h6 : ([93, 93, 62] : List UInt8) <+: (tailL s p).take (q - p) := by
      obtain ⟨r, hr⟩ := hc
      rw [← hr, List.take_append, List.take_of_length_le (by show 3 ≤ q - p; omega)]
      exact ⟨_, rfl⟩
    exact (List.isPrefixOf_iff_prefix.2 h6).symm
/-- What the program tells of a text up to a byte of some. -/
def textP (s : ByteArray) (k q : Nat) : Option (List UInt8 × Nat) := if Lib.contains (tailL (s.extract 0 q) k) [93, 93, 62] then none else (ptextR (s.extract 0 q) k).map fun r => (r, q)
theorem textP_eq {s e : ByteArray} {k : Nat} (he : EndOk e.data.toList) (hk : k ≤ s.size) : xtextR s e.data.toList k = textP s k (runE (notU e) s k) := by
  have hr := runE_all (p := notU e) (s := s) s.size k (by omega) hk
  have hle := runE_le (p := notU e) (s := s) hk
  generalize runE (notU e) s k = q at *
  have hend : ∀ h : q < s.size, s[q]'h ∈ e.data.toList := by
    intro h
    have h1 := hr.2 h
    unfold notU oneU at h1
    rw [Bool.not_eq_false', List.contains_iff_mem] at h1
    exact h1
  have hno : ∀ j, k ≤ j → ∀ h : j < q, e.data.toList.contains (s[j]'(by omega)) = false := by
    intro j h1 h2
    have h3 := hr.1 j h1 h2 (by omega)
    unfold notU oneU at h3
    rw [Bool.not_eq_true'] at h3
    exact h3
  have hT := text_cut he hle.2 hend (q - k) k (Nat.le_refl _) hle.1 hno
  have hs' := cut_size s q hle.2
  have hlen := tailL_length (s.extract 0 q) k
  rw [hs'] at hlen
  have hd : ∀ j, (tailL (s.extract 0 q) k).drop j = tailL (s.extract 0 q) (k + j) := fun j => tailL_drop _ _ _
  unfold textP Lib.contains
  rcases Lib.index_spec (tailL (s.extract 0 q) k) [93, 93, 62] with ⟨e1, e2⟩ | ⟨i, e1, e2, e3, e4⟩
  · rw [e1, if_neg (by decide)]
    apply hT.2
    intro p h1 h2
    have := e2 (p - k) (by omega)
    unfold Lib.occAt at this
    rw [hd, show k + (p - k) = p by omega] at this
    rw [stands_cut he h2 hle.2 hend, this]
  · rw [e1, if_pos (decide_eq_true (by omega))]
    apply hT.1
    have hroom := Lib.index_room (tailL (s.extract 0 q) k) [93, 93, 62] (by omega)
    rw [e1] at hroom
    simp only [List.length_cons, List.length_nil] at hroom
    refine ⟨k + i, by omega, by omega, ?_⟩
    rw [stands_cut he (by omega) hle.2 hend]
    unfold Lib.occAt at e3
    rw [hd] at e3
    exact e3

end Go.Proofs.YtfbnhjogkjbcbaaDoor.Sg
