/- What follows of tags and attributes: a tag's end is a byte 62 behind its beginning; names stand once. No program in it. -/
import Derived.Test.YtlaidaghmhmgbaaDoorM02
import Derived.Test.YtlaidaghmhmgbaaDoorTkAttrPQ
namespace Go.Proofs.YtlaidaghmhmgbaaDoor.Sg

/-- A place at which a byte 62 stands. -/
def Ends (s : ByteArray) (k : Nat) (r : Int) : Prop := r = -1 ∨ ∃ (m : Nat) (h : m < s.size), r = (m : Int) ∧ k ≤ m ∧ (s[m]'h).toNat = 62

theorem tagVal_inl {s : ByteArray} {k : Nat} {r : Int} (h : tagVal s k = .inl r) : r = -1 := by
  unfold tagVal at h
  split at h
  · cases h
  · split at h
    · split at h
      · exact (Sum.inl.inj h).symm
      · cases h
    · cases h
theorem tagEq_inl {s : ByteArray} {k : Nat} {r : Int} (h : tagEq s k = .inl r) : r = -1 := by
  unfold tagEq at h
  split at h
  · cases h
  · split at h
    · exact tagVal_inl h
    · cases h
theorem tagStep_inl {s : ByteArray} {k : Nat} {r : Int} (hk : k ≤ s.size) (h : tagStep s k = .inl r) : Ends s k r := by
  have hr := runE_le (p := skipU) hk
  unfold tagStep at h
  by_cases hlt : runE skipU s k < s.size
  · rw [head_at hlt] at h
    simp only at h
    split at h
    · rename_i h62
      exact .inr ⟨runE skipU s k, hlt, (Sum.inl.inj h).symm, hr.1, h62⟩
    · exact .inl (tagEq_inl h)
  · rw [head_end hlt] at h
    exact .inl (Sum.inl.inj h).symm

theorem tagE_ends (s : ByteArray) : ∀ (d k : Nat), s.size - k ≤ d → k ≤ s.size → Ends s k (tagE s k) := by
  intro d
  induction d with
  | zero =>
    intro k hd hk
    cases h : tagStep s k with
    | inl r => rw [tagE_done h]; exact tagStep_inl hk h
    | inr m => have := tagStep_le hk h; omega
  | succ d ih =>
    intro k hd hk
    cases h : tagStep s k with
    | inl r => rw [tagE_done h]; exact tagStep_inl hk h
    | inr m =>
      have h1 := tagStep_le hk h
      rw [tagE_goes hk h]
      rcases ih m (by omega) h1.2 with h2 | ⟨j, hj, e, hm, h62⟩
      · exact .inl h2
      · exact .inr ⟨j, hj, e, by omega, h62⟩

theorem tagEndE_ends (s : ByteArray) (p : Int) : tagEndE s p = -1 ∨ ∃ (m : Nat) (h : m < s.size), tagEndE s p = (m : Int) ∧ p < (m : Int) ∧ (s[m]'h).toNat = 62 := by
  unfold tagEndE
  split
  · rename_i h
    have hi : p.toNat < s.size := by
      apply Classical.byContradiction
      intro hc
      rw [head_end hc] at h
      cases h.2
    have ha := afterE_le hi
    have ht := runE_le (p := tagU) ha.2
    rcases tagE_ends s s.size (runE tagU s (afterE s p.toNat)) (by omega) ht.2 with h2 | ⟨m, hm, e, hk, h62⟩
    · exact .inl h2
    · exact .inr ⟨m, hm, e, by omega, h62⟩
  · exact .inl rfl

/-- No two attributes of one name. -/
def Once (l : List AttrB) : Prop := l.Pairwise fun p q => (q.1.toList == p.1.toList) = false

theorem once_more {l : List AttrB} {p : AttrB} (h : Once l) (hp : hasA l p.1 = false) : Once (l ++ [p]) := by
  unfold Once at *
  rw [List.pairwise_append]
  refine ⟨h, List.pairwise_singleton _ _, fun a ha b hb => ?_⟩
  rw [List.mem_singleton] at hb
  subst hb
  unfold hasA at hp
  rw [List.any_eq_false] at hp
  have h1 := hp a ha
  cases h2 : b.1.toList == a.1.toList
  · rfl
  · rw [beq_iff_eq] at h2
    rw [← h2] at h1
    simp at h1

theorem attrsE_once (s : ByteArray) : ∀ (d k : Nat) (out : List AttrB) (self : Bool), s.size - k ≤ d → Once out → k ≤ s.size → Once (attrsE s k out self).1 := by
  intro d
  induction d with
  | zero =>
    intro k out self hd ho hk
    rw [attrsE_end (by omega)]
    exact ho
  | succ d ih =>
    intro k out self hd ho hk
    by_cases h : k < s.size
    · by_cases h2 : runE skipU s k < s.size
      · rw [attrsE_goes h rfl h2]
        have h3 := attrAt_le (s := s) (k := k) rfl h2
        have h4 := runE_le (p := skipU) hk
        refine ih _ _ _ (by omega) ?_ h3.2
        split
        · exact ho
        · rename_i hh
          exact once_more ho (by simpa using hh)
      · rw [attrsE_last h rfl h2]
        exact ho
    · rw [attrsE_end h]
      exact ho

end Go.Proofs.YtlaidaghmhmgbaaDoor.Sg
