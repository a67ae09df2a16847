/- A note, by what stands up to the next two bytes 45. Plain. -/
import Derived.Test.YtbmmghkieolpkaaGreatDoorME105
import Derived.Test.YtbmmghkieolpkaaGreatDoorME110
import Derived.Test.YtbmmghkieolpkaaGreatDoorME104
namespace Go.Proofs.YtbmmghkieolpkaaGreatDoor.Sg

theorem stands_gen {s : ByteArray} {p : Nat} (t : List UInt8) (h : p ≤ s.size) : standsB s p (strB t) = t.isPrefixOf (tailL s p) := by
  obtain ⟨e, hl⟩ := ptail_all s p h
  have h1 := stands_pre (s.data.toList.take p) (tailL s p) t
  rw [hl, ← e] at h1
  exact h1
theorem search_none {s t : ByteArray} : ∀ (d k : Nat), s.size + 1 - k ≤ d → (∀ p, k ≤ p → standsB s p t = false) → searchE s k t = none := by
  intro d
  induction d with
  | zero =>
    intro k hd _
    exact searchE_end (by omega)
  | succ d ih =>
    intro k hd h
    by_cases h1 : k + t.size ≤ s.size
    · rw [searchE_no h1 (h k (Nat.le_refl _))]
      exact ih (k + 1) (by omega) fun p hp => h p (by omega)
    · exact searchE_end h1
theorem search_hit {s t : ByteArray} {m : Nat} (hm : standsB s m t = true) : ∀ (d k : Nat), m - k ≤ d → k ≤ m → (∀ p, k ≤ p → p < m → standsB s p t = false) → searchE s k t = some m := by
  have hle := stands_le hm
  intro d
  induction d with
  | zero =>
    intro k hd hk _
    obtain rfl : k = m := by omega
    exact searchE_yes hm
  | succ d ih =>
    intro k hd hk h
    by_cases hkm : k = m
    · subst hkm
      exact searchE_yes hm
    · rw [searchE_no (by omega) (h k (Nat.le_refl _) (by omega))]
      exact ih (k + 1) (by omega) (by omega) fun p h1 h2 => h p (by omega) h2
theorem search_two {s : ByteArray} {k : Nat} (hk : k ≤ s.size) : searchE s k twoB = if 0 ≤ Lib.index (tailL s k) [45, 45] then some (k + (Lib.index (tailL s k) [45, 45]).toNat) else none := by
  have hlen := tailL_length s k
  have hocc : ∀ j, k + j ≤ s.size → Lib.occAt (tailL s k) [45, 45] j = standsB s (k + j) twoB := by
    intro j hj
    unfold Lib.occAt
    rw [tailL_drop]
    exact (stands_gen [45, 45] hj).symm
  rcases Lib.index_spec (tailL s k) [45, 45] with ⟨e1, e2⟩ | ⟨i, e1, e2, e3, e4⟩
  · rw [e1, if_neg (by decide)]
    refine search_none (s.size + 1) k (by omega) fun p hp => ?_
    by_cases hps : p ≤ s.size
    · have h1 := hocc (p - k) (by omega)
      rw [show k + (p - k) = p by omega, e2 (p - k) (by omega)] at h1
      exact h1.symm
    · unfold standsB
      rw [decide_eq_false (by omega), Bool.false_and]
  · rw [e1, if_pos (by omega), show ((i : Nat) : Int).toNat = i from rfl]
    have h3 := hocc i (by omega)
    rw [e3] at h3
    refine search_hit h3.symm i k (by omega) (by omega) fun p h1 h2 => ?_
    have h4 := hocc (p - k) (by omega)
    rw [show k + (p - k) = p by omega, e4 (p - k) (by omega)] at h4
    exact h4.symm
/-- What the program tells of a note: where it ends. -/
def noteP (s : ByteArray) (k : Nat) : Option Nat :=
  if Lib.hasPrefix (tailL s k) [60, 33, 45, 45] then
    if 0 ≤ Lib.index (tailL s (k + 4)) [45, 45] then
      let m := k + 4 + (Lib.index (tailL s (k + 4)) [45, 45]).toNat
      if stNoteB (s.extract (k + 4) m) && Lib.hasPrefix (tailL s (m + 2)) [62] then some m else none
    else none
  else none
theorem noteP_eq {s : ByteArray} {k : Nat} (hk : k ≤ s.size) : xnoteR s k = noteP s k := by
  have ho : standsB s k openNoteB = Lib.hasPrefix (tailL s k) [60, 33, 45, 45] := stands_gen [60, 33, 45, 45] hk
  unfold xnoteR noteP
  rw [ho]
  cases hp : Lib.hasPrefix (tailL s k) [60, 33, 45, 45]
  · rfl
  · rw [hp] at ho
    have h4 : k + 4 ≤ s.size := stands_le ho
    rw [if_pos rfl, if_pos rfl, search_two h4]
    rcases Lib.index_spec (tailL s (k + 4)) [45, 45] with ⟨e1, e2⟩ | ⟨i, e1, e2, e3, e4⟩
    · rw [e1, if_neg (by decide), if_neg (by decide)]
    · rw [e1, if_pos (by omega), if_pos (by omega), show ((i : Nat) : Int).toNat = i from rfl]
      have hroom := Lib.index_room (tailL s (k + 4)) [45, 45] (by omega)
      have hlen := tailL_length s (k + 4)
      rw [e1] at hroom
      simp only [List.length_cons, List.length_nil] at hroom
      have hs : standsB s (k + 4 + i) shutNoteB = Lib.hasPrefix (tailL s (k + 4 + i + 2)) [62] := by
        rw [show shutNoteB = strB [45, 45, 62] from rfl, stands_gen [45, 45, 62] (by omega)]
        unfold Lib.occAt at e3
        rw [tailL_drop, List.isPrefixOf_iff_prefix] at e3
        obtain ⟨r, hr⟩ := e3
        have hr2 : tailL s (k + 4 + i + 2) = r := by
          rw [← tailL_drop s (k + 4 + i) 2, ← hr]
          rfl
        rw [hr2, ← hr]
        rfl
      simp only
      rw [hs, Bool.and_comm]

end Go.Proofs.YtbmmghkieolpkaaGreatDoor.Sg
