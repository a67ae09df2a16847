/- Plain: texts that are sorted, of which runs of like ones are one. The beginning of a row that is owned. -/
import Derived.Test.YtlnegnikedinaaaSgOk
import Derived.OwnWalk
import Derived.Lib.SlicesCompact
import Derived.Sort.Walk0
import Derived.Sort.OwnSorted
namespace Go.Proofs.Ytlnegnikedinaaa.Sg
open Go.ChangeShapes Go.WideShapes Go.ChangeAt Go.RowKit Go.Sort

theorem le_or (a b : List UInt8) (h : a ≤ b) (hn : a ≠ b) : a < b := by
  by_cases h1 : a < b
  · exact h1
  · exact absurd (List.le_antisymm h (List.not_lt.1 h1)) hn

/-- Lists in strict order with the same members are one. -/
theorem eq_of_members : ∀ (a b : List (List UInt8)), a.Pairwise (· < ·) → b.Pairwise (· < ·) → (∀ x, x ∈ a ↔ x ∈ b) → a = b
  | [], [], _, _, _ => rfl
  | [], y :: b, _, _, h => absurd ((h y).2 List.mem_cons_self) List.not_mem_nil
  | x :: a, [], _, _, h => absurd ((h x).1 List.mem_cons_self) List.not_mem_nil
  | x :: a, y :: b, ha, hb, h => by
    rw [List.pairwise_cons] at ha hb
    have e : x = y := by
      rcases List.mem_cons.1 ((h x).1 List.mem_cons_self) with e | m1
      · exact e
      · rcases List.mem_cons.1 ((h y).2 List.mem_cons_self) with e | m2
        · exact e.symm
        · exact absurd (List.lt_trans (hb.1 x m1) (ha.1 y m2)) (List.lt_irrefl _)
    subst e
    rw [eq_of_members a b ha.2 hb.2 fun z => ?_]
    constructor
    · intro m
      rcases List.mem_cons.1 ((h z).1 (List.mem_cons_of_mem _ m)) with e | m1
      · subst e
        exact absurd (ha.1 _ m) (List.lt_irrefl _)
      · exact m1
    · intro m
      rcases List.mem_cons.1 ((h z).2 (List.mem_cons_of_mem _ m)) with e | m1
      · subst e
        exact absurd (hb.1 _ m) (List.lt_irrefl _)
      · exact m1

/-- What is kept of a sorted list is in strict order, and no member is lost. -/
theorem compact_upto (ts : List (List UInt8)) (hs : ts.Pairwise (· ≤ ·)) : ∀ m, m ≤ ts.length →
    (Lib.compactUpTo ts.toArray m).Pairwise (· < ·) ∧ ∀ x, x ∈ Lib.compactUpTo ts.toArray m ↔ ∃ j, j < m ∧ ts.toArray[j]! = x
  | 0, _ => ⟨by simp [Lib.compactUpTo], fun x => by simp [Lib.compactUpTo]⟩
  | m + 1, hm => by
    obtain ⟨h1, h2⟩ := compact_upto ts hs m (by omega)
    have le : ∀ i j, i ≤ j → j < ts.length → ts.toArray[i]! ≤ ts.toArray[j]! := fun i j hij hj => by
      have ei : ts.toArray[i]! = ts[i]'(by omega) := by simp [getElem!_pos, show i < ts.length by omega]
      have ej : ts.toArray[j]! = ts[j] := by simp [getElem!_pos, hj]
      rw [ei, ej]
      by_cases e : i = j
      · subst e
        exact List.le_refl _
      · exact List.pairwise_iff_getElem.1 hs i j (by omega) hj (by omega)
    rw [Lib.compactUpTo_succ]
    cases hk : Lib.keeps ts.toArray m with
    | true =>
      rw [if_pos rfl]
      constructor
      · rw [List.pairwise_append]
        refine ⟨h1, List.pairwise_singleton _ _, fun x hx y hy => ?_⟩
        obtain ⟨j, hj, rfl⟩ := (h2 x).1 hx
        rw [List.mem_singleton.1 hy]
        have hne : ts.toArray[m]! ≠ ts.toArray[m - 1]! := by
          rcases of_decide_eq_true hk with e | e
          · omega
          · exact e
        have l1 := le j (m - 1) (by omega) (by omega)
        have l2 := le (m - 1) m (by omega) (by omega)
        exact List.lt_of_le_of_lt l1 (le_or _ _ l2 hne.symm)
      · intro x
        rw [List.mem_append, h2 x, List.mem_singleton]
        constructor
        · rintro (⟨j, hj, e⟩ | e)
          · exact ⟨j, by omega, e⟩
          · exact ⟨m, by omega, e.symm⟩
        · rintro ⟨j, hj, e⟩
          by_cases e1 : j = m
          · subst e1
            exact .inr e.symm
          · exact .inl ⟨j, by omega, e⟩
    | false =>
      rw [if_neg (by decide), List.append_nil]
      refine ⟨h1, fun x => ?_⟩
      rw [h2 x]
      have hd := of_decide_eq_false hk
      have hm0 : m ≠ 0 := fun e => hd (.inl e)
      have he : ts.toArray[m]! = ts.toArray[m - 1]! := Decidable.byContradiction fun e => hd (.inr e)
      constructor
      · rintro ⟨j, hj, e⟩
        exact ⟨j, by omega, e⟩
      · rintro ⟨j, hj, e⟩
        by_cases e1 : j = m
        · subst e1
          exact ⟨j - 1, by omega, by rw [← he]; exact e⟩
        · exact ⟨j, by omega, e⟩
theorem compact_sorted (ts : List (List UInt8)) (hs : ts.Pairwise (· ≤ ·)) : (Lib.compact ts).Pairwise (· < ·) ∧ ∀ x, x ∈ Lib.compact ts ↔ x ∈ ts := by
  obtain ⟨h1, h2⟩ := compact_upto ts hs ts.length (Nat.le_refl _)
  refine ⟨h1, fun x => (h2 x).trans ⟨?_, fun h => ?_⟩⟩
  · rintro ⟨j, hj, rfl⟩
    rw [show ts.toArray[j]! = ts[j] by simp [getElem!_pos, hj]]
    exact List.getElem_mem hj
  · obtain ⟨j, hj, rfl⟩ := List.getElem_of_mem h
    exact ⟨j, hj, by simp [getElem!_pos, hj]⟩
theorem compact_len (ts : List (List UInt8)) : (Lib.compact ts).length ≤ ts.length := by
  unfold Lib.compact Lib.compactUpTo
  rw [List.length_map]
  have := List.length_filter_le (Lib.keeps ts.toArray) (List.range ts.length)
  rw [List.length_range] at this
  exact this

def dL (s : ByteArray) : List UInt8 := s.data.toList
theorem dL_inj {s t : ByteArray} (h : dL s = dL t) : s = t := by
  obtain ⟨⟨a⟩⟩ := s
  obtain ⟨⟨b⟩⟩ := t
  unfold dL at h
  simp at h
  rw [h]
theorem sorted_msB (ss : List (List UInt8)) : (ss.mergeSort fun x y => decide (x ≤ y)).Pairwise (· ≤ ·) := by
  have h := List.pairwise_mergeSort (le := fun x y : List UInt8 => decide (x ≤ y)) (fun a b c h1 h2 => by simp only [decide_eq_true_eq] at *; exact List.le_trans h1 h2) (fun a b => by simp only [Bool.or_eq_true, decide_eq_true_eq]; exact List.le_total a b) ss
  exact h.imp fun {a b} h1 => of_decide_eq_true h1

theorem keeps_all {ts : List (List UInt8)} (h : (Lib.compact ts).length = ts.length) : Lib.compact ts = ts := by
  unfold Lib.compact Lib.compactUpTo at h ⊢
  rw [List.length_map] at h
  have hf : (List.range ts.length).filter (Lib.keeps ts.toArray) = List.range ts.length := by
    refine List.filter_eq_self.2 ?_
    refine List.length_filter_eq_length_iff.1 ?_
    rw [h, List.length_range]
  rw [hf]
  refine List.ext_getElem (by simp) fun k h1 h2 => ?_
  simp [h2]
/-- As many are left as there were just where none stands twice. -/
theorem compact_nodup (ss : List (List UInt8)) : (Lib.compact (ss.mergeSort fun x y => decide (x ≤ y))).length = ss.length ↔ ss.Nodup := by
  have hs := sorted_msB ss
  have hp : (ss.mergeSort fun x y => decide (x ≤ y)).Perm ss := List.mergeSort_perm _ _
  rw [← hp.nodup_iff, ← hp.length_eq]
  generalize (ss.mergeSort fun x y => decide (x ≤ y)) = ts at *
  obtain ⟨h1, h2⟩ := compact_sorted ts hs
  constructor
  · intro h
    rw [keeps_all h] at h1
    exact h1.imp fun {a b} hab e => by
      subst e
      exact List.lt_irrefl _ hab
  · intro hn
    have h3 : ts.Pairwise (· < ·) := List.Pairwise.imp₂ (fun a b hab hne => le_or a b hab hne) hs hn
    rw [eq_of_members _ _ h1 h3 h2]

/-- The beginning of a row that is owned. -/
theorem owns_cut {w : World} {base g cap n m : Nat} {e : TypeId} {xs : List Value} (h : w.ownsRow base e 1 (.slice (some ⟨g, 0, none⟩) n cap) n xs) (hm : m ≤ n) : w.ownsRow base e 1 (.slice (some ⟨g, 0, none⟩) m cap) m (xs.take m) := by
  obtain ⟨h1, h2⟩ := h
  rcases h2 with ⟨h2, _⟩ | ⟨g', cap', cur, hv, h3, h4, h5, h6, h7, h8⟩
  · cases h2
  · cases hv
    refine ⟨by rw [List.length_take, h1]; omega, .inr ⟨g, cap, cur, rfl, h3, h4, by omega, h6, h7, ?_⟩⟩
    rw [← h8, List.take_take]
    congr 1
    omega

end Go.Proofs.Ytlnegnikedinaaa.Sg
