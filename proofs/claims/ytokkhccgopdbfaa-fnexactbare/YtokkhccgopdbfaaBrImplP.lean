/- Plain: names that are sorted, of which runs of like ones are one, are the names of tags, each once, in their order. No program in it. -/
import Derived.Test.YtokkhccgopdbfaaBrP
import Derived.Lib.SlicesCompact
import Derived.Sort.Walk0
import Derived.Sort.OwnSorted
namespace Go.Proofs.Ytokkhccgopdbfaa.Sg

theorem le_or (a b : List UInt8) (h : a ≤ b) (hn : a ≠ b) : a < b := by
  by_cases h1 : a < b
  · exact h1
  · exact absurd (List.le_antisymm h (List.not_lt.1 h1)) hn

/-- Lists in strict order with the same members are one. -/
theorem eq_of_members : ∀ (a b : List (List UInt8)), a.Pairwise (· < ·) → b.Pairwise (· < ·) → (∀ x, x ∈ a ↔ x ∈ b) → a = b
  | [], [], _, _, _ => rfl
  | [], y :: b, _, _, h => absurd ((h y).2 List.mem_cons_self) List.not_mem_nil
  | x :: a, [], _, _, h => absurd ((h x).1 List.mem_cons_self) List.not_mem_nil
  | x :: a, y :: b, ha, hb, h => by
    rw [List.pairwise_cons] at ha hb
    have e : x = y := by
      rcases List.mem_cons.1 ((h x).1 List.mem_cons_self) with e | m1
      · exact e
      · rcases List.mem_cons.1 ((h y).2 List.mem_cons_self) with e | m2
        · exact e.symm
        · exact absurd (List.lt_trans (hb.1 x m1) (ha.1 y m2)) (List.lt_irrefl _)
    subst e
    rw [eq_of_members a b ha.2 hb.2 fun z => ?_]
    constructor
    · intro m
      rcases List.mem_cons.1 ((h z).1 (List.mem_cons_of_mem _ m)) with e | m1
      · subst e
        exact absurd (ha.1 _ m) (List.lt_irrefl _)
      · exact m1
    · intro m
      rcases List.mem_cons.1 ((h z).2 (List.mem_cons_of_mem _ m)) with e | m1
      · subst e
        exact absurd (hb.1 _ m) (List.lt_irrefl _)
      · exact m1

/-- What is kept of a sorted list is in strict order, and no member is lost. -/
theorem compact_upto (ts : List (List UInt8)) (hs : ts.Pairwise (· ≤ ·)) : ∀ m, m ≤ ts.length →
    (Lib.compactUpTo ts.toArray m).Pairwise (· < ·) ∧ ∀ x, x ∈ Lib.compactUpTo ts.toArray m ↔ ∃ j, j < m ∧ ts.toArray[j]! = x
  | 0, _ => ⟨by simp [Lib.compactUpTo], fun x => by simp [Lib.compactUpTo]⟩
  | m + 1, hm => by
    obtain ⟨h1, h2⟩ := compact_upto ts hs m (by omega)
    have le : ∀ i j, i ≤ j → j < ts.length → ts.toArray[i]! ≤ ts.toArray[j]! := fun i j hij hj => by
      have ei : ts.toArray[i]! = ts[i]'(by omega) := by simp [getElem!_pos, show i < ts.length by omega]
      have ej : ts.toArray[j]! = ts[j] := by simp [getElem!_pos, hj]
      rw [ei, ej]
      by_cases e : i = j
      · subst e
        exact List.le_refl _
      · exact List.pairwise_iff_getElem.1 hs i j (by omega) hj (by omega)
    rw [Lib.compactUpTo_succ]
    cases hk : Lib.keeps ts.toArray m with
    | true =>
      rw [if_pos rfl]
      constructor
      · rw [List.pairwise_append]
        refine ⟨h1, List.pairwise_singleton _ _, fun x hx y hy => ?_⟩
        obtain ⟨j, hj, rfl⟩ := (h2 x).1 hx
        rw [List.mem_singleton.1 hy]
        have hne : ts.toArray[m]! ≠ ts.toArray[m - 1]! := by
          rcases of_decide_eq_true hk with e | e
          · omega
          · exact e
        have l1 := le j (m - 1) (by omega) (by omega)
        have l2 := le (m - 1) m (by omega) (by omega)
        exact List.lt_of_le_of_lt l1 (le_or _ _ l2 hne.symm)
      · intro x
        rw [List.mem_append, h2 x, List.mem_singleton]
        constructor
        · rintro (⟨j, hj, e⟩ | e)
          · exact ⟨j, by omega, e⟩
          · exact ⟨m, by omega, e.symm⟩
        · rintro ⟨j, hj, e⟩
          by_cases e1 : j = m
          · subst e1
            exact .inr e.symm
          · exact .inl ⟨j, by omega, e⟩
    | false =>
      rw [if_neg (by decide), List.append_nil]
      refine ⟨h1, fun x => ?_⟩
      rw [h2 x]
      have hd := of_decide_eq_false hk
      have hm0 : m ≠ 0 := fun e => hd (.inl e)
      have he : ts.toArray[m]! = ts.toArray[m - 1]! := Decidable.byContradiction fun e => hd (.inr e)
      constructor
      · rintro ⟨j, hj, e⟩
        exact ⟨j, by omega, e⟩
      · rintro ⟨j, hj, e⟩
        by_cases e1 : j = m
        · subst e1
          exact ⟨j - 1, by omega, by rw [← he]; exact e⟩
        · exact ⟨j, by omega, e⟩
theorem compact_sorted (ts : List (List UInt8)) (hs : ts.Pairwise (· ≤ ·)) : (Lib.compact ts).Pairwise (· < ·) ∧ ∀ x, x ∈ Lib.compact ts ↔ x ∈ ts := by
  obtain ⟨h1, h2⟩ := compact_upto ts hs ts.length (Nat.le_refl _)
  refine ⟨h1, fun x => (h2 x).trans ⟨?_, fun h => ?_⟩⟩
  · rintro ⟨j, hj, rfl⟩
    rw [show ts.toArray[j]! = ts[j] by simp [getElem!_pos, hj]]
    exact List.getElem_mem hj
  · obtain ⟨j, hj, rfl⟩ := List.getElem_of_mem h
    exact ⟨j, hj, by simp [getElem!_pos, hj]⟩
theorem compact_len (ts : List (List UInt8)) : (Lib.compact ts).length ≤ ts.length := by
  unfold Lib.compact Lib.compactUpTo
  rw [List.length_map]
  have := List.length_filter_le (Lib.keeps ts.toArray) (List.range ts.length)
  rw [List.length_range] at this
  exact this

def dL (s : ByteArray) : List UInt8 := s.data.toList
theorem dL_inj {s t : ByteArray} (h : dL s = dL t) : s = t := by
  obtain ⟨⟨a⟩⟩ := s
  obtain ⟨⟨b⟩⟩ := t
  unfold dL at h
  simp at h
  rw [h]
theorem less_dL (s t : ByteArray) : Op.bytesLess s.toList t.toList = decide (dL s < dL t) := by
  rw [ByteArray.toList_eq, ByteArray.toList_eq]
  exact bytesLess_eq _ _
def insL (x : List UInt8) : List (List UInt8) → List (List UInt8)
  | [] => [x]
  | y :: r => if y < x then y :: insL x r else x :: y :: r
theorem insT_cons (s y : ByteArray) (o : List ByteArray) : insT s (y :: o) = if Op.bytesLess y.toList s.toList then y :: insT s o else s :: y :: o := by
  unfold insT
  rw [lowT]
  split <;> simp
theorem insT_dL (s : ByteArray) : ∀ o, (insT s o).map dL = insL (dL s) (o.map dL)
  | [] => by simp [insT, lowT, insL]
  | y :: o => by
    rw [insT_cons, less_dL, List.map_cons, insL]
    by_cases h : dL y < dL s
    · simp only [h, decide_true, if_true]
      rw [List.map_cons, insT_dL s o]
    · simp [h]
theorem insL_mem (x z : List UInt8) : ∀ o, z ∈ insL x o ↔ z = x ∨ z ∈ o
  | [] => by simp [insL]
  | y :: o => by
    rw [insL]
    split
    · rw [List.mem_cons, insL_mem x z o, List.mem_cons]
      constructor
      · rintro (h | h | h)
        · exact .inr (.inl h)
        · exact .inl h
        · exact .inr (.inr h)
      · rintro (h | h | h)
        · exact .inr (.inl h)
        · exact .inl h
        · exact .inr (.inr h)
    · rw [List.mem_cons]
theorem insL_sorted (x : List UInt8) : ∀ o : List (List UInt8), o.Pairwise (· < ·) → x ∉ o → (insL x o).Pairwise (· < ·)
  | [], _, _ => by simp [insL]
  | y :: o, h, hx => by
    rw [List.pairwise_cons] at h
    rw [List.mem_cons, not_or] at hx
    rw [insL]
    split
    · rename_i hlt
      rw [List.pairwise_cons]
      refine ⟨fun z hz => ?_, insL_sorted x o h.2 hx.2⟩
      rcases (insL_mem x z o).1 hz with e | m
      · rw [e]; exact hlt
      · exact h.1 z m
    · rename_i hlt
      have hxy : x < y := le_or _ _ (List.not_lt.1 hlt) hx.1
      rw [List.pairwise_cons, List.pairwise_cons]
      refine ⟨fun z hz => ?_, h⟩
      rcases List.mem_cons.1 hz with e | m
      · rw [e]; exact hxy
      · exact List.lt_trans hxy (h.1 z m)
theorem hasT_iff (s : ByteArray) : ∀ o : List ByteArray, hasT s o = true ↔ dL s ∈ o.map dL
  | [] => by simp [hasT]
  | y :: o => by
    have e : hasT s (y :: o) = (y.toList == s.toList || hasT s o) := rfl
    rw [e, Bool.or_eq_true, hasT_iff s o, List.map_cons, List.mem_cons, beq_iff_eq, ByteArray.toList_eq, ByteArray.toList_eq]
    exact or_congr_left eq_comm

/-- The names of tags, as they stand. -/
def namesL (l : List ItB) : List (List UInt8) := (l.filter fun t => t.kd == 2).map fun t => dL t.nm
theorem namesL_step (l : List ItB) (k : Nat) (h : k < l.length) : namesL (l.take (k + 1)) = namesL (l.take k) ++ if (l[k]'h).kd == 2 then [dL (l[k]'h).nm] else [] := by
  unfold namesL
  rw [List.take_add_one, List.getElem?_eq_getElem h, List.filter_append, List.map_append]
  congr 1
  cases hk : (l[k]'h).kd == 2 <;> simp [hk]
theorem bareF_sorted : ∀ (l : List ItB) (o : List ByteArray), (o.map dL).Pairwise (· < ·) → ((bareF l o).map dL).Pairwise (· < ·) ∧ ∀ x, x ∈ (bareF l o).map dL ↔ x ∈ o.map dL ∨ x ∈ namesL l
  | [], o, h => ⟨h, fun x => by simp [bareF, namesL]⟩
  | t :: l, o, h => by
    rw [bareF]
    cases hk : (t.kd == 2) with
    | false =>
      have e : namesL (t :: l) = namesL l := by simp [namesL, hk]
      rw [e]
      exact bareF_sorted l o h
    | true =>
      have e : namesL (t :: l) = dL t.nm :: namesL l := by simp [namesL, hk]
      rw [e]
      cases hh : hasT t.nm o with
      | true =>
        obtain ⟨h1, h2⟩ := bareF_sorted l o h
        refine ⟨h1, fun x => ?_⟩
        have hm := (hasT_iff _ _).1 hh
        show x ∈ (bareF l o).map dL ↔ _
        rw [h2 x, List.mem_cons]
        constructor
        · rintro (h | h)
          · exact .inl h
          · exact .inr (.inr h)
        · rintro (h | h | h)
          · exact .inl h
          · rw [h]; exact .inl hm
          · exact .inr h
      | false =>
        have hm : dL t.nm ∉ o.map dL := fun m => by rw [(hasT_iff _ _).2 m] at hh; cases hh
        obtain ⟨h1, h2⟩ := bareF_sorted l (insT t.nm o) (by rw [insT_dL]; exact insL_sorted _ _ h hm)
        refine ⟨h1, fun x => ?_⟩
        show x ∈ (bareF l (insT t.nm o)).map dL ↔ _
        rw [h2 x, insT_dL, insL_mem, List.mem_cons]
        constructor
        · rintro ((h | h) | h)
          · exact .inr (.inl h)
          · exact .inl h
          · exact .inr (.inr h)
        · rintro (h | h | h)
          · exact .inl (.inr h)
          · exact .inl (.inl h)
          · exact .inr h

theorem sorted_msB (ss : List (List UInt8)) : (ss.mergeSort fun x y => decide (x ≤ y)).Pairwise (· ≤ ·) := by
  have h := List.pairwise_mergeSort (le := fun x y : List UInt8 => decide (x ≤ y)) (fun a b c h1 h2 => by simp only [decide_eq_true_eq] at *; exact List.le_trans h1 h2) (fun a b => by simp only [Bool.or_eq_true, decide_eq_true_eq]; exact List.le_total a b) ss
  exact h.imp fun {a b} h1 => of_decide_eq_true h1
theorem bare_is (l : List ItB) : Lib.compact ((namesL l).mergeSort fun x y => decide (x ≤ y)) = (bareL l).map dL := by
  obtain ⟨h1, h2⟩ := compact_sorted _ (sorted_msB (namesL l))
  obtain ⟨g1, g2⟩ := bareF_sorted l [] List.Pairwise.nil
  refine eq_of_members _ _ h1 g1 fun x => ?_
  rw [h2 x, List.mem_mergeSort]
  show _ ↔ x ∈ (bareF l []).map dL
  rw [g2 x]
  simp
theorem enc_dL (l : List ByteArray) : (l.map dL).map encStr = strCs l := by
  unfold strCs
  rw [List.map_map]
  refine List.map_congr_left fun s _ => ?_
  rfl

end Go.Proofs.Ytokkhccgopdbfaa.Sg
