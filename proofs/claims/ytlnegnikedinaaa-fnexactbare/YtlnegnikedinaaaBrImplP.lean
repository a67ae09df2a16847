/- Plain: names that are sorted, of which runs of like ones are one, are the names of tags, each once, in their order. No program in it. -/
import Derived.Test.YtlnegnikedinaaaBrP
import Derived.Test.YtlnegnikedinaaaGSort
import Derived.Lib.SlicesCompact
import Derived.Sort.Walk0
import Derived.Sort.OwnSorted
namespace Go.Proofs.Ytlnegnikedinaaa.Sg

theorem less_dL (s t : ByteArray) : Op.bytesLess s.toList t.toList = decide (dL s < dL t) := by
  rw [ByteArray.toList_eq, ByteArray.toList_eq]
  exact bytesLess_eq _ _
def insL (x : List UInt8) : List (List UInt8) → List (List UInt8)
  | [] => [x]
  | y :: r => if y < x then y :: insL x r else x :: y :: r
theorem insT_cons (s y : ByteArray) (o : List ByteArray) : insT s (y :: o) = if Op.bytesLess y.toList s.toList then y :: insT s o else s :: y :: o := by
  unfold insT
  rw [lowT]
  split <;> simp
theorem insT_dL (s : ByteArray) : ∀ o, (insT s o).map dL = insL (dL s) (o.map dL)
  | [] => by simp [insT, lowT, insL]
  | y :: o => by
    rw [insT_cons, less_dL, List.map_cons, insL]
    by_cases h : dL y < dL s
    · simp only [h, decide_true, if_true]
      rw [List.map_cons, insT_dL s o]
    · simp [h]
theorem insL_mem (x z : List UInt8) : ∀ o, z ∈ insL x o ↔ z = x ∨ z ∈ o
  | [] => by simp [insL]
  | y :: o => by
    rw [insL]
    split
    · rw [List.mem_cons, insL_mem x z o, List.mem_cons]
      constructor
      · rintro (h | h | h)
        · exact .inr (.inl h)
        · exact .inl h
        · exact .inr (.inr h)
      · rintro (h | h | h)
        · exact .inr (.inl h)
        · exact .inl h
        · exact .inr (.inr h)
    · rw [List.mem_cons]
theorem insL_sorted (x : List UInt8) : ∀ o : List (List UInt8), o.Pairwise (· < ·) → x ∉ o → (insL x o).Pairwise (· < ·)
  | [], _, _ => by simp [insL]
  | y :: o, h, hx => by
    rw [List.pairwise_cons] at h
    rw [List.mem_cons, not_or] at hx
    rw [insL]
    split
    · rename_i hlt
      rw [List.pairwise_cons]
      refine ⟨fun z hz => ?_, insL_sorted x o h.2 hx.2⟩
      rcases (insL_mem x z o).1 hz with e | m
      · rw [e]; exact hlt
      · exact h.1 z m
    · rename_i hlt
      have hxy : x < y := le_or _ _ (List.not_lt.1 hlt) hx.1
      rw [List.pairwise_cons, List.pairwise_cons]
      refine ⟨fun z hz => ?_, h⟩
      rcases List.mem_cons.1 hz with e | m
      · rw [e]; exact hxy
      · exact List.lt_trans hxy (h.1 z m)
theorem hasT_iff (s : ByteArray) : ∀ o : List ByteArray, hasT s o = true ↔ dL s ∈ o.map dL
  | [] => by simp [hasT]
  | y :: o => by
    have e : hasT s (y :: o) = (y.toList == s.toList || hasT s o) := rfl
    rw [e, Bool.or_eq_true, hasT_iff s o, List.map_cons, List.mem_cons, beq_iff_eq, ByteArray.toList_eq, ByteArray.toList_eq]
    exact or_congr_left eq_comm

/-- The names of tags, as they stand. -/
def namesL (l : List ItB) : List (List UInt8) := (l.filter fun t => t.kd == 2).map fun t => dL t.nm
theorem namesL_step (l : List ItB) (k : Nat) (h : k < l.length) : namesL (l.take (k + 1)) = namesL (l.take k) ++ if (l[k]'h).kd == 2 then [dL (l[k]'h).nm] else [] := by
  unfold namesL
  rw [List.take_add_one, List.getElem?_eq_getElem h, List.filter_append, List.map_append]
  congr 1
  cases hk : (l[k]'h).kd == 2 <;> simp [hk]
theorem bareF_sorted : ∀ (l : List ItB) (o : List ByteArray), (o.map dL).Pairwise (· < ·) → ((bareF l o).map dL).Pairwise (· < ·) ∧ ∀ x, x ∈ (bareF l o).map dL ↔ x ∈ o.map dL ∨ x ∈ namesL l
  | [], o, h => ⟨h, fun x => by simp [bareF, namesL]⟩
  | t :: l, o, h => by
    rw [bareF]
    cases hk : (t.kd == 2) with
    | false =>
      have e : namesL (t :: l) = namesL l := by simp [namesL, hk]
      rw [e]
      exact bareF_sorted l o h
    | true =>
      have e : namesL (t :: l) = dL t.nm :: namesL l := by simp [namesL, hk]
      rw [e]
      cases hh : hasT t.nm o with
      | true =>
        obtain ⟨h1, h2⟩ := bareF_sorted l o h
        refine ⟨h1, fun x => ?_⟩
        have hm := (hasT_iff _ _).1 hh
        show x ∈ (bareF l o).map dL ↔ _
        rw [h2 x, List.mem_cons]
        constructor
        · rintro (h | h)
          · exact .inl h
          · exact .inr (.inr h)
        · rintro (h | h | h)
          · exact .inl h
          · rw [h]; exact .inl hm
          · exact .inr h
      | false =>
        have hm : dL t.nm ∉ o.map dL := fun m => by rw [(hasT_iff _ _).2 m] at hh; cases hh
        obtain ⟨h1, h2⟩ := bareF_sorted l (insT t.nm o) (by rw [insT_dL]; exact insL_sorted _ _ h hm)
        refine ⟨h1, fun x => ?_⟩
        show x ∈ (bareF l (insT t.nm o)).map dL ↔ _
        rw [h2 x, insT_dL, insL_mem, List.mem_cons]
        constructor
        · rintro ((h | h) | h)
          · exact .inr (.inl h)
          · exact .inl h
          · exact .inr (.inr h)
        · rintro (h | h | h)
          · exact .inl (.inr h)
          · exact .inl (.inl h)
          · exact .inr h

theorem bare_is (l : List ItB) : Lib.compact ((namesL l).mergeSort fun x y => decide (x ≤ y)) = (bareL l).map dL := by
  obtain ⟨h1, h2⟩ := compact_sorted _ (sorted_msB (namesL l))
  obtain ⟨g1, g2⟩ := bareF_sorted l [] List.Pairwise.nil
  refine eq_of_members _ _ h1 g1 fun x => ?_
  rw [h2 x, List.mem_mergeSort]
  show _ ↔ x ∈ (bareF l []).map dL
  rw [g2 x]
  simp
theorem enc_dL (l : List ByteArray) : (l.map dL).map encStr = strCs l := by
  unfold strCs
  rw [List.map_map]
  refine List.map_congr_left fun s _ => ?_
  rfl

end Go.Proofs.Ytlnegnikedinaaa.Sg
