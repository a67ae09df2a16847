/- What is looked for by halves in a sorted list is found just where it is; a set of names. No program in it. -/
import Derived.Test.YtjbjmjnjdadjcaaKtP
import Derived.Shelf.Spec.SearchS
import Derived.Sort.KeysCollected
import Derived.Sort.Walk0
namespace Go.Proofs.Ytjbjmjnjdadjcaa.Sg
open Go.Maps

/-- The texts of a list, and behind it the one that is looked for. -/
def nth (ts : List (List UInt8)) (x : List UInt8) (t : Nat) : ByteArray := strB (ts.getD t x)

theorem toList_strB (l : List UInt8) : (strB l).toList = l := by rw [ByteArray.toList_eq]; simp [strB]

theorem lessL (ts : List (List UInt8)) (s : ByteArray) (t : Nat) : Op.bytesLess (nth ts s.data.toList t).toList s.toList = decide (ts.getD t s.data.toList < s.data.toList) := by
  unfold nth
  rw [toList_strB, ByteArray.toList_eq]
  exact bytesLess_eq _ _

theorem sorted_at {ts : List (List UInt8)} (hs : ts.Pairwise (· ≤ ·)) {i j : Nat} (hij : i < j) (hj : j < ts.length) (x : List UInt8) : ts.getD i x ≤ ts.getD j x := by
  have h := List.pairwise_iff_getElem.1 hs i j (by omega) hj hij
  simpa [List.getD, show i < ts.length by omega, hj] using h

/-- How many are below. -/
def lowN (ts : List (List UInt8)) (x : List UInt8) : Nat := (ts.takeWhile fun y => decide (y < x)).length

theorem lowN_le (ts : List (List UInt8)) (x : List UInt8) : lowN ts x ≤ ts.length := (List.takeWhile_sublist _).length_le

theorem low_yes (ts : List (List UInt8)) (x : List UInt8) (t : Nat) (h : t < lowN ts x) : ts.getD t x < x := by
  have h1 : t < (ts.takeWhile fun y => decide (y < x)).length := h
  have h2 := List.all_eq_true.1 (List.all_takeWhile (l := ts) (p := fun y => decide (y < x))) _ (List.getElem_mem h1)
  have h3 : (ts.takeWhile fun y => decide (y < x))[t] = ts[t]'(Nat.lt_of_lt_of_le h (lowN_le ts x)) := (List.takeWhile_prefix _).getElem h1
  rw [h3] at h2
  simpa [List.getD, Nat.lt_of_lt_of_le h (lowN_le ts x)] using h2

theorem low_end : ∀ (ts : List (List UInt8)) (x : List UInt8), ¬ ts.getD (lowN ts x) x < x
  | [], x => by simp [List.getD, List.lt_irrefl x]
  | y :: r, x => by
    by_cases h : y < x
    · have e : lowN (y :: r) x = lowN r x + 1 := by simp [lowN, h]
      rw [e]
      simpa [List.getD] using low_end r x
    · have e : lowN (y :: r) x = 0 := by simp [lowN, h]
      rw [e]
      simpa [List.getD] using h

theorem low_no {ts : List (List UInt8)} (hs : ts.Pairwise (· ≤ ·)) (x : List UInt8) (t : Nat) (h : lowN ts x ≤ t) : ¬ ts.getD t x < x := by
  by_cases he : t = lowN ts x
  · rw [he]; exact low_end ts x
  · by_cases hl : t < ts.length
    · have h1 := sorted_at hs (show lowN ts x < t by omega) hl x
      intro h2
      exact low_end ts x (List.lt_of_le_of_lt h1 h2)
    · rw [List.getD, List.getElem?_eq_none (by omega)]
      exact List.lt_irrefl x

theorem found_low {ts : List (List UInt8)} (hs : ts.Pairwise (· ≤ ·)) (s : ByteArray) :
    Lib.bsGo (fun t => Op.bytesLess (nth ts s.data.toList t).toList s.toList) ts.length 0 ts.length = lowN ts s.data.toList := by
  refine Lib.bsGo_spec _ _ (fun t ht => ?_) (fun t ht => ?_) _ _ _ (by omega) (Nat.zero_le _) (lowN_le _ _)
  · show Op.bytesLess _ _ = true
    rw [lessL]; exact decide_eq_true (low_yes _ _ _ ht)
  · show Op.bytesLess _ _ = false
    rw [lessL]; exact decide_eq_false (low_no hs _ _ ht)

/-- It is found just where it is. -/
theorem found_iff {ts : List (List UInt8)} (hs : ts.Pairwise (· ≤ ·)) (s : ByteArray) :
    (lowN ts s.data.toList < ts.length ∧ nth ts s.data.toList (lowN ts s.data.toList) = s) ↔ s.data.toList ∈ ts := by
  constructor
  · rintro ⟨h1, h2⟩
    have h3 : ts.getD (lowN ts s.data.toList) s.data.toList = s.data.toList := strB_inj (h2.trans (strB_of s).symm)
    rw [← h3]
    rw [List.getD, List.getElem?_eq_getElem h1]
    exact List.getElem_mem h1
  · intro h
    obtain ⟨j, hj, e⟩ := List.getElem_of_mem h
    have hjk : lowN ts s.data.toList ≤ j := by
      apply Nat.le_of_not_lt
      intro hlt
      have := low_yes ts s.data.toList j hlt
      rw [List.getD, List.getElem?_eq_getElem hj, Option.getD_some, e] at this
      exact List.lt_irrefl _ this
    have hk : lowN ts s.data.toList < ts.length := by omega
    refine ⟨hk, ?_⟩
    have h1 : ts.getD (lowN ts s.data.toList) s.data.toList ≤ s.data.toList := by
      by_cases he : lowN ts s.data.toList = j
      · rw [he, List.getD, List.getElem?_eq_getElem hj, Option.getD_some, e]
        exact List.le_refl _
      · have := sorted_at hs (show lowN ts s.data.toList < j by omega) hj s.data.toList
        rwa [show ts.getD j s.data.toList = s.data.toList by rw [List.getD, List.getElem?_eq_getElem hj, Option.getD_some, e]] at this
    have h2 : ts.getD (lowN ts s.data.toList) s.data.toList = s.data.toList := List.le_antisymm h1 (List.not_lt.1 (low_end ts s.data.toList))
    unfold nth
    rw [h2]
    exact strB_of s

/-- The set of some names. -/
def setL (ls : List (List UInt8)) : DataW Unit := setOf (.agg []) (ls.map Lit.string)

theorem any_str (x : List UInt8) : ∀ l : List (List UInt8), (l.map Lit.string).any (fun y => y.sameKey (.string x)) = l.any fun y => y == x
  | [] => rfl
  | a :: r => by
    rw [List.map_cons, List.any_cons, List.any_cons, any_str x r]
    congr 1

/-- A name is in the set just if it is on the list. -/
theorem has_setL (s : ByteArray) (ls : List (List UInt8)) : Maps.has (setL ls) (.string s.data.toList) = isIn s ls := by
  unfold setL
  rw [has_setOf _ _ _ (fun y hy => by obtain ⟨_, _, rfl⟩ := List.mem_map.1 hy; trivial), any_str]
  rfl

end Go.Proofs.Ytjbjmjnjdadjcaa.Sg
