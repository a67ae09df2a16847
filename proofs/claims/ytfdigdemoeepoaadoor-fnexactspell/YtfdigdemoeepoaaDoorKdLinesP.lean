/- Texts with lines told by one byte, as plain lists of bytes; what it is to replace all instances. No program in it. -/
import Derived.Lib.Replace
namespace Go.Proofs.YtfdigdemoeepoaaDoor.Sg
open Go.Lib

/-- A byte 13 is a byte 10; a byte 10 right behind a byte 13 is left out. -/
def linesG : Bool → List UInt8 → List UInt8
  | _, [] => []
  | p, b :: t => if b = 13 then 10 :: linesG true t else if b = 10 ∧ p = true then linesG false t else b :: linesG false t
def linesL (l : List UInt8) : List UInt8 := linesG false l
def linesS (s : ByteArray) : ByteArray := ⟨(linesL s.data.toList).toArray⟩

theorem linesG_back (l : List UInt8) (h : ∀ t, l ≠ 10 :: t) : linesG true l = linesG false l := by
  cases l with
  | nil => rfl
  | cons b t =>
    have hb : b ≠ 10 := fun e => h t (by rw [e])
    simp [linesG, hb]

theorem linesG_length (p : Bool) (l : List UInt8) : (linesG p l).length ≤ l.length := by
  induction l generalizing p with
  | nil => exact Nat.le_refl _
  | cons b t ih =>
    unfold linesG
    split
    · simpa using ih true
    · split
      · exact Nat.le_trans (ih false) (by simp)
      · simpa using ih false

theorem linesG_no (p : Bool) (l : List UInt8) : ∀ b ∈ linesG p l, b ≠ 13 := by
  induction l generalizing p with
  | nil => intro b hb; simp [linesG] at hb
  | cons c t ih =>
    intro b hb
    unfold linesG at hb
    split at hb
    · rcases List.mem_cons.1 hb with rfl | hb
      · decide
      · exact ih _ b hb
    · split at hb
      · exact ih _ b hb
      · rcases List.mem_cons.1 hb with rfl | hb
        · assumption
        · exact ih _ b hb

theorem linesG_stay (l : List UInt8) (h : ∀ b ∈ l, b ≠ 13) : linesG false l = l := by
  induction l with
  | nil => rfl
  | cons b t ih =>
    have hb := h b List.mem_cons_self
    simp [linesG, hb, ih fun c hc => h c (List.mem_cons_of_mem _ hc)]

theorem linesL_twice (l : List UInt8) : linesL (linesL l) = linesL l := linesG_stay _ (linesG_no _ _)

/-- All instances replaced, of an old that is not empty and not the new one. -/
def rep (old new s : List UInt8) : List UInt8 := replaceK old new (count s old) s

theorem rep_of {old new : List UInt8} (h : old ≠ new) (s : List UInt8) : replaceAll s old new = rep old new s := by
  unfold replaceAll replace rep replaceNum
  rw [if_neg (by simpa using h), if_pos (.inl (by decide))]

theorem rep_nil {old : List UInt8} (h : old ≠ []) (new : List UInt8) : rep old new [] = [] := by
  unfold rep
  cases count [] old with
  | zero => rfl
  | succ k =>
    unfold replaceK
    have : index [] old = -1 := by
      cases old with
      | nil => exact absurd rfl h
      | cons a t => rfl
    rw [this]
    rfl

theorem index_cons {old : List UInt8} {b : UInt8} {l : List UInt8} (hp : old.isPrefixOf (b :: l) = false) : index (b :: l) old = if index l old == -1 then -1 else index l old + 1 := by
  rw [index, hp]
  rfl

theorem repK_cons {old new : List UInt8} {b : UInt8} {l : List UInt8} (hp : old.isPrefixOf (b :: l) = false) (k : Nat) : replaceK old new k (b :: l) = b :: replaceK old new k l := by
  cases k with
  | zero => rfl
  | succ k =>
    have hi := index_cons hp
    by_cases hm : index l old = -1
    · have e : index (b :: l) old = -1 := by rw [hi, hm]; rfl
      unfold replaceK
      rw [e, hm]
      rfl
    · obtain ⟨i, hi2⟩ : ∃ i : Nat, index l old = i := ⟨(index l old).toNat, by have := index_ge l old; omega⟩
      have e : index (b :: l) old = ((i + 1 : Nat) : Int) := by
        rw [hi, hi2, if_neg (by intro h; have := beq_iff_eq.1 h; omega)]
        rfl
      rw [replaceK_hit old new k _ (i + 1) e, replaceK_hit old new k _ i hi2]
      have ed : i + 1 + old.length = i + old.length + 1 := by omega
      rw [ed]
      simp

theorem count_cons {old : List UInt8} (h : old ≠ []) {b : UInt8} {l : List UInt8} (hp : old.isPrefixOf (b :: l) = false) : count (b :: l) old = count l old := by
  have hi := index_cons hp
  by_cases hm : index l old = -1
  · have e : index (b :: l) old = -1 := by rw [hi, hm]; rfl
    rw [count_miss e, count_miss hm]
  · obtain ⟨i, hi2⟩ : ∃ i : Nat, index l old = i := ⟨(index l old).toNat, by have := index_ge l old; omega⟩
    have e : index (b :: l) old = ((i + 1 : Nat) : Int) := by
      rw [hi, hi2, if_neg (by intro h; have := beq_iff_eq.1 h; omega)]
      rfl
    rw [count_hit h e, count_hit h hi2]
    have ed : i + 1 + old.length = i + old.length + 1 := by omega
    rw [ed, List.drop_succ_cons]

theorem rep_cons {old : List UInt8} (h : old ≠ []) (new : List UInt8) {b : UInt8} {l : List UInt8} (hp : old.isPrefixOf (b :: l) = false) : rep old new (b :: l) = b :: rep old new l := by
  unfold rep
  rw [count_cons h hp, repK_cons hp]

theorem rep_hit {old : List UInt8} (h : old ≠ []) (new : List UInt8) {b : UInt8} {l : List UInt8} (hp : old.isPrefixOf (b :: l) = true) : rep old new (b :: l) = new ++ rep old new ((b :: l).drop old.length) := by
  have e : index (b :: l) old = ((0 : Nat) : Int) := by
    rw [index, if_pos hp]
    rfl
  unfold rep
  rw [count_hit h e, Nat.zero_add, Nat.add_comm 1, replaceK_hit old new _ _ 0 e]
  simp

/-- Pairs first, then bytes 13 alone. -/
theorem rep_one (l : List UInt8) : rep [13] [10] l = l.map fun b => if b = 13 then 10 else b := by
  induction l with
  | nil => exact rep_nil (by decide) _
  | cons b t ih =>
    by_cases hb : b = 13
    · subst hb
      rw [rep_hit (by decide) _ (by simp [List.isPrefixOf])]
      simp [ih]
    · rw [rep_cons (by decide) _ (by simp [List.isPrefixOf, beq_false_of_ne (Ne.symm hb)]), ih]
      simp [hb]

theorem rep_lines : ∀ (n : Nat) (l : List UInt8), l.length ≤ n → (rep [13, 10] [10] l).map (fun b => if b = 13 then 10 else b) = linesG false l
  | _, [], _ => by rw [rep_nil (by decide)]; rfl
  | 0, b :: t, h => absurd h (by simp)
  | n + 1, b :: t, h => by
    have ht : t.length ≤ n := by simpa using h
    by_cases hb : b = 13
    · subst hb
      by_cases hc : ∃ t', t = 10 :: t'
      · obtain ⟨t', rfl⟩ := hc
        rw [rep_hit (by decide) _ (by simp [List.isPrefixOf])]
        have ih := rep_lines n t' (by simp at ht; omega)
        simp [linesG, ih]
      · have hne : ∀ t', t ≠ 10 :: t' := fun t' e => hc ⟨t', e⟩
        have hp : ([13, 10] : List UInt8).isPrefixOf (13 :: t) = false := by
          cases t with
          | nil => rfl
          | cons c t' =>
            have : c ≠ 10 := fun e => hne t' (by rw [e])
            simp [List.isPrefixOf, beq_false_of_ne (Ne.symm this)]
        rw [rep_cons (by decide) _ hp]
        have ih := rep_lines n t ht
        simp [linesG, ih, linesG_back t hne]
    · have hp : ([13, 10] : List UInt8).isPrefixOf (b :: t) = false := by simp [List.isPrefixOf, beq_false_of_ne (Ne.symm hb)]
      rw [rep_cons (by decide) _ hp]
      have ih := rep_lines n t ht
      simp [linesG, hb, ih]

theorem lines_replaced (l : List UInt8) : replaceAll (replaceAll l [13, 10] [10]) [13] [10] = linesL l := by
  rw [rep_of (by decide), rep_of (by decide), rep_one]
  exact rep_lines l.length l (Nat.le_refl _)

theorem rep_length : ∀ (n : Nat) (l : List UInt8), l.length ≤ n → (rep [13, 10] [10] l).length ≤ l.length
  | _, [], _ => by rw [rep_nil (by decide)]; exact Nat.le_refl _
  | 0, b :: t, h => absurd h (by simp)
  | n + 1, b :: t, h => by
    have ht : t.length ≤ n := by simpa using h
    by_cases hp : ([13, 10] : List UInt8).isPrefixOf (b :: t) = true
    · rw [rep_hit (by decide) _ hp]
      have ih := rep_length n ((b :: t).drop 2) (by simp; omega)
      simp at ih ⊢
      have : 1 ≤ t.length := by
        cases t with
        | nil => simp [List.isPrefixOf] at hp
        | cons c t' => simp
      omega
    · rw [rep_cons (by decide) _ (eq_false_of_ne_true hp)]
      simpa using rep_length n t ht

theorem pairs_length (l : List UInt8) : (replaceAll l [13, 10] [10]).length ≤ l.length := by
  rw [rep_of (by decide)]
  exact rep_length l.length l (Nat.le_refl _)

end Go.Proofs.YtfdigdemoeepoaaDoor.Sg
