/- Words spelt, in plain lists of bytes. No program in it. -/
import Derived.Test.YtfdigdemoeepoaaDoorSpSwapP
import Derived.Test.YtfdigdemoeepoaaDoorTnMem
import Derived.Test.YtfdigdemoeepoaaDoorLwTo
import Derived.Test.YtfdigdemoeepoaaDoorKdLinesP
namespace Go.Proofs.YtfdigdemoeepoaaDoor.Sg

def ampT : List UInt8 := [38, 97, 109, 112, 59]
def ltT : List UInt8 := [38, 108, 116, 59]
def gtT : List UInt8 := [38, 103, 116, 59]
def quotT : List UInt8 := [38, 113, 117, 111, 116, 59]
/-- A value, and a text, with references in the place of their signs. -/
def valT (l : List UInt8) : List UInt8 := swapL [38, 34] [ampT, quotT] l
def txtT (l : List UInt8) : List UInt8 := swapL [38, 60, 62] [ampT, ltT, gtT] l
def attrT (p : AttrB) : List UInt8 := 32 :: (p.1.data.toList ++ (61 :: 34 :: (valT p.2.data.toList ++ [34])))
def attrsT (l : List AttrB) : List UInt8 := l.flatMap attrT
def closeT (self : Bool) : List UInt8 := if self then [47, 62] else [62]
def taggedL (t : TokB) : List UInt8 := 60 :: (t.2.1.data.toList ++ (attrsT t.2.2.1 ++ closeT t.2.2.2.2))
def scriptB (s : ByteArray) : Bool := s.toList == [115, 99, 114, 105, 112, 116] || s.toList == [115, 116, 121, 108, 101]
/-- Whether the text behind a word stands as it is. -/
def bareT (t : TokB) : Bool := t.1 == 2 && (!t.2.2.2.2 && scriptB t.2.1)
def speltT (bare : Bool) (t : TokB) : List UInt8 :=
  if t.1 = 1 then (if bare then t.2.2.2.1.data.toList else txtT t.2.2.2.1.data.toList)
  else if t.1 = 2 then taggedL t
  else if t.1 = 3 then 60 :: 47 :: (t.2.1.data.toList ++ [62])
  else if t.1 = 4 then 60 :: 33 :: 45 :: 45 :: (t.2.2.2.1.data.toList ++ [45, 45, 62])
  else if t.1 = 5 then [60, 33, 100, 111, 99, 116, 121, 112, 101, 32] ++ (t.2.2.2.1.data.toList ++ [62])
  else []
def spellL : Bool → List TokB → List UInt8
  | _, [] => []
  | bare, t :: l => speltT bare t ++ spellL (bareT t) l
/-- What is bare ahead of the k-th word. -/
def bareAt (l : List TokB) (k : Nat) : Bool := match k with
  | 0 => false
  | j + 1 => match l[j]? with
    | none => false
    | some t => bareT t
theorem spellL_end (l : List TokB) (b : Bool) : spellL b (l.drop l.length) = [] := by
  rw [List.drop_length]
  cases b <;> rfl
theorem spellL_step (l : List TokB) (k : Nat) (h : k < l.length) : spellL (bareAt l k) (l.drop k) = speltT (bareAt l k) (l[k]'h) ++ spellL (bareAt l (k + 1)) (l.drop (k + 1)) := by
  rw [List.drop_eq_getElem_cons h]
  have e : bareAt l (k + 1) = bareT (l[k]'h) := by simp [bareAt, h]
  rw [e]
  rfl
theorem attrsT_step (l : List AttrB) (k : Nat) (h : k < l.length) : attrsT (l.drop k) = attrT (l[k]'h) ++ attrsT (l.drop (k + 1)) := by
  rw [List.drop_eq_getElem_cons h]
  unfold attrsT
  rw [List.flatMap_cons]

theorem swap1_len (which : List UInt8) (ws : List (List UInt8)) (n : Nat) (hn : 1 ≤ n) (h : ∀ t ∈ ws, t.length ≤ n) (b : UInt8) : (swap1 which ws b).length ≤ n := by
  unfold swap1
  split
  · exact hn
  · rename_i k _
    by_cases hk : k < ws.length
    · simp only [List.getD, hk, List.getElem?_eq_getElem, Option.getD_some]
      exact h _ (List.getElem_mem hk)
    · simp [List.getD, hk]
theorem swapL_len (which : List UInt8) (ws : List (List UInt8)) (n : Nat) (hn : 1 ≤ n) (h : ∀ t ∈ ws, t.length ≤ n) (l : List UInt8) : (swapL which ws l).length ≤ n * l.length := by
  induction l with
  | nil => exact Nat.zero_le _
  | cons b l ih =>
    unfold swapL at *
    rw [List.flatMap_cons, List.length_append, List.length_cons, Nat.mul_succ]
    have := swap1_len which ws n hn h b
    omega
theorem valT_len (l : List UInt8) : (valT l).length ≤ 6 * l.length := swapL_len _ _ 6 (by omega) (by intro t ht; simp [ampT, quotT] at ht; rcases ht with rfl | rfl <;> decide) l
theorem txtT_len (l : List UInt8) : (txtT l).length ≤ 6 * l.length := swapL_len _ _ 6 (by omega) (by intro t ht; simp [ampT, ltT, gtT] at ht; rcases ht with rfl | rfl | rfl <;> decide) l
theorem bytes_len (s : ByteArray) : s.data.toList.length = s.size := Array.length_toList
theorem attrT_len (p : AttrB) : (attrT p).length ≤ 6 * attrW p + 4 := by
  unfold attrT attrW
  have := valT_len p.2.data.toList
  simp only [List.length_cons, List.length_append, List.length_nil]
  rw [bytes_len] at this
  rw [bytes_len]
  omega
theorem attrsT_len (l : List AttrB) : (attrsT l).length ≤ 6 * attrsW l := by
  induction l with
  | nil => exact Nat.zero_le _
  | cons p l ih =>
    unfold attrsT attrsW at *
    rw [List.flatMap_cons, List.length_append, List.map_cons, List.sum_cons, List.length_cons]
    have := attrT_len p
    omega
theorem speltT_len (b : Bool) (t : TokB) : (speltT b t).length ≤ 6 * tokW t + 12 := by
  have h1 := txtT_len t.2.2.2.1.data.toList
  have h2 := attrsT_len t.2.2.1
  have h3 := bytes_len t.2.1
  have h4 := bytes_len t.2.2.2.1
  rw [h4] at h1
  unfold speltT tokW
  split
  · split
    · omega
    · omega
  split
  · unfold taggedL closeT
    rw [List.length_cons, List.length_append, List.length_append, h3]
    split <;> simp <;> omega
  split
  · simp only [List.length_cons, List.length_append, List.length_nil]; omega
  split
  · simp only [List.length_cons, List.length_append, List.length_nil]; omega
  split
  · simp only [List.length_cons, List.length_append, List.length_nil]; omega
  · simp
theorem spellL_len (l : List TokB) (b : Bool) : (spellL b l).length ≤ 12 * toksW l := by
  induction l generalizing b with
  | nil => cases b <;> exact Nat.zero_le _
  | cons t l ih =>
    unfold spellL toksW
    rw [List.length_append, List.map_cons, List.sum_cons, List.length_cons]
    have h1 := speltT_len b t
    have h2 := ih (bareT t)
    unfold toksW at h2
    omega

theorem tokW_le {l : List TokB} {t : TokB} (h : t ∈ l) : tokW t ≤ toksW l := by
  unfold toksW
  induction l with
  | nil => exact absurd h List.not_mem_nil
  | cons u l ih =>
    rw [List.map_cons, List.sum_cons, List.length_cons]
    rcases List.mem_cons.1 h with rfl | h
    · omega
    · have := ih h
      omega
theorem attrW_le {l : List AttrB} {p : AttrB} (h : p ∈ l) : attrW p ≤ attrsW l := by
  unfold attrsW
  induction l with
  | nil => exact absurd h List.not_mem_nil
  | cons u l ih =>
    rw [List.map_cons, List.sum_cons, List.length_cons]
    rcases List.mem_cons.1 h with rfl | h
    · omega
    · have := ih h
      omega

/-- One byte replaced all over. -/
theorem rep_byte (b : UInt8) (new : List UInt8) (l : List UInt8) : rep [b] new l = l.flatMap fun x => if x = b then new else [x] := by
  induction l with
  | nil => exact rep_nil (by simp) _
  | cons x t ih =>
    by_cases hb : x = b
    · subst hb
      rw [rep_hit (by simp) _ (by simp [List.isPrefixOf])]
      simp [ih]
    · rw [rep_cons (by simp) _ (by simp [List.isPrefixOf, beq_false_of_ne (Ne.symm hb)]), ih]
      simp [hb]
theorem replaced_byte (b : UInt8) (new : List UInt8) (h : [b] ≠ new) (l : List UInt8) : Lib.replaceAll l [b] new = l.flatMap fun x => if x = b then new else [x] := by
  rw [rep_of h, rep_byte]
theorem replaced_len (b : UInt8) (new : List UInt8) (n : Nat) (hn : 1 ≤ n) (h : [b] ≠ new) (hl : new.length ≤ n) (l : List UInt8) : (Lib.replaceAll l [b] new).length ≤ n * l.length := by
  rw [replaced_byte b new h]
  induction l with
  | nil => exact Nat.zero_le _
  | cons x t ih =>
    rw [List.flatMap_cons, List.length_append, List.length_cons, Nat.mul_succ]
    split
    · omega
    · simp only [List.length_cons, List.length_nil]
      omega
theorem val_replaced (l : List UInt8) : Lib.replaceAll (Lib.replaceAll l [38] ampT) [34] quotT = valT l := by
  rw [replaced_byte 38 ampT (by decide), replaced_byte 34 quotT (by decide)]
  unfold valT swapL
  rw [List.flatMap_assoc]
  congr 1
  funext x
  by_cases h1 : x = 38
  · subst h1; rfl
  · by_cases h2 : x = 34
    · subst h2; rfl
    · simp [h1, h2, Ne.symm h1, Ne.symm h2, swap1, findL]
theorem txt_replaced (l : List UInt8) : Lib.replaceAll (Lib.replaceAll (Lib.replaceAll l [38] ampT) [60] ltT) [62] gtT = txtT l := by
  rw [replaced_byte 38 ampT (by decide), replaced_byte 60 ltT (by decide), replaced_byte 62 gtT (by decide)]
  unfold txtT swapL
  rw [List.flatMap_assoc, List.flatMap_assoc]
  congr 1
  funext x
  by_cases h1 : x = 38
  · subst h1; rfl
  · by_cases h2 : x = 60
    · subst h2; rfl
    · by_cases h3 : x = 62
      · subst h3; rfl
      · simp [h1, h2, h3, Ne.symm h1, Ne.symm h2, Ne.symm h3, swap1, findL]

end Go.Proofs.YtfdigdemoeepoaaDoor.Sg
