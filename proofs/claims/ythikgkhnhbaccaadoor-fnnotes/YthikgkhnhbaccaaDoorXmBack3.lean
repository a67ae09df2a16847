/- An attribute whose value is escaped, and a note, are read as they were. Plain. No program in it. -/
import Derived.Test.YthikgkhnhbaccaaDoorXmBack2
namespace Go.Proofs.YthikgkhnhbaccaaDoor.Sg

theorem escL_ten (l : List UInt8) : ∀ b ∈ escL true l, b ≠ 9 ∧ b ≠ 10 := by
  intro b hb
  unfold escL swapL at hb
  rw [List.mem_flatMap] at hb
  obtain ⟨x, _, hx⟩ := hb
  by_cases h : x ∈ escW true
  · rw [swap_in true x h] at hx
    have : ∀ x ∈ escW true, ∀ b ∈ entOf x, b ≠ 9 ∧ b ≠ 10 := by decide
    exact this x h b hx
  · rw [swap_out true x h, List.mem_singleton] at hx
    subst hx
    refine ⟨?_, ?_⟩ <;> (rintro rfl; exact h (by decide))
/-- What is a strict text is its signs. -/
theorem text_signs_of {s : ByteArray} (h : stTextB s = true) : (∀ z ∈ signsL s, textB z = true) ∧ sgBytes (signsL s) = s.data.toList := by
  unfold stTextB at h
  rw [Bool.and_eq_true, List.all_eq_true] at h
  refine ⟨h.1, ?_⟩
  have := clean_eq h.2
  have e : (textS (signsL s)).data.toList = sgBytes (signsL s) := by simp [textS]
  rw [← e, this]
/-- A strict text that is escaped is read as it was. -/
theorem text_again {s : ByteArray} (h : stTextB s = true) (v : Bool) : xtextR (escS s v ++ ⟨#[60]⟩) [60] 0 = some (s.data.toList, (escS s v).size) := by
  obtain ⟨h1, h2⟩ := text_signs_of h
  have hb := text_back v [60] (.inl rfl) 60 (by simp) [] (by decide) (signsL s) [] h1
  rw [h2] at hb
  have e : escS s v ++ ⟨#[60]⟩ = strB ([] ++ (escL v s.data.toList ++ 60 :: [])) := by
    apply ByteArray.ext
    apply Array.toList_inj.1
    rw [ByteArray.data_append, Array.toList_append]
    simp [escS, strB]
  have hsz : (escS s v).size = (escL v s.data.toList).length := strB_size _
  rw [e, hsz]
  simpa using hb
def kB : ByteArray := ⟨#[107, 61, 34]⟩
def quB : ByteArray := ⟨#[34, 32]⟩
/-- A strict value in an attribute is read as it was. -/
theorem attr_again {s : ByteArray} (h : stTextB s = true) : xattrR ((kB ++ escS s true) ++ quB) 0 = some (1, s.data.toList, (escS s true).size + 3) := by
  obtain ⟨h1, h2⟩ := text_signs_of h
  have hb := text_back true [34] (.inr ⟨rfl, rfl⟩) 34 (by simp) [32] (by decide) (signsL s) [107, 61, 34] h1
  rw [h2] at hb
  have hsz : (escS s true).size = (escL true s.data.toList).length := strB_size _
  have e : (kB ++ escS s true) ++ quB = strB ([107, 61, 34] ++ (escL true s.data.toList ++ 34 :: [32])) := by
    apply ByteArray.ext
    apply Array.toList_inj.1
    rw [ByteArray.data_append, Array.toList_append, ByteArray.data_append, Array.toList_append]
    simp [escS, strB, kB, quB]
  rw [e]
  have hfree := escL_ten s.data.toList
  generalize hL : escL true s.data.toList = L at *
  have hS : strB ([107, 61, 34] ++ (L ++ 34 :: [32])) = strB ([] ++ ((putS 107).data.toList ++ (61 :: 34 :: (L ++ 34 :: [32])))) := by
    rw [putS_one (by decide) (by decide)]
    rfl
  have g0 : getS (strB ([107, 61, 34] ++ (L ++ 34 :: [32]))) 0 = (107, 1) := by
    rw [hS]
    have := getS_put 107 (by decide) [] (61 :: 34 :: (L ++ 34 :: [32]))
    rw [putS_z (by decide) (by decide)] at this ⊢
    exact this
  have hS1 : strB ([107, 61, 34] ++ (L ++ 34 :: [32])) = strB ([107] ++ ((putS 61).data.toList ++ (34 :: (L ++ 34 :: [32])))) := by
    rw [putS_one (by decide) (by decide)]
    rfl
  have g1 : getS (strB ([107, 61, 34] ++ (L ++ 34 :: [32]))) 1 = (61, 1) := by
    rw [hS1]
    have := getS_put 61 (by decide) [107] (34 :: (L ++ 34 :: [32]))
    rw [putS_z (by decide) (by decide)] at this ⊢
    exact this
  have hsize : (strB ([107, 61, 34] ++ (L ++ 34 :: [32]))).size = L.length + 5 := by
    rw [strB_size]
    simp
  have n0 : xnameE (strB ([107, 61, 34] ++ (L ++ 34 :: [32]))) true 0 = 1 := by
    rw [xnameE_go (by rw [hsize]; omega) ?_, g0]
    · show xnameE _ false 1 = 1
      rw [xnameE_stop (by rw [hsize]; omega)]
      rw [g1]
      have : stayB false (61 : Int) = false := by decide
      show (stayB false (61 : Int) && _) = false
      rw [this]
      rfl
    · rw [g0]
      have a : stayB true (107 : Int) = true := by decide
      show (stayB true (107 : Int) && _) = true
      rw [a, Bool.true_and]
      unfold asRead
      rw [g0]
      show ((putS ((107 : Nat) : Int)).toList == ((strB ([107, 61, 34] ++ (L ++ 34 :: [32]))).extract 0 (0 + 1)).toList) = true
      have hx0 : ((strB ([107, 61, 34] ++ (L ++ 34 :: [32]))).extract 0 (0 + 1)).data.toList = [107] := extract_mid [] [107] (61 :: 34 :: (L ++ 34 :: [32]))
      rw [show ((107 : Nat) : Int) = 107 from rfl, ByteArray.toList_eq, ByteArray.toList_eq, putS_one (by decide) (by decide), hx0]
      rfl
  have st : standsB (strB ([107, 61, 34] ++ (L ++ 34 :: [32]))) 1 eqB = true := by
    have := stands_pre [107] (61 :: 34 :: (L ++ 34 :: [32])) [61, 34]
    exact this
  unfold xattrR
  simp only
  rw [n0, if_neg (by rw [st]; simp)]
  have hb2 : xtextR (strB ([107, 61, 34] ++ (L ++ 34 :: [32]))) [34] (1 + 2) = some (s.data.toList, 3 + L.length) := hb
  rw [hb2]
  show (if _ then _ else _) = _
  have hx : ((strB ([107, 61, 34] ++ (L ++ 34 :: [32]))).extract (1 + 2) (3 + L.length)).data.toList = L := extract_mid [107, 61, 34] L (34 :: [32])
  rw [if_neg]
  · rw [hsz, Nat.add_comm]
  · rintro (hn | hn)
    · apply hn
      rw [hsize]
      omega
    · rw [hx, Bool.or_eq_true, List.contains_iff_mem, List.contains_iff_mem] at hn
      rcases hn with hn | hn
      · exact (hfree _ hn).1 rfl
      · exact (hfree _ hn).2 rfl
/-- The first two bytes 45 behind a strict note are those that end it. -/
theorem search_note (r : List UInt8) : ∀ (l pre : List UInt8), noTwo l = true → lastOk l = true → searchE (strB (pre ++ (l ++ 45 :: 45 :: r))) pre.length twoB = some (pre.length + l.length) := by
  intro l
  induction l with
  | nil =>
    intro pre _ _
    rw [List.nil_append, searchE_yes]
    · rfl
    · have := stands_pre pre (45 :: 45 :: r) [45, 45]
      exact this
  | cons b l ih =>
    intro pre h1 h2
    have h1' : (b == 45 && l.head? == some 45) = false ∧ noTwo l = true := by
      have : (!(b == 45 && l.head? == some 45) && noTwo l) = true := h1
      rw [Bool.and_eq_true, Bool.not_eq_true'] at this
      exact this
    have h2' : lastOk l = true ∧ (l = [] → b ≠ 45) := by
      unfold lastOk at h2 ⊢
      cases l with
      | nil =>
        refine ⟨rfl, fun _ e => ?_⟩
        subst e
        exact absurd h2 (by decide)
      | cons x l =>
        rw [List.getLast?_cons_cons] at h2
        exact ⟨h2, fun e => by cases e⟩
    have hs : standsB (strB (pre ++ (b :: l ++ 45 :: 45 :: r))) pre.length twoB = false := by
      have := stands_pre pre (b :: l ++ 45 :: 45 :: r) [45, 45]
      rw [show twoB = strB [45, 45] from rfl, this]
      cases l with
      | nil =>
        have hb := h2'.2 rfl
        show (45 == b && _) = false
        have : ((45 : UInt8) == b) = false := by rw [beq_eq_false_iff_ne]; exact fun e => hb e.symm
        rw [this]
        rfl
      | cons x l =>
        show (45 == b && (45 == x && _)) = false
        have h3 := h1'.1
        rw [List.head?_cons] at h3
        by_cases hb : b = 45
        · subst hb
          have hx : x ≠ 45 := by
            rintro rfl
            simp at h3
          have : ((45 : UInt8) == x) = false := by rw [beq_eq_false_iff_ne]; exact fun e => hx e.symm
          rw [this]
          simp
        · have : ((45 : UInt8) == b) = false := by rw [beq_eq_false_iff_ne]; exact fun e => hb e.symm
          rw [this]
          rfl
    rw [searchE_no (by rw [strB_size]; simp [twoB, ByteArray.size]; omega) hs]
    have h := ih (pre ++ [b]) h1'.2 h2'.1
    rw [List.append_assoc, List.length_append, List.length_singleton] at h
    rw [show pre ++ (b :: l ++ 45 :: 45 :: r) = pre ++ ([b] ++ (l ++ 45 :: 45 :: r)) by simp, h]
    simp
    omega
def shutxB : ByteArray := ⟨#[45, 45, 62, 120]⟩
/-- A strict note is read as it was. -/
theorem note_again {t : ByteArray} (h : stNoteB t = true) : xnoteR ((openNoteB ++ t) ++ shutxB) 0 = some (t.size + 4) ∧ ((openNoteB ++ t) ++ shutxB).extract 4 (t.size + 4) = t := by
  have hh := h
  unfold stNoteB at hh
  simp only [Bool.and_eq_true] at hh
  have e : (openNoteB ++ t) ++ shutxB = strB ([60, 33, 45, 45] ++ (t.data.toList ++ 45 :: 45 :: [62, 120])) := by
    apply ByteArray.ext
    apply Array.toList_inj.1
    rw [ByteArray.data_append, Array.toList_append, ByteArray.data_append, Array.toList_append]
    simp [strB, openNoteB, shutxB]
  have hl : t.data.toList.length = t.size := Array.length_toList
  have hse := search_note [62, 120] t.data.toList [60, 33, 45, 45] hh.1.2 hh.2
  have hx : (strB ([60, 33, 45, 45] ++ (t.data.toList ++ 45 :: 45 :: [62, 120]))).extract 4 (t.size + 4) = t := by
    apply ByteArray.ext
    apply Array.toList_inj.1
    have := extract_mid [60, 33, 45, 45] t.data.toList (45 :: 45 :: [62, 120])
    rw [show ([60, 33, 45, 45] : List UInt8).length = 4 from rfl, hl, Nat.add_comm 4] at this
    exact this
  rw [e]
  refine ⟨?_, hx⟩
  unfold xnoteR
  have s0 : standsB (strB ([60, 33, 45, 45] ++ (t.data.toList ++ 45 :: 45 :: [62, 120]))) 0 openNoteB = true := by
    have := stands_pre [] ([60, 33, 45, 45] ++ (t.data.toList ++ 45 :: 45 :: [62, 120])) [60, 33, 45, 45]
    exact this
  rw [s0, if_pos rfl]
  have hse2 : searchE (strB ([60, 33, 45, 45] ++ (t.data.toList ++ 45 :: 45 :: [62, 120]))) (0 + 4) twoB = some (t.size + 4) := by
    have : searchE (strB ([60, 33, 45, 45] ++ (t.data.toList ++ 45 :: 45 :: [62, 120]))) 4 twoB = some (4 + t.data.toList.length) := hse
    rw [hl, Nat.add_comm] at this
    exact this
  rw [hse2]
  show (if _ then _ else _) = _
  have s1 : standsB (strB ([60, 33, 45, 45] ++ (t.data.toList ++ 45 :: 45 :: [62, 120]))) (t.size + 4) shutNoteB = true := by
    have := stands_pre ([60, 33, 45, 45] ++ t.data.toList) (45 :: 45 :: [62, 120]) [45, 45, 62]
    rw [List.length_append, hl, show ([60, 33, 45, 45] : List UInt8).length = 4 from rfl, Nat.add_comm, List.append_assoc] at this
    exact this
  rw [s1, show (strB ([60, 33, 45, 45] ++ (t.data.toList ++ 45 :: 45 :: [62, 120]))).extract (0 + 4) (t.size + 4) = t from hx, h]
  rfl

end Go.Proofs.YthikgkhnhbaccaaDoor.Sg
