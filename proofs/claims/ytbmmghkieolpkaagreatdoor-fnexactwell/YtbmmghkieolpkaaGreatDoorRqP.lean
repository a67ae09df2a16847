/- Plain: the program's reader reads piece by piece: a note, a tag or a text; at the top texts, too, which no document has. -/
import Derived.Test.YtbmmghkieolpkaaGreatDoorRpP
import Derived.Test.YtbmmghkieolpkaaGreatDoorMW212
import Derived.Test.YtbmmghkieolpkaaGreatDoorMW211
import Derived.Test.YtbmmghkieolpkaaGreatDoorMW208
namespace Go.Proofs.YtbmmghkieolpkaaGreatDoor.Sg
open Go.ChangeShapes Go.WideShapes Go.ChangeAt Go.RowKit

/-- A byte stands at a place. -/
theorem stands_one (s : ByteArray) (k : Nat) (b : UInt8) : standsB s k ⟨#[b]⟩ = true ↔ s.data[k]? = some b := by
  by_cases h : k < s.size
  · have e : standsB s k ⟨#[b]⟩ = Lib.hasPrefix (tailL s k) [b] := stands_tailT ⟨#[b]⟩ (Nat.le_of_lt h)
    rw [e, tailL_step s k h]
    have ed : s.data[k]? = some (s[k]'h) := by
      show s.data[k]? = some (s.data[k]'h)
      exact Array.getElem?_eq_getElem h
    rw [ed]
    unfold Lib.hasPrefix
    simp [List.isPrefixOf]
    exact eq_comm
  · have e : s.data[k]? = none := Array.getElem?_eq_none (by show s.size ≤ k; omega)
    rw [e]
    constructor
    · intro hs
      have := stands_le hs
      have u : (⟨#[b]⟩ : ByteArray).size = 1 := rfl
      omega
    · intro hs
      cases hs

/-- One piece from place i on, and where it ends. -/
def pieceQ (s : ByteArray) (el : Nat → Option (ElB × Nat)) (i : Nat) : Option (ElB × Nat) :=
  if standsB s i openNoteB = true then (noteO s i).map fun r => (.mk 3 0 ⟨#[]⟩ [] r.1 [], r.2)
  else if standsB s i ltS = true then el i
  else (strO (xtextR s [60] i)).map fun r => (.mk 2 0 ⟨#[]⟩ [] r.1 [], r.2)

theorem note_told {s : ByteArray} {i : Nat} (hi : i < s.size) : (noteO s i = none ∧ xoI s (i : Int) < 0) ∨ ∃ j : Nat, noteO s i = some (xoS s (i : Int), j) ∧ xoI s (i : Int) = (j : Int) := by
  have hx := noteP_eq (s := s) (k := i) (Nat.le_of_lt hi)
  have h1 : 0 ≤ (i : Int) ∧ (i : Int) < s.size := by omega
  have e : ((i : Int)).toNat = i := by omega
  unfold xoI xoS xoO noteO
  rw [if_pos h1, e, ← hx]
  cases xnoteR s i with
  | none => exact .inl ⟨rfl, by decide⟩
  | some m => exact .inr ⟨m + 3, rfl, rfl⟩
theorem text_told {s : ByteArray} {i : Nat} (hi : i < s.size) : (strO (xtextR s [60] i) = none ∧ xtI s (i : Int) ltS < 0) ∨ ∃ j : Nat, strO (xtextR s [60] i) = some (xtS s (i : Int) ltS, j) ∧ xtI s (i : Int) ltS = (j : Int) := by
  have h1 : 0 ≤ (i : Int) ∧ (i : Int) ≤ s.size := by omega
  have e : ((i : Int)).toNat = i := by omega
  have eL : ltS.data.toList = [60] := rfl
  unfold xtI xtS xtO strO
  rw [if_pos h1, e, eL]
  cases xtextR s [60] i with
  | none => exact .inl ⟨rfl, by decide⟩
  | some r => exact .inr ⟨r.2, rfl, rfl⟩
theorem not_neg {j : Nat} {x : Int} (h : x = (j : Int)) : ¬ x < 0 := by omega
theorem not_lt60 {s : ByteArray} {i : Nat} (h : standsB s i ltS = false) : s.data[i]? ≠ some 60 := fun e => by
  have := (stands_one s i 60).2 e
  unfold ltS at h
  rw [this] at h
  cases h
theorem piece_size {s : ByteArray} {el : Nat → Option (ElB × Nat)} (hE : ElSz s el) : ∀ k e j, k < s.size → pieceQ s el k = some (e, j) → k < j ∧ j ≤ s.size ∧ elW e + 1 ≤ 5 * (j - k) := by
  intro k e j hk h
  unfold pieceQ at h
  split at h
  · rcases note_told hk with ⟨h1, _⟩ | ⟨m, h1, h2⟩
    · rw [h1] at h
      cases h
    · rw [h1] at h
      cases h
      obtain ⟨m', h3, h4, h5, h6⟩ := xoI_le (not_neg h2)
      rw [elW_bare]
      show k < m ∧ m ≤ s.size ∧ (xoS s (k : Int)).size + 1 ≤ 5 * (m - k)
      omega
  · split at h
    · exact hE k e j (Nat.le_of_lt hk) h
    · rename_i h60
      rcases text_told hk with ⟨h1, _⟩ | ⟨m, h1, h2⟩
      · rw [h1] at h
        cases h
      · rw [h1] at h
        cases h
        obtain ⟨m', h3, h4, h5, h6⟩ := xtI_lt hk (not_lt60 (by simpa using h60)) (not_neg h2)
        rw [elW_bare]
        show k < m ∧ m ≤ s.size ∧ (xtS s (k : Int) ltS).size + 1 ≤ 5 * (m - k)
        omega

theorem kids_step (s : ByteArray) (el : Nat → Option (ElB × Nat)) (f i : Nat) : kidsL s el (f + 1) i = if standsB s i ltSlash = true then some ([], i) else if ¬ i < s.size then none else match pieceQ s el i with
    | none => none
    | some x => (kidsL s el f x.2).map fun r => (x.1 :: r.1, r.2) := by
  rw [kidsL]
  split
  · rfl
  · split
    · rfl
    · rename_i hlt
      have hi : i < s.size := by omega
      unfold pieceQ
      split
      · rcases note_told hi with ⟨h1, h2⟩ | ⟨m, h1, h2⟩
        · rw [if_pos h2, h1]
          rfl
        · rw [if_neg (not_neg h2), h1, h2]
          rfl
      · by_cases h60 : standsB s i ltS = true
        · rw [if_pos h60, if_pos ((stands_one s i 60).1 h60)]
          cases el i <;> rfl
        · have h60' : standsB s i ltS = false := by simpa using h60
          rw [if_neg h60, if_neg (not_lt60 h60')]
          rcases text_told hi with ⟨h1, h2⟩ | ⟨m, h1, h2⟩
          · rw [if_pos h2, h1]
            rfl
          · rw [if_neg (not_neg h2), h1, h2]
            rfl

/-- Pieces from place i on, a byte 10 behind each, to the end. -/
def docQ (s : ByteArray) (el : Nat → Option (ElB × Nat)) : Nat → Nat → Option (List ElB)
  | 0, _ => none
  | f + 1, i =>
    if ¬ i < s.size then some []
    else match pieceQ s el i with
      | none => none
      | some x => if standsB s x.2 nlS = true then (docQ s el f (x.2 + 1)).map fun r => x.1 :: r else none
theorem docQ_like (s : ByteArray) (el : Nat → Option (ElB × Nat)) (h : ∀ i, standsB s i ltS = false → el i = none) : ∀ (f i : Nat), (∀ l, docL s el f i = some l → docQ s el f i = some l) ∧ (docL s el f i = none → ∀ l, docQ s el f i = some l → ∃ e ∈ l, kindE e = 2)
  | 0, i => ⟨fun x hx => (by cases hx), fun _ x hx => by cases hx⟩
  | f + 1, i => by
    have step : ∀ (e : ElB) (j : Nat), (∀ l, (docL s el f j).map (fun r => e :: r) = some l → (docQ s el f j).map (fun r => e :: r) = some l) ∧ ((docL s el f j).map (fun r => e :: r) = none → ∀ l, (docQ s el f j).map (fun r => e :: r) = some l → ∃ e ∈ l, kindE e = 2) := fun e j => by
      have ih := docQ_like s el h f j
      constructor
      · intro x hx
        obtain ⟨r, hr, rfl⟩ := Option.map_eq_some_iff.1 hx
        rw [ih.1 r hr]
        rfl
      · intro hn x hx
        have hn' := Option.map_eq_none_iff.1 hn
        obtain ⟨r, hr, rfl⟩ := Option.map_eq_some_iff.1 hx
        obtain ⟨y, hy, hb⟩ := ih.2 hn' r hr
        exact ⟨y, List.mem_cons_of_mem _ hy, hb⟩
    rw [docL, docQ]
    split
    · exact ⟨fun x hx => hx, fun hn => (by cases hn)⟩
    · rename_i hlt
      have hi : i < s.size := by omega
      unfold pieceQ
      split
      · rcases note_told hi with ⟨h1, h2⟩ | ⟨m, h1, h2⟩
        · rw [if_pos h2, h1]
          exact ⟨fun x hx => (by cases hx), fun _ x hx => by cases hx⟩
        · rw [if_neg (not_neg h2), h1, h2]
          simp only [Option.map_some, Int.toNat_natCast]
          split
          · exact step _ _
          · exact ⟨fun x hx => (by cases hx), fun _ x hx => by cases hx⟩
      · cases h60 : standsB s i ltS
        · rw [h i h60, if_neg (by simp)]
          refine ⟨fun x hx => (by cases hx), fun _ x hx => ?_⟩
          cases ht : strO (xtextR s [60] i) with
          | none => rw [ht] at hx; cases hx
          | some r =>
            rw [ht] at hx
            simp only [Option.map_some] at hx
            split at hx
            · obtain ⟨r', hr, rfl⟩ := Option.map_eq_some_iff.1 hx
              exact ⟨_, List.mem_cons_self, rfl⟩
            · cases hx
        · rw [if_pos rfl]
          cases el i with
          | none => exact ⟨fun x hx => (by cases hx), fun _ x hx => by cases hx⟩
          | some y =>
            simp only
            split
            · exact step _ _
            · exact ⟨fun x hx => (by cases hx), fun _ x hx => by cases hx⟩
theorem docF_text : ∀ (es : List ElB) (t n : Nat), (∃ e ∈ es, kindE e = 2) → docF t n es = false
  | [], _, _, h => by obtain ⟨e, he, _⟩ := h; cases he
  | x :: es, t, n, h => by
    rw [docF]
    split
    · rename_i hs
      refine docF_text es _ _ ?_
      obtain ⟨e, he, hb⟩ := h
      rcases List.mem_cons.1 he with rfl | he
      · exact absurd hb hs.2
      · exact ⟨e, he, hb⟩
    · rfl
theorem elQ_lt (s : ByteArray) (m deep i : Nat) (about : Int) (h : standsB s i ltS = false) : elQ s m deep i about = none := by
  cases m with
  | zero => rfl
  | succ m => rw [elQ, if_pos (.inl h)]
/-- What the program reads of a strict text, texts at the top, too. -/
def readP (s : ByteArray) : Option (List ElB) :=
  if 200000 < s.size ∨ standsB s 0 xmlHead = false then none
  else match docQ s (fun q => elQ s (s.size + 1) 60 q (-1)) (s.size + 1) 22 with
    | none => none
    | some l => if docF 0 0 l = true then some l else none
theorem readP_eq (s : ByteArray) : readP s = readR s := by
  rw [← readQ_eq]
  unfold readQ readP
  split
  · rfl
  · have h := docQ_like s (fun q => elQ s (s.size + 1) 60 q (-1)) (fun i h => elQ_lt s _ _ i _ h) (s.size + 1) 22
    cases hm : docL s (fun q => elQ s (s.size + 1) 60 q (-1)) (s.size + 1) 22 with
    | some l => rw [h.1 l hm]
    | none =>
      cases hq : docQ s (fun q => elQ s (s.size + 1) 60 q (-1)) (s.size + 1) 22 with
      | none => rfl
      | some l => simp only [docF_text l 0 0 (h.2 hm l hq)]; rfl
theorem docQ_size (s : ByteArray) (el : Nat → Option (ElB × Nat)) (hE : ElSz s el) : ∀ (f i : Nat) (r : List ElB), docQ s el f i = some r → i ≤ s.size → r.length + elsW r ≤ 5 * (s.size - i)
  | 0, _, _, h, _ => by cases h
  | f + 1, i, r, h, hi => by
    rw [docQ] at h
    split at h
    · cases h
      simp [elsW]
    · rename_i hlt
      cases hp : pieceQ s el i with
      | none => rw [hp] at h; cases h
      | some x =>
        obtain ⟨e, j⟩ := x
        rw [hp] at h
        simp only at h
        split at h
        · rename_i hnl
          have h1 := piece_size hE i e j (by omega) hp
          have h2 := stands_le hnl
          have u : nlS.size = 1 := rfl
          obtain ⟨r', hr, rfl⟩ := Option.map_eq_some_iff.1 h
          have h3 := docQ_size s el hE f (j + 1) r' hr (by omega)
          simp only [List.length_cons, elsW]
          omega
        · cases h

end Go.Proofs.YtbmmghkieolpkaaGreatDoor.Sg
