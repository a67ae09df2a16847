/- Pieces of a strict text, plain: names, references, texts, attributes, notes; what is escaped is read as it was. No program in it. -/
import Derived.Test.YthipdkagkdnaiaaGreatDoorMRD03
namespace Go.Proofs.YthipdkagkdnaiaaGreatDoor.Sg

/-- The sign at a place is written as it is read. -/
def asRead (s : ByteArray) (k : Nat) : Bool := (putS ((getS s k).1 : Int)).toList == (s.extract k (k + (getS s k).2)).toList
/-- Where a strict name that begins at a place ends. -/
def xnameE (s : ByteArray) (f : Bool) (k : Nat) : Nat :=
  if _h : k < s.size then
    if stayB f ((getS s k).1 : Int) && asRead s k then xnameE s false (k + (getS s k).2) else k
  else k
  termination_by s.size - k
  decreasing_by
    have := getS_many s k (by assumption)
    omega
theorem xnameE_go {s : ByteArray} {f : Bool} {k : Nat} (h : k < s.size) (h1 : (stayB f ((getS s k).1 : Int) && asRead s k) = true) : xnameE s f k = xnameE s false (k + (getS s k).2) := by
  rw [xnameE, dif_pos h, if_pos h1]
theorem xnameE_stop {s : ByteArray} {f : Bool} {k : Nat} (h : k < s.size) (h1 : (stayB f ((getS s k).1 : Int) && asRead s k) = false) : xnameE s f k = k := by
  rw [xnameE, dif_pos h, if_neg (by rw [h1]; simp)]
theorem xnameE_end {s : ByteArray} {f : Bool} {k : Nat} (h : ¬ k < s.size) : xnameE s f k = k := by
  rw [xnameE, dif_neg h]
theorem xnameE_le (s : ByteArray) : ∀ (d k : Nat) (f : Bool), s.size - k ≤ d → k ≤ s.size → k ≤ xnameE s f k ∧ xnameE s f k ≤ s.size := by
  intro d
  induction d with
  | zero =>
    intro k f hd hk
    rw [xnameE_end (by omega)]
    exact ⟨Nat.le_refl _, hk⟩
  | succ d ih =>
    intro k f hd hk
    by_cases h : k < s.size
    · have hm := getS_many s k h
      cases h1 : (stayB f ((getS s k).1 : Int) && asRead s k)
      · rw [xnameE_stop h h1]
        exact ⟨Nat.le_refl _, hk⟩
      · rw [xnameE_go h h1]
        have := ih (k + (getS s k).2) false (by omega) (by omega)
        omega
    · rw [xnameE_end h]
      exact ⟨Nat.le_refl _, hk⟩

/-- What may stand in a strict text as it is. -/
def xsignB (s : ByteArray) (k : Nat) : Bool := textB ((getS s k).1 : Int) && (decide ((getS s k).1 ≠ 13) && (decide ((getS s k).1 ≠ 60) && (asRead s k && !standsB s k closeB)))
/-- A strict text from a place on up to a byte of some: its bytes, and that place. -/
def xtextR (s : ByteArray) (e : List UInt8) (k : Nat) : Option (List UInt8 × Nat) :=
  if h : k < s.size then
    if e.contains (s[k]'h) then some ([], k)
    else if (s[k]'h) = 38 then
      match xrefR s k with
      | none => none
      | some (t, j) => if _hj : k < j ∧ j ≤ s.size then (xtextR s e j).map (fun r => (t.data.toList ++ r.1, r.2)) else none
    else if xsignB s k then (xtextR s e (k + (getS s k).2)).map (fun r => ((s.extract k (k + (getS s k).2)).data.toList ++ r.1, r.2))
    else none
  else some ([], k)
  termination_by s.size - k
  decreasing_by
    · omega
    · have := getS_many s k (by assumption)
      omega
theorem xtextR_end {s : ByteArray} {e : List UInt8} {k : Nat} (h : ¬ k < s.size) : xtextR s e k = some ([], k) := by
  rw [xtextR, dif_neg h]
theorem xtextR_stop {s : ByteArray} {e : List UInt8} {k : Nat} (h : k < s.size) (h1 : e.contains (s[k]'h) = true) : xtextR s e k = some ([], k) := by
  rw [xtextR, dif_pos h, if_pos h1]
theorem xtextR_none {s : ByteArray} {e : List UInt8} {k : Nat} (h : k < s.size) (h1 : e.contains (s[k]'h) = false) (h2 : (s[k]'h) = 38) (h3 : xrefR s k = none) : xtextR s e k = none := by
  rw [xtextR, dif_pos h, if_neg (by rw [h1]; simp), if_pos h2, h3]
theorem xtextR_ref {s : ByteArray} {e : List UInt8} {k : Nat} {t : ByteArray} {j : Nat} (h : k < s.size) (h1 : e.contains (s[k]'h) = false) (h2 : (s[k]'h) = 38) (h3 : xrefR s k = some (t, j)) : xtextR s e k = (xtextR s e j).map (fun r => (t.data.toList ++ r.1, r.2)) := by
  have hl := xrefR_le h3
  rw [xtextR, dif_pos h, if_neg (by rw [h1]; simp), if_pos h2, h3]
  show (if hj : _ then _ else _) = _
  rw [dif_pos ⟨hl.1, hl.2.1⟩]
theorem xtextR_bad {s : ByteArray} {e : List UInt8} {k : Nat} (h : k < s.size) (h1 : e.contains (s[k]'h) = false) (h2 : ¬ (s[k]'h) = 38) (h3 : xsignB s k = false) : xtextR s e k = none := by
  rw [xtextR, dif_pos h, if_neg (by rw [h1]; simp), if_neg h2, if_neg (by rw [h3]; simp)]
theorem xtextR_sign {s : ByteArray} {e : List UInt8} {k : Nat} (h : k < s.size) (h1 : e.contains (s[k]'h) = false) (h2 : ¬ (s[k]'h) = 38) (h3 : xsignB s k = true) : xtextR s e k = (xtextR s e (k + (getS s k).2)).map (fun r => ((s.extract k (k + (getS s k).2)).data.toList ++ r.1, r.2)) := by
  rw [xtextR, dif_pos h, if_neg (by rw [h1]; simp), if_neg h2, if_pos h3]
theorem xtextR_le (s : ByteArray) (e : List UInt8) : ∀ (d k : Nat) (r : List UInt8 × Nat), s.size - k ≤ d → k ≤ s.size → xtextR s e k = some r → k ≤ r.2 ∧ r.2 ≤ s.size ∧ r.1.length ≤ 4 * (r.2 - k) := by
  intro d
  induction d with
  | zero =>
    intro k r hd hk h
    rw [xtextR_end (by omega)] at h
    cases h
    exact ⟨Nat.le_refl _, hk, by simp⟩
  | succ d ih =>
    intro k r hd hk h
    by_cases hlt : k < s.size
    · cases h1 : e.contains (s[k]'hlt)
      · by_cases h2 : (s[k]'hlt) = 38
        · cases h3 : xrefR s k with
          | none =>
            rw [xtextR_none hlt h1 h2 h3] at h
            cases h
          | some tj =>
            obtain ⟨t, j⟩ := tj
            rw [xtextR_ref hlt h1 h2 h3] at h
            have hl := xrefR_le h3
            cases hx : xtextR s e j with
            | none =>
              rw [hx] at h
              cases h
            | some q =>
              rw [hx] at h
              cases h
              have := ih j q (by omega) hl.2.1 hx
              refine ⟨by simp; omega, by simp; omega, ?_⟩
              have ht : t.data.toList.length = t.size := Array.length_toList
              simp only [List.length_append, ht]
              omega
        · cases h3 : xsignB s k
          · rw [xtextR_bad hlt h1 h2 h3] at h
            cases h
          · rw [xtextR_sign hlt h1 h2 h3] at h
            have hm := getS_many s k hlt
            cases hx : xtextR s e (k + (getS s k).2) with
            | none =>
              rw [hx] at h
              cases h
            | some q =>
              rw [hx] at h
              cases h
              have := ih (k + (getS s k).2) q (by omega) (by omega) hx
              refine ⟨by simp; omega, by simp; omega, ?_⟩
              have ht : (s.extract k (k + (getS s k).2)).data.toList.length = (getS s k).2 := by
                rw [Array.length_toList]
                show (s.extract k (k + (getS s k).2)).size = _
                rw [ByteArray.size_extract]
                omega
              simp only [List.length_append, ht]
              omega
      · rw [xtextR_stop hlt h1] at h
        cases h
        exact ⟨Nat.le_refl _, hk, by simp⟩
    · rw [xtextR_end hlt] at h
      cases h
      exact ⟨Nat.le_refl _, hk, by simp⟩

def eqB : ByteArray := ⟨#[61, 34]⟩
/-- An attribute that begins at a place: its name's end, its value's bytes, and the place of the byte behind it. -/
def xattrR (s : ByteArray) (k : Nat) : Option (Nat × List UInt8 × Nat) :=
  let n := xnameE s true k
  if n = k ∨ standsB s n eqB = false then none
  else match xtextR s [34] (n + 2) with
    | none => none
    | some (v, m) => if ¬ m < s.size ∨ ((s.extract (n + 2) m).data.toList.contains 9 || (s.extract (n + 2) m).data.toList.contains 10) = true then none else some (n, v, m)

def openNoteB : ByteArray := ⟨#[60, 33, 45, 45]⟩
def twoB : ByteArray := ⟨#[45, 45]⟩
def shutNoteB : ByteArray := ⟨#[45, 45, 62]⟩
/-- A note that begins at a place: where it ends. -/
def xnoteR (s : ByteArray) (k : Nat) : Option Nat :=
  if standsB s k openNoteB then
    match searchE s (k + 4) twoB with
    | none => none
    | some m => if standsB s m shutNoteB && stNoteB (s.extract (k + 4) m) then some m else none
  else none

end Go.Proofs.YthipdkagkdnaiaaGreatDoor.Sg
