/- Pieces of a strict text, plain: names, references, texts, attributes, notes; what is escaped is read as it was. No program in it. Pieces of a strict text, plain: what is read of a text, but for broken bytes, is written there. No program in it. Contract of the program's signAt. -/
import Derived.Test.YthikgkhnhbaccaaGreatDoorMP25
import Derived.Test.YthikgkhnhbaccaaGreatDoorMP07
import Derived.Test.YthikgkhnhbaccaaGreatDoorSgBack
import Derived.Lib.RuneBytes
import Derived.Test.YthikgkhnhbaccaaGreatDoorMP06
import Derived.Test.YthikgkhnhbaccaaGreatDoorMP12
namespace Go.Proofs.YthikgkhnhbaccaaGreatDoor.Sg

/-- The sign at a place is written as it is read. -/
def asRead (s : ByteArray) (k : Nat) : Bool := (putS ((getS s k).1 : Int)).toList == (s.extract k (k + (getS s k).2)).toList
/-- Where a strict name that begins at a place ends. -/
def xnameE (s : ByteArray) (f : Bool) (k : Nat) : Nat :=
  if _h : k < s.size then
    if stayB f ((getS s k).1 : Int) && asRead s k then xnameE s false (k + (getS s k).2) else k
  else k
  termination_by s.size - k
  decreasing_by
    have := getS_many s k (by assumption)
    omega
theorem xnameE_go {s : ByteArray} {f : Bool} {k : Nat} (h : k < s.size) (h1 : (stayB f ((getS s k).1 : Int) && asRead s k) = true) : xnameE s f k = xnameE s false (k + (getS s k).2) := by
  rw [xnameE, dif_pos h, if_pos h1]
theorem xnameE_stop {s : ByteArray} {f : Bool} {k : Nat} (h : k < s.size) (h1 : (stayB f ((getS s k).1 : Int) && asRead s k) = false) : xnameE s f k = k := by
  rw [xnameE, dif_pos h, if_neg (by rw [h1]; simp)]
theorem xnameE_end {s : ByteArray} {f : Bool} {k : Nat} (h : ¬ k < s.size) : xnameE s f k = k := by
  rw [xnameE, dif_neg h]
theorem xnameE_le (s : ByteArray) : ∀ (d k : Nat) (f : Bool), s.size - k ≤ d → k ≤ s.size → k ≤ xnameE s f k ∧ xnameE s f k ≤ s.size := by
  intro d
  induction d with
  | zero =>
    intro k f hd hk
    rw [xnameE_end (by omega)]
    exact ⟨Nat.le_refl _, hk⟩
  | succ d ih =>
    intro k f hd hk
    by_cases h : k < s.size
    · have hm := getS_many s k h
      cases h1 : (stayB f ((getS s k).1 : Int) && asRead s k)
      · rw [xnameE_stop h h1]
        exact ⟨Nat.le_refl _, hk⟩
      · rw [xnameE_go h h1]
        have := ih (k + (getS s k).2) false (by omega) (by omega)
        omega
    · rw [xnameE_end h]
      exact ⟨Nat.le_refl _, hk⟩

/-- What may stand in a strict text as it is. -/
def xsignB (s : ByteArray) (k : Nat) : Bool := textB ((getS s k).1 : Int) && (decide ((getS s k).1 ≠ 13) && (decide ((getS s k).1 ≠ 60) && (asRead s k && !standsB s k closeB)))
/-- A strict text from a place on up to a byte of some: its bytes, and that place. -/
def xtextR (s : ByteArray) (e : List UInt8) (k : Nat) : Option (List UInt8 × Nat) :=
  if h : k < s.size then
    if e.contains (s[k]'h) then some ([], k)
    else if (s[k]'h) = 38 then
      match xrefR s k with
      | none => none
      | some (t, j) => if _hj : k < j ∧ j ≤ s.size then (xtextR s e j).map (fun r => (t.data.toList ++ r.1, r.2)) else none
    else if xsignB s k then (xtextR s e (k + (getS s k).2)).map (fun r => ((s.extract k (k + (getS s k).2)).data.toList ++ r.1, r.2))
    else none
  else some ([], k)
  termination_by s.size - k
  decreasing_by
    · omega
    · have := getS_many s k (by assumption)
      omega
theorem xtextR_end {s : ByteArray} {e : List UInt8} {k : Nat} (h : ¬ k < s.size) : xtextR s e k = some ([], k) := by
  rw [xtextR, dif_neg h]
theorem xtextR_stop {s : ByteArray} {e : List UInt8} {k : Nat} (h : k < s.size) (h1 : e.contains (s[k]'h) = true) : xtextR s e k = some ([], k) := by
  rw [xtextR, dif_pos h, if_pos h1]
theorem xtextR_none {s : ByteArray} {e : List UInt8} {k : Nat} (h : k < s.size) (h1 : e.contains (s[k]'h) = false) (h2 : (s[k]'h) = 38) (h3 : xrefR s k = none) : xtextR s e k = none := by
  rw [xtextR, dif_pos h, if_neg (by rw [h1]; simp), if_pos h2, h3]
theorem xtextR_ref {s : ByteArray} {e : List UInt8} {k : Nat} {t : ByteArray} {j : Nat} (h : k < s.size) (h1 : e.contains (s[k]'h) = false) (h2 : (s[k]'h) = 38) (h3 : xrefR s k = some (t, j)) : xtextR s e k = (xtextR s e j).map (fun r => (t.data.toList ++ r.1, r.2)) := by
  have hl := xrefR_le h3
  rw [xtextR, dif_pos h, if_neg (by rw [h1]; simp), if_pos h2, h3]
  show (if hj : _ then _ else _) = _
  rw [dif_pos ⟨hl.1, hl.2.1⟩]
theorem xtextR_bad {s : ByteArray} {e : List UInt8} {k : Nat} (h : k < s.size) (h1 : e.contains (s[k]'h) = false) (h2 : ¬ (s[k]'h) = 38) (h3 : xsignB s k = false) : xtextR s e k = none := by
  rw [xtextR, dif_pos h, if_neg (by rw [h1]; simp), if_neg h2, if_neg (by rw [h3]; simp)]
theorem xtextR_sign {s : ByteArray} {e : List UInt8} {k : Nat} (h : k < s.size) (h1 : e.contains (s[k]'h) = false) (h2 : ¬ (s[k]'h) = 38) (h3 : xsignB s k = true) : xtextR s e k = (xtextR s e (k + (getS s k).2)).map (fun r => ((s.extract k (k + (getS s k).2)).data.toList ++ r.1, r.2)) := by
  rw [xtextR, dif_pos h, if_neg (by rw [h1]; simp), if_neg h2, if_pos h3]
theorem xtextR_le (s : ByteArray) (e : List UInt8) : ∀ (d k : Nat) (r : List UInt8 × Nat), s.size - k ≤ d → k ≤ s.size → xtextR s e k = some r → k ≤ r.2 ∧ r.2 ≤ s.size ∧ r.1.length ≤ 4 * (r.2 - k) := by
  intro d
  induction d with
  | zero =>
    intro k r hd hk h
    rw [xtextR_end (by omega)] at h
    cases h
    exact ⟨Nat.le_refl _, hk, by simp⟩
  | succ d ih =>
    intro k r hd hk h
    by_cases hlt : k < s.size
    · cases h1 : e.contains (s[k]'hlt)
      · by_cases h2 : (s[k]'hlt) = 38
        · cases h3 : xrefR s k with
          | none =>
            rw [xtextR_none hlt h1 h2 h3] at h
            cases h
          | some tj =>
            obtain ⟨t, j⟩ := tj
            rw [xtextR_ref hlt h1 h2 h3] at h
            have hl := xrefR_le h3
            cases hx : xtextR s e j with
            | none =>
              rw [hx] at h
              cases h
            | some q =>
              rw [hx] at h
              cases h
              have := ih j q (by omega) hl.2.1 hx
              refine ⟨by simp; omega, by simp; omega, ?_⟩
              have ht : t.data.toList.length = t.size := Array.length_toList
              simp only [List.length_append, ht]
              omega
        · cases h3 : xsignB s k
          · rw [xtextR_bad hlt h1 h2 h3] at h
            cases h
          · rw [xtextR_sign hlt h1 h2 h3] at h
            have hm := getS_many s k hlt
            cases hx : xtextR s e (k + (getS s k).2) with
            | none =>
              rw [hx] at h
              cases h
            | some q =>
              rw [hx] at h
              cases h
              have := ih (k + (getS s k).2) q (by omega) (by omega) hx
              refine ⟨by simp; omega, by simp; omega, ?_⟩
              have ht : (s.extract k (k + (getS s k).2)).data.toList.length = (getS s k).2 := by
                rw [Array.length_toList]
                show (s.extract k (k + (getS s k).2)).size = _
                rw [ByteArray.size_extract]
                omega
              simp only [List.length_append, ht]
              omega
      · rw [xtextR_stop hlt h1] at h
        cases h
        exact ⟨Nat.le_refl _, hk, by simp⟩
    · rw [xtextR_end hlt] at h
      cases h
      exact ⟨Nat.le_refl _, hk, by simp⟩

def eqB : ByteArray := ⟨#[61, 34]⟩
/-- An attribute that begins at a place: its name's end, its value's bytes, and the place of the byte behind it. -/
def xattrR (s : ByteArray) (k : Nat) : Option (Nat × List UInt8 × Nat) :=
  let n := xnameE s true k
  if n = k ∨ standsB s n eqB = false then none
  else match xtextR s [34] (n + 2) with
    | none => none
    | some (v, m) => if ¬ m < s.size ∨ ((s.extract (n + 2) m).data.toList.contains 9 || (s.extract (n + 2) m).data.toList.contains 10) = true then none else some (n, v, m)

def openNoteB : ByteArray := ⟨#[60, 33, 45, 45]⟩
def twoB : ByteArray := ⟨#[45, 45]⟩
def shutNoteB : ByteArray := ⟨#[45, 45, 62]⟩
/-- A note that begins at a place: where it ends. -/
def xnoteR (s : ByteArray) (k : Nat) : Option Nat :=
  if standsB s k openNoteB then
    match searchE s (k + 4) twoB with
    | none => none
    | some m => if standsB s m shutNoteB && stNoteB (s.extract (k + 4) m) then some m else none
  else none

end Go.Proofs.YthikgkhnhbaccaaGreatDoor.Sg

namespace Go.Proofs.YthikgkhnhbaccaaGreatDoor.Sg

/-- Some bytes of a text, one by one. -/
theorem extract_bytes (s : ByteArray) (i n : Nat) (h : i + n ≤ s.size) : (s.extract i (i + n)).data.toList = (List.range n).map fun j => UInt8.ofNat (bN s (i + j)) := by
  have hl : (s.extract i (i + n)).data.size = n := by
    show (s.extract i (i + n)).size = n
    rw [ByteArray.size_extract]
    omega
  apply List.ext_getElem
  · simp only [Array.length_toList, List.length_map, List.length_range, hl]
  · intro j h1 h2
    have hj : j < n := by simpa using h2
    simp only [List.getElem_map, List.getElem_range, Array.getElem_toList]
    have e : (s.extract i (i + n)).data[j]'(by rw [hl]; exact hj) = s[i + j]'(by omega) := by
      simp only [ByteArray.data_extract, Array.getElem_extract]
      rfl
    rw [e, ← bN_eq s (i + j) (by omega)]
    simp

theorem put_read {s : ByteArray} {i : Nat} (h : i < s.size) (hne : (getS s i).1 ≠ 65533) : (putS ((getS s i).1 : Int)).data.toList = (s.extract i (i + (getS s i).2)).data.toList := by
  have hb := getS_many s i h
  rw [extract_bytes s i _ hb.2]
  have hg := getS_decode s i h
  rw [Lib.decode_at] at hg
  have h0 := bN_lt s i
  have h1 := bN_lt s (i + 1)
  have h2 := bN_lt s (i + 2)
  have h3 := bN_lt s (i + 3)
  change getS s i = (if Lib.decodeN (s.size - i) (bN s i) (bN s (i + 1)) (bN s (i + 2)) (bN s (i + 3)) = (65533, 1) then _ else Lib.decodeN (s.size - i) (bN s i) (bN s (i + 1)) (bN s (i + 2)) (bN s (i + 3))) at hg
  by_cases hd : Lib.decodeN (s.size - i) (bN s i) (bN s (i + 1)) (bN s (i + 2)) (bN s (i + 3)) = (65533, 1)
  · rw [if_pos hd] at hg
    rw [hg] at hne
    exact absurd rfl hne
  · rw [if_neg hd] at hg
    rcases many_cases (bN s i) h0 with ⟨hb, hm⟩ | ⟨hb, hm⟩ | ⟨hb, hb', hm⟩ | ⟨hb, hb', hm⟩ | ⟨hb, hb', hm⟩
    · have e : getS s i = (bN s i, 1) := by
        rw [hg]
        unfold Lib.decodeN
        rw [if_pos hb]
      rw [e]
      have hl := putS_list (bN s i : Nat)
      rw [Lib.encodeRuneZ_one (by omega) (by omega)] at hl
      rw [hl]
      simp
    · exfalso
      apply hd
      unfold Lib.decodeN
      rw [if_neg (by omega)]
      repeat' split
      all_goals first | rfl | (exfalso; omega)
    · rw [dec2 _ _ _ _ _ hb hb' h1] at hg hd
      split at hg
      · rename_i hc
        rw [hg]
        have l0 : loN (bN s i) = 128 := by unfold loN; rw [if_neg (by omega), if_neg (by omega)]
        have l1 : hiN (bN s i) = 191 := by unfold hiN; rw [if_neg (by omega), if_neg (by omega)]
        rw [l0, l1] at hc
        have hl := putS_list ((bN s i % 32 * 64 + bN s (i + 1) % 64 : Nat) : Int)
        rw [Lib.encodeRuneZ_two (by omega) (by omega)] at hl
        rw [hl]
        simp only [List.map_cons, List.map_nil, List.range, List.range.loop, Nat.add_zero, List.cons.injEq, and_true]
        refine ⟨?_, ?_⟩ <;> (congr 1; omega)
      · rename_i hc
        exact absurd (if_neg hc) hd
    · rw [dec3 _ _ _ _ _ hb hb' h1 h2] at hg hd
      split at hg
      · rename_i hc
        rw [hg]
        have l : (bN s i = 224 ∧ loN (bN s i) = 160 ∧ hiN (bN s i) = 191) ∨ (bN s i = 237 ∧ loN (bN s i) = 128 ∧ hiN (bN s i) = 159) ∨ (bN s i ≠ 224 ∧ bN s i ≠ 237 ∧ loN (bN s i) = 128 ∧ hiN (bN s i) = 191) := by
          unfold loN hiN
          repeat' split
          all_goals omega
        have hl := putS_list (((bN s i % 16 * 64 + bN s (i + 1) % 64) * 64 + bN s (i + 2) % 64 : Nat) : Int)
        rw [Lib.encodeRuneZ_three (by omega)] at hl
        rw [hl]
        simp only [List.map_cons, List.map_nil, List.range, List.range.loop, Nat.add_zero, List.cons.injEq, and_true]
        refine ⟨?_, ?_, ?_⟩ <;> (congr 1; omega)
      · rename_i hc
        exact absurd (if_neg hc) hd
    · rw [dec4 _ _ _ _ _ hb hb' h1 h2 h3] at hg hd
      split at hg
      · rename_i hc
        rw [hg]
        have l : (bN s i = 240 ∧ loN (bN s i) = 144 ∧ hiN (bN s i) = 191) ∨ (bN s i = 244 ∧ loN (bN s i) = 128 ∧ hiN (bN s i) = 143) ∨ (bN s i ≠ 240 ∧ bN s i ≠ 244 ∧ loN (bN s i) = 128 ∧ hiN (bN s i) = 191) := by
          unfold loN hiN
          repeat' split
          all_goals omega
        have hl := putS_list ((((bN s i % 8 * 64 + bN s (i + 1) % 64) * 64 + bN s (i + 2) % 64) * 64 + bN s (i + 3) % 64 : Nat) : Int)
        rw [Lib.encodeRuneZ_four (by omega) (by omega)] at hl
        rw [hl]
        simp only [List.map_cons, List.map_nil, List.range, List.range.loop, Nat.add_zero, List.cons.injEq, and_true]
        refine ⟨?_, ?_, ?_, ?_⟩ <;> (congr 1; omega)
      · rename_i hc
        exact absurd (if_neg hc) hd

/-- What is not written as it is read are broken bytes. -/
theorem asRead_bad {s : ByteArray} {k : Nat} (h : k < s.size) (hr : asRead s k = false) : (getS s k).1 = 65533 := by
  apply Classical.byContradiction
  intro hne
  have h2 := put_read h hne
  unfold asRead at hr
  rw [ByteArray.toList_eq, ByteArray.toList_eq, h2] at hr
  simp at hr

end Go.Proofs.YthikgkhnhbaccaaGreatDoor.Sg

namespace Go.Proofs.YthikgkhnhbaccaaGreatDoor.Sg
open Go.ChangeShapes Go.WideShapes Go.ChangeAt Go.RowKit

/-- What is read of the world: the library's tables, and the error. -/
def PcT (a : Addr) (w : World) : Prop := Lib.Utf8Tabs 1 2 w ∧ ErrA a w
theorem PcT.below {a : Addr} {w w' : World} (h : PcT a w) (hb : Below w.heap.size w w') : PcT a w' := ⟨Utf8Tabs_below h.1 hb, h.2.below hb⟩

set_option maxHeartbeats 2000000 in
theorem signAt_out (s : ByteArray) (i : Int) (a : Addr) (w : World) (h : i < 0 ∨ (s.size : Int) ≤ i) (hE : ErrA a w) :
    Calls Tryz.prog 38 #[.string s, .int .i64 i] w fun e w' => e = .returned (.tuple #[.int .i64 0, .int .i64 i, errV a]) ∧ Below w.heap.size w w' := by
  have hv : w.cell? ⟨0, 0, none⟩ = some (errV a) := hE
  have HG := implGet_out s i w h
  clear hE h
  go_enter Tryz.func38, Tryz.ntmps38
  go_wp2_with fail
  refine HG.mono ?_
  rintro e w1 ⟨rfl, rfl⟩
  clear HG
  go_wp2_with fail
  go_quiet (fail)
  have bf := drew_kd (Below.refl w1.heap.size w1) nq
  have hv1 := keep_cell bf hv
  generalize w1.drewN nq = w2 at *
  go_wp2_with fail
  go_quiet (fail)
  have bg := drew_kd bf nq
  go_wp2_with fail
  go_ret3
  exact ⟨rfl, bg⟩
set_option maxHeartbeats 2000000 in
theorem signAt_yes (s : ByteArray) (k : Nat) (a : Addr) (w : World) (hk : k < s.size) (hs : s.size ≤ 17592186044416) (hT : PcT a w) (hr : asRead s k = true) :
    Calls Tryz.prog 38 #[.string s, .int .i64 (k : Int)] w fun e w' => e = .returned (.tuple #[.int .i64 ((getS s k).1 : Int), .int .i64 ((k + (getS s k).2 : Nat) : Int), .nilIface]) ∧ Below w.heap.size w w' := by
  have hm := getS_many s k hk
  have HG := implGet_in s k w hk (by omega) hT.1
  have Hr : Hid (((putS ((getS s k).1 : Int)).toList == (s.extract k (k + (getS s k).2)).toList) = true) := hr
  clear hr hT
  generalize (getS s k).1 = n at *
  generalize (getS s k).2 = m at *
  have q0 : ((m : Int) == 0) = false := by rw [beq_eq_false_iff_ne]; omega
  have q1 : IntKind.i64.wrap ((k : Int) + (m : Int)) = (k : Int) + (m : Int) := IntWalk.i64_in _ (by omega)
  have q2 : ((k : Int) + (m : Int)).toNat = k + m := by omega
  have q3 : (k : Int) ≤ (k : Int) + (m : Int) := by omega
  have q4 : (k : Int) + (m : Int) ≤ (s.size : Int) := by omega
  by_cases hb : n = 65533
  · subst hb
    have q5 : ((s.extract k (k + m)).toList == (putS 65533).toList) = true := by
      have := Hr.out
      rw [beq_iff_eq] at this ⊢
      exact this.symm
    have HP := implPutSign 65533
    generalize putS 65533 = P at *
    go_enter Tryz.func38, Tryz.ntmps38
    go_wp2_with fail
    refine HG.mono ?_
    rintro e w1 ⟨rfl, b1⟩
    clear HG
    go_wp2_with fail
    go_quiet ((go_at_call 66; exact Calls.quiet_of_same (HP _)))
    have bf := drew_kd b1 nq
    go_wp2_with fail
    go_ret3
    exact ⟨by rw [Int.natCast_add]; rfl, bf⟩
  · have q5 : ((n : Int) == 65533) = false := by rw [beq_eq_false_iff_ne]; omega
    go_enter Tryz.func38, Tryz.ntmps38
    go_wp2_with fail
    refine HG.mono ?_
    rintro e w1 ⟨rfl, b1⟩
    clear HG
    go_wp2_with fail
    go_quiet (fail)
    have bf := drew_kd b1 nq
    go_wp2_with fail
    go_ret3
    exact ⟨by rw [Int.natCast_add]; rfl, bf⟩
set_option maxHeartbeats 2000000 in
theorem signAt_no (s : ByteArray) (k : Nat) (a : Addr) (w : World) (hk : k < s.size) (hs : s.size ≤ 17592186044416) (hT : PcT a w) (hr : asRead s k = false) :
    Calls Tryz.prog 38 #[.string s, .int .i64 (k : Int)] w fun e w' => e = .returned (.tuple #[.int .i64 65533, .int .i64 (k : Int), errV a]) ∧ Below w.heap.size w w' := by
  have hm := getS_many s k hk
  have HG := implGet_in s k w hk (by omega) hT.1
  have hb := asRead_bad hk hr
  have Hr : Hid (((putS ((getS s k).1 : Int)).toList == (s.extract k (k + (getS s k).2)).toList) = false) := hr
  have HE : Hid (ErrA a w) := hT.2
  clear hr hT
  rw [hb] at HG Hr
  clear hb
  generalize (getS s k).2 = m at *
  have q0 : ((m : Int) == 0) = false := by rw [beq_eq_false_iff_ne]; omega
  have q1 : IntKind.i64.wrap ((k : Int) + (m : Int)) = (k : Int) + (m : Int) := IntWalk.i64_in _ (by omega)
  have q2 : ((k : Int) + (m : Int)).toNat = k + m := by omega
  have q3 : (k : Int) ≤ (k : Int) + (m : Int) := by omega
  have q4 : (k : Int) + (m : Int) ≤ (s.size : Int) := by omega
  have q5 : ((s.extract k (k + m)).toList == (putS 65533).toList) = false := by
    have h := Hr.out
    rw [beq_eq_false_iff_ne] at h ⊢
    exact fun e => h e.symm
  have HP := implPutSign 65533
  clear Hr
  generalize putS 65533 = P at *
  go_enter Tryz.func38, Tryz.ntmps38
  go_wp2_with fail
  refine HG.mono ?_
  rintro e w1 ⟨rfl, b1⟩
  clear HG
  go_wp2_with fail
  go_quiet ((go_at_call 66; exact Calls.quiet_of_same (HP _)))
  have bf := drew_kd b1 nq
  generalize w1.drewN nq = w2 at *
  have hv := HE.out.below bf
  unfold ErrA at hv
  go_wp2_with fail
  go_quiet (fail)
  have bg := drew_kd bf nq
  go_wp2_with fail
  go_ret3
  exact ⟨rfl, bg⟩

end Go.Proofs.YthikgkhnhbaccaaGreatDoor.Sg
