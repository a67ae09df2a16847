/- The library's IndexRune over the bytes that end a name, of signs that are no ASCII byte. The library's ContainsAny over the bytes that end a name, of any text. -/
import Derived.Test.YtmambbknljgjcaaDoorM11
import Derived.Test.YtmambbknljgjcaaDoorSgPut
import Derived.Test.YtmambbknljgjcaaDoorTkPlQ
import Derived.WalkMore
import Derived.BigQuiet
import Derived.Deep.QuietTactic
namespace Go.Proofs.YtmambbknljgjcaaDoor.Sg
open Go.ChangeShapes Go.WideShapes Go.ChangeAt Go.RowKit

/-- The bytes that end a name. -/
def endC : ByteArray := ⟨#[9, 10, 12, 13, 32, 47, 62]⟩

theorem endC_decode : ∀ p, p < 7 → Utf8.decode endC p = (bN endC p, 1) ∧ bN endC p < 128 := by decide +kernel

set_option maxRecDepth 20000 in
set_option maxHeartbeats 4000000 in
theorem idxRune_bad (w : World) :
    Calls Tryd.prog 102 #[.string ⟨#[9, 10, 12, 13, 32, 47, 62]⟩, .int .i32 65533] w fun e w' => e = .returned (.int .i64 (-1)) ∧ Below w.heap.size w w' := by
  go_enter Tryd.func102, Tryd.ntmps102
  go_wp2
  go_loopw [5] (fun _ wr => ∃ pos : Nat, pos ≤ 7 ∧ wr.heap[w.heap.size]? = some (.stringIter endC pos) ∧ Below w.heap.size w wr) (fun _ wr => 7 - wr.iterPos w.heap.size)
  case atStart =>
    refine ⟨0, Nat.zero_le _, ?_, (Below.refl _ w).alloc (Nat.le_refl _) _⟩
    exact World.iter_heap w endC 0
  case round =>
    obtain ⟨pos, hpos, hit, hbel⟩ := hrel
    by_cases hp : pos < 7
    · have hnext : ∀ ty, (Instr.next (.pointer (some ⟨w.heap.size, 0, none⟩)) true ty).run Tryd.prog wr = _ := fun ty => Lib.run_next_any_at wr w.heap.size endC pos ty hit hp
      obtain ⟨hd, hlt⟩ := endC_decode pos hp
      have hit2 := Lib.iterAt_heap wr w.heap.size endC pos (pos + 1) hit
      have hbel2 := Lib.below_iterAt hbel (k := w.heap.size) (Nat.le_refl _) endC (pos + 1)
      rw [hd] at hnext
      simp only at hnext
      generalize bN endC pos = c at *
      have g : ((c : Int) == 65533) = false := by simp; omega
      generalize hW : wr.iterAt w.heap.size endC (pos + 1) = W at *
      clear hW hd
      go_wp2
      go_roundw
      case rel => exact ⟨pos + 1, by omega, hit2, hbel2⟩
      case measure =>
        simp only [World.iterPos, hit2, hit]
        omega
    · have hnext : ∀ ty, (Instr.next (.pointer (some ⟨w.heap.size, 0, none⟩)) true ty).run Tryd.prog wr = _ := fun ty => Lib.run_next_end_at wr w.heap.size endC pos ty hit (by show ¬ pos < 7; exact hp)
      go_wp2
      go_ret
      exact ⟨rfl, hbel⟩

theorem ofNat_last (c : Nat) : 128 ≤ (UInt8.ofNat (128 + c % 64)).toNat := by
  rw [UInt8.toNat_ofNat']
  omega
theorem enc_shape (r : Int) (h : 128 ≤ r) : (∃ a b : UInt8, Utf8.encode r = ⟨#[a, b]⟩ ∧ 128 ≤ b.toNat) ∨ (∃ a b c : UInt8, Utf8.encode r = ⟨#[a, b, c]⟩ ∧ 128 ≤ c.toNat) ∨ (∃ a b c d : UInt8, Utf8.encode r = ⟨#[a, b, c, d]⟩ ∧ 128 ≤ d.toNat) := by
  unfold Utf8.encode
  have hc : 128 ≤ (if Utf8.valid r = true then r.toNat else Utf8.runeError) := by
    split
    · omega
    · decide
  generalize (if Utf8.valid r = true then r.toNat else Utf8.runeError) = c at *
  simp only
  rw [if_neg (by omega)]
  by_cases h2 : c < 2048
  · rw [if_pos h2]
    exact .inl ⟨_, _, rfl, ofNat_last c⟩
  · rw [if_neg h2]
    by_cases h3 : c < 65536
    · rw [if_pos h3]
      exact .inr (.inl ⟨_, _, _, rfl, ofNat_last c⟩)
    · rw [if_neg h3]
      exact .inr (.inr ⟨_, _, _, _, rfl, ofNat_last c⟩)

theorem no_high (l : List UInt8) (hl : ∀ x ∈ l, x.toNat < 128) (b : UInt8) (h : 128 ≤ b.toNat) : Lib.indexByte l b = -1 := by
  have h1 := indexByte_one l b
  have h2 := indexByte_ge l b
  have h3 : l.contains b = false := by
    cases hh : l.contains b
    · rfl
    · have := hl b (by simpa using hh)
      omega
  rw [h3] at h1
  have := of_decide_eq_false h1
  omega

theorem idxByte_high (t : ByteArray) (hl : ∀ x ∈ t.data.toList, x.toNat < 128) (b : UInt8) (h : 128 ≤ b.toNat) (W : World) :
    Calls Tryd.prog 81 #[.string t, .int .u8 (b.toNat : Int)] W fun e w' => e = .returned (.int .i64 (-1)) ∧ w' = W := by
  have Hi := Tryd.strings_IndexByte t (b.toNat : Int) W
  rw [show ((b.toNat : Int)).toNat.toUInt8 = b by simp, no_high _ hl b h] at Hi
  exact Hi

set_option maxRecDepth 20000 in
set_option maxHeartbeats 4000000 in
theorem idxRune_good (r : Int) (w : World) (h0 : 128 ≤ r) (h1 : r ≠ 65533) (hv : Lib.validRune r = true) :
    Calls Tryd.prog 102 #[.string ⟨#[9, 10, 12, 13, 32, 47, 62]⟩, .int .i32 r] w fun e w' => e = .returned (.int .i64 (-1)) ∧ Below w.heap.size w w' := by
  have g0 : decide ((0 : Int) ≤ r) = true := decide_eq_true (by omega)
  have g1 : decide (r < 128) = false := decide_eq_false (by omega)
  have g2 : (r == 65533) = false := by simp [h1]
  have Hv := fun w => Tryd.utf8_ValidRune r w
  rw [hv] at Hv
  rcases enc_shape r h0 with ⟨x, y, he, hb⟩ | ⟨x, y, z, he, hb⟩ | ⟨x, y, z, u, he, hb⟩
  · have hw : IntKind.i64.wrap 2 = 2 := by decide
    have Hi := fun W => idxByte_high ((⟨#[9, 10, 12, 13, 32, 47, 62]⟩ : ByteArray).extract 2 7) (by decide +kernel) ((⟨#[x, y]⟩ : ByteArray)[1]'(show 1 < 2 by decide)) hb W
    have gn0 : ((10 : Int) != (y.toNat : Int)) = true := by simp; omega
    have gn : ((((⟨#[9, 10, 12, 13, 32, 47, 62]⟩ : ByteArray)[1]'(show 1 < 7 by decide)).toNat : Int) != ((((⟨#[x, y]⟩ : ByteArray)[1]'(show 1 < 2 by decide)).toNat : Nat) : Int)) = true := gn0
    go_enter Tryd.func102, Tryd.ntmps102
    go_wp2_with fail
    refine (Hv _).mono ?_
    rintro e w1 ⟨rfl, rfl⟩
    go_wp2_with fail
    go_step3
    go_wp2_with fail
    go_loopw [9] (fun i wr => i = .int .i64 1 ∧ wr = w1) (fun _ _ => 0)
    case atStart => exact ⟨rfl, rfl⟩
    case round =>
      obtain ⟨rfl, rfl⟩ := hrel
      go_wp2_with fail
      go_step3
      go_wp2_with fail
      go_quiet (fail)
      have bq : Below wr.heap.size wr (wr.drewN nq) := drew_kd (Below.refl _ _) nq
      generalize wr.drewN nq = W1 at *
      go_wp2_with fail
      go_quiet ((go_at_call 81; exact Calls.quiet_of_same (Hi _)))
      go_wp2_with fail
      rw [Exit.noGoto_ret]
      go_wp2_with fail
      rw [Exit.noGoto_ret]
      go_ret
      exact ⟨rfl, drew_kd bq _⟩
  · have hw : IntKind.i64.wrap 3 = 3 := by decide
    have Hi := fun W => idxByte_high ((⟨#[9, 10, 12, 13, 32, 47, 62]⟩ : ByteArray).extract 3 7) (by decide +kernel) ((⟨#[x, y, z]⟩ : ByteArray)[2]'(show 2 < 3 by decide)) hb W
    have gn0 : ((12 : Int) != (z.toNat : Int)) = true := by simp; omega
    have gn : ((((⟨#[9, 10, 12, 13, 32, 47, 62]⟩ : ByteArray)[2]'(show 2 < 7 by decide)).toNat : Int) != ((((⟨#[x, y, z]⟩ : ByteArray)[2]'(show 2 < 3 by decide)).toNat : Nat) : Int)) = true := gn0
    go_enter Tryd.func102, Tryd.ntmps102
    go_wp2_with fail
    refine (Hv _).mono ?_
    rintro e w1 ⟨rfl, rfl⟩
    go_wp2_with fail
    go_step3
    go_wp2_with fail
    go_loopw [9] (fun i wr => i = .int .i64 2 ∧ wr = w1) (fun _ _ => 0)
    case atStart => exact ⟨rfl, rfl⟩
    case round =>
      obtain ⟨rfl, rfl⟩ := hrel
      go_wp2_with fail
      go_step3
      go_wp2_with fail
      go_quiet (fail)
      have bq : Below wr.heap.size wr (wr.drewN nq) := drew_kd (Below.refl _ _) nq
      generalize wr.drewN nq = W1 at *
      go_wp2_with fail
      go_quiet ((go_at_call 81; exact Calls.quiet_of_same (Hi _)))
      go_wp2_with fail
      rw [Exit.noGoto_ret]
      go_wp2_with fail
      rw [Exit.noGoto_ret]
      go_ret
      exact ⟨rfl, drew_kd bq _⟩
  · have hw : IntKind.i64.wrap 4 = 4 := by decide
    have Hi := fun W => idxByte_high ((⟨#[9, 10, 12, 13, 32, 47, 62]⟩ : ByteArray).extract 4 7) (by decide +kernel) ((⟨#[x, y, z, u]⟩ : ByteArray)[3]'(show 3 < 4 by decide)) hb W
    have gn0 : ((13 : Int) != (u.toNat : Int)) = true := by simp; omega
    have gn : ((((⟨#[9, 10, 12, 13, 32, 47, 62]⟩ : ByteArray)[3]'(show 3 < 7 by decide)).toNat : Int) != ((((⟨#[x, y, z, u]⟩ : ByteArray)[3]'(show 3 < 4 by decide)).toNat : Nat) : Int)) = true := gn0
    go_enter Tryd.func102, Tryd.ntmps102
    go_wp2_with fail
    refine (Hv _).mono ?_
    rintro e w1 ⟨rfl, rfl⟩
    go_wp2_with fail
    go_step3
    go_wp2_with fail
    go_loopw [9] (fun i wr => i = .int .i64 3 ∧ wr = w1) (fun _ _ => 0)
    case atStart => exact ⟨rfl, rfl⟩
    case round =>
      obtain ⟨rfl, rfl⟩ := hrel
      go_wp2_with fail
      go_step3
      go_wp2_with fail
      go_quiet (fail)
      have bq : Below wr.heap.size wr (wr.drewN nq) := drew_kd (Below.refl _ _) nq
      generalize wr.drewN nq = W1 at *
      go_wp2_with fail
      go_quiet ((go_at_call 81; exact Calls.quiet_of_same (Hi _)))
      go_wp2_with fail
      rw [Exit.noGoto_ret]
      go_wp2_with fail
      rw [Exit.noGoto_ret]
      go_ret
      exact ⟨rfl, drew_kd bq _⟩

end Go.Proofs.YtmambbknljgjcaaDoor.Sg

namespace Go.Proofs.YtmambbknljgjcaaDoor.Sg
open Go.ChangeShapes Go.WideShapes Go.ChangeAt Go.RowKit

theorem decode_low (s : ByteArray) (i : Nat) (h : bN s i < 128) : Utf8.decode s i = (bN s i, 1) := by
  rw [Lib.decode_at]
  unfold bN at *
  unfold Lib.decodeN
  rw [if_pos h]
theorem validRune_yes {r : Int} (h : (0 ≤ r ∧ r < 55296) ∨ (57343 < r ∧ r ≤ 1114111)) : Lib.validRune r = true := decide_eq_true h
theorem decode_high (s : ByteArray) (i : Nat) (hb : 128 ≤ bN s i) :
    128 ≤ (Utf8.decode s i).1 ∧ ((Utf8.decode s i).1 = 65533 ∨ Lib.validRune ((Utf8.decode s i).1 : Int) = true) ∧ ∀ j, i ≤ j → j < i + (Utf8.decode s i).2 → 128 ≤ bN s j := by
  have one : 128 ≤ ((65533, 1) : Nat × Nat).1 ∧ (((65533, 1) : Nat × Nat).1 = 65533 ∨ Lib.validRune ((((65533, 1) : Nat × Nat).1 : Nat) : Int) = true) ∧ ∀ j, i ≤ j → j < i + ((65533, 1) : Nat × Nat).2 → 128 ≤ bN s j :=
    ⟨by decide, .inl rfl, fun j h1 h2 => by
      have : j = i := by simp only at h2; omega
      rw [this]
      exact hb⟩
  rw [Lib.decode_at]
  show 128 ≤ (Lib.decodeN (s.size - i) (bN s i) (bN s (i + 1)) (bN s (i + 2)) (bN s (i + 3))).1 ∧ ((Lib.decodeN (s.size - i) (bN s i) (bN s (i + 1)) (bN s (i + 2)) (bN s (i + 3))).1 = 65533 ∨ Lib.validRune ((Lib.decodeN (s.size - i) (bN s i) (bN s (i + 1)) (bN s (i + 2)) (bN s (i + 3))).1 : Int) = true) ∧ ∀ j, i ≤ j → j < i + (Lib.decodeN (s.size - i) (bN s i) (bN s (i + 1)) (bN s (i + 2)) (bN s (i + 3))).2 → 128 ≤ bN s j
  have h0 := bN_lt s i
  have h1 := bN_lt s (i + 1)
  have h2 := bN_lt s (i + 2)
  have h3 := bN_lt s (i + 3)
  have lo : ∀ a, 128 ≤ loN a := fun a => by unfold loN; split <;> (try split) <;> omega
  rcases many_cases (bN s i) h0 with ⟨hb2, hm⟩ | ⟨hb2, hm⟩ | ⟨hb2, hb', hm⟩ | ⟨hb2, hb', hm⟩ | ⟨hb2, hb', hm⟩
  · omega
  · have hd : Lib.decodeN (s.size - i) (bN s i) (bN s (i + 1)) (bN s (i + 2)) (bN s (i + 3)) = (65533, 1) := by
      unfold Lib.decodeN
      rw [if_neg (by omega)]
      repeat' split
      all_goals first | rfl | (exfalso; omega)
    rw [hd]
    exact one
  · rw [dec2 _ _ _ _ _ hb2 hb' h1]
    by_cases c : 1 < s.size - i ∧ loN (bN s i) ≤ bN s (i + 1) ∧ bN s (i + 1) ≤ hiN (bN s i)
    · rw [if_pos c]
      have l1 := lo (bN s i)
      refine ⟨?_, .inr (validRune_yes (.inl ?_)), fun j j1 j2 => ?_⟩
      · simp only; omega
      · simp only; omega
      · simp only at j2
        have : j = i ∨ j = i + 1 := by omega
        rcases this with rfl | rfl <;> omega
    · rw [if_neg c]
      exact one
  · rw [dec3 _ _ _ _ _ hb2 hb' h1 h2]
    split
    · rename_i c
      have l1 := lo (bN s i)
      have hlo : bN s i = 224 → 160 ≤ bN s (i + 1) := fun e => by have := c.1.2.1; unfold loN at this; rw [if_pos e] at this; exact this
      have hhi : bN s (i + 1) ≤ 191 := by have := c.1.2.2; unfold hiN at this; split at this <;> (try split at this) <;> omega
      have hhi2 : bN s i = 237 → bN s (i + 1) ≤ 159 := fun e => by have := c.1.2.2; unfold hiN at this; rw [if_pos e] at this; exact this
      have c1 := c.1.2.1
      have c2 := c.2
      refine ⟨?_, .inr (validRune_yes ?_), fun j j1 j2 => ?_⟩
      · simp only; omega
      · simp only; omega
      · simp only at j2
        have : j = i ∨ j = i + 1 ∨ j = i + 2 := by omega
        rcases this with rfl | rfl | rfl <;> omega
    · exact one
  · rw [dec4 _ _ _ _ _ hb2 hb' h1 h2 h3]
    split
    · rename_i c
      have l1 := lo (bN s i)
      have hlo : bN s i = 240 → 144 ≤ bN s (i + 1) := fun e => by have := c.1.2.1; unfold loN at this; rw [if_neg (by omega), if_pos e] at this; exact this
      have hhi : bN s (i + 1) ≤ 191 := by have := c.1.2.2; unfold hiN at this; split at this <;> (try split at this) <;> omega
      have hhi2 : bN s i = 244 → bN s (i + 1) ≤ 143 := fun e => by have := c.1.2.2; unfold hiN at this; rw [if_neg (by omega), if_pos e] at this; exact this
      have c1 := c.1.2.1
      have c2 := c.2
      refine ⟨?_, .inr (validRune_yes ?_), fun j j1 j2 => ?_⟩
      · simp only; omega
      · simp only; omega
      · simp only at j2
        have : j = i ∨ j = i + 1 ∨ j = i + 2 ∨ j = i + 3 := by omega
        rcases this with rfl | rfl | rfl | rfl <;> omega
    · exact one

theorem bytes_length (s : ByteArray) : s.data.toList.length = s.size := Array.length_toList
theorem all_of {s : ByteArray} {p : UInt8 → Bool} (h : ∀ j (hj : j < s.size), p (s[j]'hj) = true) : s.data.toList.all p = true := by
  rw [List.all_eq_true]
  intro x hx
  obtain ⟨j, hj, rfl⟩ := List.getElem_of_mem hx
  have hj' : j < s.size := by rw [← bytes_length s]; exact hj
  have := h j hj'
  rw [Array.getElem_toList]
  exact this
theorem not_all {s : ByteArray} {p : UInt8 → Bool} {j : Nat} (hj : j < s.size) (h : p (s[j]'hj) = false) : s.data.toList.all p = false := by
  apply Bool.eq_false_iff.2
  intro ha
  rw [List.all_eq_true] at ha
  have h2 : s[j]'hj ∈ s.data.toList := by
    rw [show s[j]'hj = s.data.toList[j]'(by rw [bytes_length]; exact hj) by rw [Array.getElem_toList]; rfl]
    exact List.getElem_mem _
  rw [ha _ h2] at h
  cases h
theorem tag_high (b : UInt8) (h : 128 ≤ b.toNat) : tagU b = true := by
  have := byte_all (fun b => 128 ≤ b.toNat → tagU b = true) (by decide +kernel) b
  exact this h
theorem one_tag (b : UInt8) : oneU ⟨#[9, 10, 12, 13, 32, 47, 62]⟩ b = !tagU b := by
  have h := congrFun not_tag b
  unfold notU at h
  rw [← h, Bool.not_not]

set_option maxRecDepth 20000 in
set_option maxHeartbeats 4000000 in
theorem idxAny_short (s : ByteArray) (w : World) (hs : s.size ≤ 8) :
    Calls Tryd.prog 92 #[.string s, .string ⟨#[9, 10, 12, 13, 32, 47, 62]⟩] w fun e w' => ∃ v : Int, e = .returned (.int .i64 v) ∧ decide (0 ≤ v) = (!(s.data.toList.all tagU)) ∧ Below w.heap.size w w' := by
  have Hsh := fun W => Tryd.strings_shouldUseASCIISet (s.size : Int) W
  rw [show decide ((8 : Int) < (s.size : Int)) = false from decide_eq_false (by omega)] at Hsh
  go_enter Tryd.func92, Tryd.ntmps92
  go_wp2_with fail
  refine (Hsh _).mono ?_
  rintro e w1 ⟨rfl, rfl⟩
  clear Hsh
  go_wp2_with fail
  go_loopw [9, 10] (fun _ _ wr => ∃ pos : Nat, pos ≤ s.size ∧ wr.heap[w1.heap.size]? = some (.stringIter s pos) ∧ Hid (∀ j (hj : j < s.size), j < pos → tagU (s[j]'hj) = true) ∧ Below w1.heap.size w1 wr) (fun _ _ wr => s.size - wr.iterPos w1.heap.size)
  case atStart =>
    refine ⟨0, Nat.zero_le _, ?_, fun j _ h => by omega, (Below.refl _ w1).alloc (Nat.le_refl _) _⟩
    exact World.iter_heap w1 s 0
  case round =>
    obtain ⟨pos, hpos, hit, Hall, hbel⟩ := hrel
    have hszr : w1.heap.size < wr.heap.size := (Array.getElem?_eq_some_iff.1 hit).1
    by_cases hp : pos < s.size
    · have hnext : ∀ ty, (Instr.next (.pointer (some ⟨w1.heap.size, 0, none⟩)) true ty).run Tryd.prog wr = _ := fun ty => Lib.run_next_any_at wr w1.heap.size s pos ty hit hp
      have hwd := decode_pos s pos
      have hfit := decode_fit s pos hp
      have hit2 := Lib.iterAt_heap wr w1.heap.size s pos (pos + (Utf8.decode s pos).2) hit
      have hbel2 := Lib.below_iterAt hbel (k := w1.heap.size) (Nat.le_refl _) s (pos + (Utf8.decode s pos).2)
      have hbe := bN_eq s pos hp
      by_cases hlow : bN s pos < 128
      · rw [decode_low s pos hlow] at hnext hwd hfit hit2 hbel2
        simp only at hnext hwd hfit hit2 hbel2
        have Hr := fun W => Tryd.strings_IndexRune_ascii ⟨#[9, 10, 12, 13, 32, 47, 62]⟩ ((bN s pos : Nat) : Int) W (by omega) (by omega)
        have hc : ((bN s pos : Nat) : Int).toNat.toUInt8 = s[pos]'hp := by
          rw [← hbe]
          simp
        rw [hc] at Hr
        have hone := indexByte_one (⟨#[9, 10, 12, 13, 32, 47, 62]⟩ : ByteArray).data.toList (s[pos]'hp)
        rw [show ((⟨#[9, 10, 12, 13, 32, 47, 62]⟩ : ByteArray).data.toList.contains (s[pos]'hp)) = oneU ⟨#[9, 10, 12, 13, 32, 47, 62]⟩ (s[pos]'hp) from rfl, one_tag] at hone
        generalize Lib.indexByte (⟨#[9, 10, 12, 13, 32, 47, 62]⟩ : ByteArray).data.toList (s[pos]'hp) = z at *
        generalize hW : wr.iterAt w1.heap.size s (pos + 1) = W at *
        clear hW hc
        cases ht : tagU (s[pos]'hp)
        · have Hn : Hid (s.data.toList.all tagU = false) := not_all hp ht
          rw [ht] at hone
          clear Hall
          go_wp2_with fail
          refine (Hr _).mono ?_
          rintro e w2 ⟨rfl, rfl⟩
          go_wp2_with fail
          go_ret
          exact ⟨_, rfl, by rw [Hn.out, decide_eq_true (by omega)]; rfl, hbel2⟩
        · have Ha : Hid (∀ j (hj : j < s.size), j < pos + 1 → tagU (s[j]'hj) = true) := fun j hj h => by
            by_cases he : j = pos
            · subst he
              exact ht
            · exact Hall.out j hj (by omega)
          rw [ht] at hone
          clear Hall
          go_wp2_with fail
          refine (Hr _).mono ?_
          rintro e w2 ⟨rfl, rfl⟩
          go_wp2_with fail
          go_roundw
          case rel => exact ⟨pos + 1, by omega, hit2, Ha, hbel2⟩
          case measure =>
            simp only [World.iterPos, hit2, hit]
            omega
      · obtain ⟨hr1, hr2, hr3⟩ := decode_high s pos (by omega)
        have Ha : Hid (∀ j (hj : j < s.size), j < pos + (Utf8.decode s pos).2 → tagU (s[j]'hj) = true) := fun j hj h => by
          by_cases he : j < pos
          · exact Hall.out j hj he
          · have := hr3 j (by omega) h
            rw [← bN_eq s j hj] at this
            exact tag_high _ this
        clear hr3 Hall
        generalize Utf8.decode s pos = D at *
        obtain ⟨r, m⟩ := D
        simp only at hnext hwd hfit hit2 hbel2 hr1 hr2 Ha
        generalize hW : wr.iterAt w1.heap.size s (pos + m) = W at *
        have hszW : w1.heap.size < W.heap.size := (Array.getElem?_eq_some_iff.1 hit2).1
        clear hW hbe
        have Hr : ∀ W', Calls Tryd.prog 102 #[.string ⟨#[9, 10, 12, 13, 32, 47, 62]⟩, .int .i32 (r : Int)] W' fun e w' => e = .returned (.int .i64 (-1)) ∧ Below W'.heap.size W' w' := fun W' => by
          by_cases he : r = 65533
          · subst he
            exact idxRune_bad W'
          · rcases hr2 with h | h
            · exact absurd h he
            · exact idxRune_good (r : Int) W' (by omega) (by omega) h
        clear hr2
        go_wp2_with fail
        refine (Hr _).mono ?_
        rintro e w2 ⟨rfl, b2⟩
        have hit3 : w2.heap[w1.heap.size]? = some (.stringIter s (pos + m)) := (b2.block _ hszW).trans hit2
        have hbel3 : Below w1.heap.size w1 w2 := hbel2.trans (b2.mono (by omega))
        clear b2 hnext Hr
        go_wp2_with fail
        go_roundw
        case rel => exact ⟨pos + m, by omega, hit3, Ha, hbel3⟩
        case measure =>
          simp only [World.iterPos, hit3, hit]
          omega
    · have hnext : ∀ ty, (Instr.next (.pointer (some ⟨w1.heap.size, 0, none⟩)) true ty).run Tryd.prog wr = _ := fun ty => Lib.run_next_end_at wr w1.heap.size s pos ty hit hp
      have Hn : Hid (s.data.toList.all tagU = true) := all_of fun j hj => Hall.out j hj (by omega)
      clear Hall
      go_wp2_with fail
      go_ret
      exact ⟨-1, rfl, by rw [Hn.out]; rfl, hbel⟩

theorem indexAny_all : ∀ l : List UInt8, decide (0 ≤ Lib.indexAny l [9, 10, 12, 13, 32, 47, 62]) = !(l.all tagU)
  | [] => rfl
  | b :: l => by
    have ih := indexAny_all l
    have hc : ([9, 10, 12, 13, 32, 47, 62] : List UInt8).contains b = !tagU b := one_tag b
    rw [Lib.indexAny, hc, List.all_cons]
    have hg := Lib.indexAny_ge [9, 10, 12, 13, 32, 47, 62] l
    generalize Lib.indexAny l [9, 10, 12, 13, 32, 47, 62] = z at *
    cases ht : tagU b
    · simp
    · rw [Bool.true_and, ← ih]
      by_cases hz : z = -1
      · subst hz
        rfl
      · have hz2 : (z == -1) = false := by simp [hz]
        simp only [Bool.not_true, Bool.false_eq_true, if_false, hz2]
        rw [decide_eq_true (show (0 : Int) ≤ z + 1 by omega), decide_eq_true (show (0 : Int) ≤ z by omega)]

set_option maxRecDepth 20000 in
theorem zero_set (w : World) : (zeroValue 110).run Tryd.prog w = .ok (.agg (Array.replicate 256 (.bool false))) w := by
  kernel_rfl

set_option maxHeartbeats 1000000 in
theorem implContainsAny (s : ByteArray) (w : World) (hs : s.size ≤ 4294967280) :
    Calls Tryd.prog 79 #[.string s, .string ⟨#[9, 10, 12, 13, 32, 47, 62]⟩] w fun e w' => e = .returned (.bool (!(s.data.toList.all tagU))) ∧ Below w.heap.size w w' := by
  have Hi : ∀ W, Calls Tryd.prog 92 #[.string s, .string ⟨#[9, 10, 12, 13, 32, 47, 62]⟩] W fun e w' => ∃ v : Int, e = .returned (.int .i64 v) ∧ decide (0 ≤ v) = (!(s.data.toList.all tagU)) ∧ Below W.heap.size W w' := fun W => by
    by_cases h8 : s.size ≤ 8
    · exact idxAny_short s W h8
    · refine (Tryd.strings_IndexAny_long zero_set s ⟨#[9, 10, 12, 13, 32, 47, 62]⟩ W (by decide) (by omega) (by omega) (by decide) ?_).mono ?_
      · intro j b hj
        have hm : b ∈ ([9, 10, 12, 13, 32, 47, 62] : List UInt8) := List.mem_of_getElem? hj
        simp only [List.mem_cons, List.mem_nil_iff, or_false] at hm
        rcases hm with rfl | rfl | rfl | rfl | rfl | rfl | rfl <;> decide
      · rintro e w' ⟨rfl, rfl⟩
        exact ⟨_, rfl, indexAny_all s.data.toList, ((Below.refl _ _).alloc (Nat.le_refl _) _).alloc (by simp) _⟩
  generalize (!(s.data.toList.all tagU)) = R at *
  go_enter Tryd.func79, Tryd.ntmps79
  go_wp2_with fail
  refine (Hi _).mono ?_
  rintro e w1 ⟨v, rfl, hv, b1⟩
  have Hv : Hid (decide (0 ≤ v) = R) := hv
  clear hv Hi
  go_wp2_with fail
  go_ret
  exact ⟨ret_bool Hv.out, b1⟩

end Go.Proofs.YtmambbknljgjcaaDoor.Sg
