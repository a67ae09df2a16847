/- Plain functions: the signs of a text, one behind the other. No program in it. Contracts of the model's GetSign and of what it calls. The model's GetSign at every text and place. The library's contracts at this dump, laid by its own tool, those that are used. The program's GetSign at every text and place: it tells what the model's tells. The program's GetSign, whole. Contracts of the helpers on slices of ints that the laws use: a copy, and whether two hold the same. Contracts of Signs, of the program and of the model: both give the signs of a text in memory of their own. -/
import Derived.Test.YtbmmghkieolpkaaGreatDoorSgPlain
import Derived.Test.YtbmmghkieolpkaaGreatDoorMR2304
import Derived.Laws.Bits128
import Derived.Shelf.Strings.Builder1
import Derived.Shelf.Small.Bits
import Derived.Shelf.Small.Strs
import Derived.Shelf.Small.Wraps
import Derived.Shelf.Strings.BuilderF
import Derived.Shelf.Strings.BuilderK
import Derived.Shelf.Strconv.Itoa0
import Derived.Shelf.Strings.Search1
import Derived.Shelf.Strings.Search2
import Derived.Shelf.Strings.Search3
import Derived.Shelf.Strings.Cut
import Derived.Shelf.LaysM
import Derived.Shelf.Strings.Shaped
import Derived.Shelf.Sort.Plain
import Derived.Shelf.Strings.Prefix
import Derived.Shelf.Unicode.Decode
import Derived.Shelf.Unicode.DecodeSlow
import Derived.Shelf.Unicode.DecodeAny
import Derived.Shelf.Slices.CompactS
import Derived.Shelf.Slices.In.SortNone
import Derived.Test.YtbmmghkieolpkaaGreatDoorProg
import Derived.Below
import Derived.Lib.OthersKept
import Derived.Laws.AppendOwn
namespace Go.Proofs.YtbmmghkieolpkaaGreatDoor.Sg

/-- The signs from a place on, by at most so many. -/
def signsFrom (s : ByteArray) : Nat → Nat → List Int
  | 0, _ => []
  | f + 1, pos => if pos < s.size then ((getS s pos).1 : Int) :: signsFrom s f (pos + (getS s pos).2) else []

def signsL (s : ByteArray) : List Int := signsFrom s s.size 0

theorem signsFrom_end (s : ByteArray) (f pos : Nat) (h : ¬ pos < s.size) : signsFrom s f pos = [] := by
  cases f with
  | zero => rfl
  | succ f => rw [signsFrom, if_neg h]

/-- More fuel than there are bytes changes nothing. -/
theorem signsFrom_fuel (s : ByteArray) : ∀ (f g pos : Nat), s.size ≤ pos + f → s.size ≤ pos + g → signsFrom s f pos = signsFrom s g pos
  | 0, g, pos, h, _ => by
    rw [signsFrom_end s g pos (by omega), signsFrom_end s 0 pos (by omega)]
  | f + 1, 0, pos, _, h => by
    rw [signsFrom_end s 0 pos (by omega), signsFrom_end s (f + 1) pos (by omega)]
  | f + 1, g + 1, pos, h, h' => by
    by_cases hp : pos < s.size
    · have hm := getS_many s pos hp
      rw [signsFrom, signsFrom, if_pos hp, if_pos hp, signsFrom_fuel s f g _ (by omega) (by omega)]
    · rw [signsFrom_end s _ _ hp, signsFrom_end s _ _ hp]

/-- The signs from a place on. -/
def signsAt (s : ByteArray) (pos : Nat) : List Int := signsFrom s s.size pos

theorem signsAt_zero (s : ByteArray) : signsAt s 0 = signsL s := rfl
theorem signsAt_end (s : ByteArray) (pos : Nat) (h : ¬ pos < s.size) : signsAt s pos = [] := signsFrom_end s _ _ h
theorem signsAt_step (s : ByteArray) (pos : Nat) (h : pos < s.size) : signsAt s pos = ((getS s pos).1 : Int) :: signsAt s (pos + (getS s pos).2) := by
  have hm := getS_many s pos h
  unfold signsAt
  rw [signsFrom_fuel s s.size (s.size + 1) pos (by omega) (by omega)]
  conv => lhs; rw [signsFrom, if_pos h]

/-- No more signs than bytes. -/
theorem signsFrom_length (s : ByteArray) : ∀ (f pos : Nat), (signsFrom s f pos).length ≤ s.size - pos
  | 0, pos => by simp [signsFrom]
  | f + 1, pos => by
    by_cases hp : pos < s.size
    · have hm := getS_many s pos hp
      have ih := signsFrom_length s f (pos + (getS s pos).2)
      rw [signsFrom, if_pos hp, List.length_cons]
      omega
    · rw [signsFrom_end s _ _ hp]
      simp

theorem signsL_length (s : ByteArray) : (signsL s).length ≤ s.size := signsFrom_length s _ _

/-- What is read is a sign's number. -/
theorem getS_le (s : ByteArray) (i : Nat) (h : i < s.size) : (getS s i).1 ≤ 1114111 := by
  rw [getS_decode s i h]
  split
  · simp
  · exact decode_le s i

/-- Bytes within the beginning of a sign come behind another. -/
theorem begR_span (s : ByteArray) (i M : Nat) : ∀ (f k : Nat), 1 ≤ k → ∀ j, k ≤ j → j < begR s i M f k → i + j < s.size ∧ 128 ≤ bN s (i + j) ∧ bN s (i + j) ≤ 191
  | 0, k, _, j, h1, h2 => by
    simp only [begR] at h2
    omega
  | f + 1, k, hk, j, h1, h2 => by
    rw [begR] at h2
    split at h2
    · rename_i hc
      by_cases e : j = k
      · subst e
        refine ⟨hc.2.1, ?_⟩
        have hf := hc.2.2
        unfold fits at hf
        have l0 : 128 ≤ loN (bN s i) := by unfold loN; split; omega; split <;> omega
        have l1 : hiN (bN s i) ≤ 191 := by unfold hiN; split; omega; split <;> omega
        split at hf
        · rw [decide_eq_true_eq] at hf
          omega
        · rw [decide_eq_true_eq] at hf
          exact hf
      · exact begR_span s i M f (k + 1) (by omega) j (by omega) h2
    · omega

theorem begR_pos (s : ByteArray) (i M : Nat) : ∀ (f k : Nat), k ≤ begR s i M f k
  | 0, k => Nat.le_refl _
  | f + 1, k => by
    rw [begR]
    split
    · exact Nat.le_trans (Nat.le_succ k) (begR_pos s i M f (k + 1))
    · exact Nat.le_refl _

/-- Where such a byte stands Go's decoder takes it alone. -/
theorem decode_behind (s : ByteArray) (i : Nat) (h1 : 128 ≤ bN s i) (h2 : bN s i ≤ 191) : Utf8.decode s i = (65533, 1) := by
  rw [Lib.decode_at]
  unfold bN at h1 h2
  unfold Lib.decodeN
  rw [if_neg (by omega), if_neg (by omega), if_neg (by omega), if_neg (by omega)]

theorem decode_pos (s : ByteArray) (i : Nat) : 1 ≤ (Utf8.decode s i).2 := by
  rw [Lib.decode_at]
  unfold Lib.decodeN
  repeat' split
  all_goals simp

/-- Signs at a place where Go's decoder finds one. -/
theorem getS_good (s : ByteArray) (i : Nat) (h : i < s.size) (hd : (Utf8.decode s i).1 ≠ 65533) : getS s i = Utf8.decode s i := by
  rw [getS_decode s i h, if_neg (fun e => hd (by rw [e]))]

/-- Signs at a place where it tells 65533: that sign itself, or a beginning. -/
theorem getS_bad (s : ByteArray) (i : Nat) (h : i < s.size) (hd : (Utf8.decode s i).1 = 65533) :
    (getS s i).1 = 65533 ∧ (Utf8.decode s i).2 ≤ (getS s i).2 ∧ ∀ j, i + (Utf8.decode s i).2 ≤ j → j < i + (getS s i).2 → 128 ≤ bN s j ∧ bN s j ≤ 191 := by
  rw [getS_decode s i h]
  by_cases e : Utf8.decode s i = (65533, 1)
  · rw [if_pos e, e]
    refine ⟨rfl, begR_pos _ _ _ _ _, fun j h1 h2 => ?_⟩
    obtain ⟨t, rfl⟩ : ∃ t, j = i + t := ⟨j - i, by omega⟩
    exact (begR_span s i (max 1 (manyN (bN s i))) 3 1 (Nat.le_refl _) t (by simp only at h1; omega) (by simp only at h2; omega)).2
  · rw [if_neg e]
    exact ⟨hd, Nat.le_refl _, fun j h1 h2 => by omega⟩

end Go.Proofs.YtbmmghkieolpkaaGreatDoor.Sg

namespace Go.Proofs.YtbmmghkieolpkaaGreatDoor.Sg
open Go.ChangeShapes Go.WideShapes Go.ChangeAt Go.RowKit

set_option maxHeartbeats 1000000 in
theorem l1In_any (x lo hi : Int) (w : World) :
    Calls Tryz.prog 69 #[.int .i64 x, .int .i64 lo, .int .i64 hi] w fun e w' => e = .returned (.bool (inB x lo hi)) ∧ w' = w := by
  by_cases h1 : lo ≤ x
  · by_cases h2 : x ≤ hi
    · have ho : inB x lo hi = true := inB_yes ⟨h1, h2⟩
      rw [ho]
      go_enter Tryz.func69, Tryz.ntmps69
      go_wp2
      go_ret
      exact ⟨rfl, rfl⟩
    · have ho : inB x lo hi = false := inB_no (by omega)
      rw [ho]
      go_enter Tryz.func69, Tryz.ntmps69
      go_wp2
      go_ret
      exact ⟨rfl, rfl⟩
  · have ho : inB x lo hi = false := inB_no (by omega)
    rw [ho]
    have hd : decide (lo ≤ x) = false := by simpa using h1
    go_enter Tryz.func69, Tryz.ntmps69
    go_wp2
    go_ret
    exact ⟨rfl, rfl⟩

theorem ret_int {k : IntKind} {a b : Int} (h : a = b) : Ending.returned (.int k a) = .returned (.int k b) := by rw [h]

set_option maxHeartbeats 2000000 in
theorem l1Many_any (b : Nat) (w : World) (hb : b < 256) :
    Calls Tryz.prog 87 #[.int .i64 (b : Int)] w fun e w' => e = .returned (.int .i64 (manyN b : Int)) ∧ w' = w := by
  rcases many_cases b hb with ⟨h, hm⟩ | ⟨h, hm⟩ | ⟨h, h', hm⟩ | ⟨h, h', hm⟩ | ⟨h, h', hm⟩
  · rw [hm]
    clear hm
    have h0 : (b : Int) < 128 := by omega
    go_enter Tryz.func87, Tryz.ntmps87
    go_wp2_with fail
    go_ret
    exact ⟨rfl, rfl⟩
  · rw [hm]
    clear hm
    have i1 : inB (b : Int) 194 223 = false := inB_no (by omega)
    have i2 : inB (b : Int) 224 239 = false := inB_no (by omega)
    have i3 : inB (b : Int) 240 244 = false := inB_no (by omega)
    have h0 : ¬ ((b : Int) < 128) := by omega
    go_enter Tryz.func87, Tryz.ntmps87
    go_wp2_with (go_at_call 69; refine (l1In_any _ _ _ _).mono ?_; rintro e w' ⟨rfl, rfl⟩)
    go_ret
    exact ⟨rfl, rfl⟩
  · rw [hm]
    clear hm
    have i1 : inB (b : Int) 194 223 = true := inB_yes (by omega)
    have h0 : ¬ ((b : Int) < 128) := by omega
    go_enter Tryz.func87, Tryz.ntmps87
    go_wp2_with (go_at_call 69; refine (l1In_any _ _ _ _).mono ?_; rintro e w' ⟨rfl, rfl⟩)
    go_ret
    exact ⟨rfl, rfl⟩
  · rw [hm]
    clear hm
    have i1 : inB (b : Int) 194 223 = false := inB_no (by omega)
    have i2 : inB (b : Int) 224 239 = true := inB_yes (by omega)
    have h0 : ¬ ((b : Int) < 128) := by omega
    go_enter Tryz.func87, Tryz.ntmps87
    go_wp2_with (go_at_call 69; refine (l1In_any _ _ _ _).mono ?_; rintro e w' ⟨rfl, rfl⟩)
    go_ret
    exact ⟨rfl, rfl⟩
  · rw [hm]
    clear hm
    have i1 : inB (b : Int) 194 223 = false := inB_no (by omega)
    have i2 : inB (b : Int) 224 239 = false := inB_no (by omega)
    have i3 : inB (b : Int) 240 244 = true := inB_yes (by omega)
    have h0 : ¬ ((b : Int) < 128) := by omega
    go_enter Tryz.func87, Tryz.ntmps87
    go_wp2_with (go_at_call 69; refine (l1In_any _ _ _ _).mono ?_; rintro e w' ⟨rfl, rfl⟩)
    go_ret
    exact ⟨rfl, rfl⟩

theorem span_cases (a : Nat) : (a = 224 ∧ loN a = 160 ∧ hiN a = 191) ∨ (a = 237 ∧ loN a = 128 ∧ hiN a = 159) ∨ (a = 240 ∧ loN a = 144 ∧ hiN a = 191) ∨ (a = 244 ∧ loN a = 128 ∧ hiN a = 143) ∨
    (((a : Int) == 224) = false ∧ ((a : Int) == 237) = false ∧ ((a : Int) == 240) = false ∧ ((a : Int) == 244) = false ∧ loN a = 128 ∧ hiN a = 191) := by
  have e : ∀ k : Int, ((a : Int) == k) = false ↔ (a : Int) ≠ k := fun k => beq_eq_false_iff_ne
  simp only [e]
  unfold loN hiN
  repeat' split
  all_goals omega

set_option maxHeartbeats 2000000 in
theorem l1Second_any (a b : Nat) (w : World) :
    Calls Tryz.prog 88 #[.int .i64 (a : Int), .int .i64 (b : Int)] w fun e w' => e = .returned (.bool (fits a 1 b)) ∧ w' = w := by
  have hf : fits a 1 b = inB (b : Int) (loN a : Int) (hiN a : Int) := by
    unfold fits inB
    rw [if_pos rfl]
    exact decide_eq_decide.2 (by omega)
  rw [hf]
  clear hf
  rcases span_cases a with ⟨rfl, h1, h2⟩ | ⟨rfl, h1, h2⟩ | ⟨rfl, h1, h2⟩ | ⟨rfl, h1, h2⟩ | ⟨g1, g2, g3, g4, h1, h2⟩
  all_goals
    rw [h1, h2]
    clear h1 h2
    go_enter Tryz.func88, Tryz.ntmps88
    go_wp2_with (go_at_call 69; refine (l1In_any _ _ _ _).mono ?_; rintro e w' ⟨rfl, rfl⟩)
    go_ret
    exact ⟨rfl, rfl⟩

end Go.Proofs.YtbmmghkieolpkaaGreatDoor.Sg

namespace Go.Proofs.YtbmmghkieolpkaaGreatDoor.Sg
open Go.ChangeShapes Go.WideShapes Go.ChangeAt Go.RowKit

set_option maxHeartbeats 1000000 in
theorem specGet_out (s : ByteArray) (at' : Int) (w : World) (h : at' < 0 ∨ (s.size : Int) ≤ at') :
    Calls Tryz.prog 62 #[.string s, .int .i64 at'] w fun e w' => e = .returned (.tuple #[.int .i64 0, .int .i64 0]) ∧ w' = w := by
  by_cases h0 : at' < 0
  · clear h
    go_enter Tryz.func62, Tryz.ntmps62
    go_wp2_with fail
    go_ret2
    exact ⟨rfl, rfl⟩
  · have h1 : (s.size : Int) ≤ at' := by omega
    have hd : decide (at' < 0) = false := by simpa using h0
    clear h
    go_enter Tryz.func62, Tryz.ntmps62
    go_wp2_with fail
    go_ret2
    exact ⟨rfl, rfl⟩

theorem mask_many (b M : Nat) (h2 : 2 ≤ M) (h4 : M ≤ 4) : bits .and .i64 (b : Int) (127 / 2 ^ M) = ((b % (128 / 2 ^ M) : Nat) : Int) := by
  have h : M = 2 ∨ M = 3 ∨ M = 4 := by omega
  rcases h with rfl | rfl | rfl
  · exact (i64_low b 5 (by decide) 31 (by decide)).trans (by simp)
  · exact (i64_low b 4 (by decide) 15 (by decide)).trans (by simp)
  · exact (i64_low b 3 (by decide) 7 (by decide)).trans (by simp)

theorem i64_63 (n : Int) : bits .and .i64 n 63 = n % 64 := (i64_low n 6 (by decide) 63 (by decide)).trans (by simp)

theorem fits_in (b0 b : Nat) (h : fits b0 1 b = true) : inB (b : Int) 128 191 = true := by
  have h' : loN b0 ≤ b ∧ b ≤ hiN b0 := by simpa [fits] using h
  have h1 : 128 ≤ loN b0 := by unfold loN; split; omega; split <;> omega
  have h2 : hiN b0 ≤ 191 := by unfold hiN; split; omega; split <;> omega
  exact inB_yes (by omega)

theorem fits_more (b0 j b : Nat) (hj : j ≠ 1) : fits b0 j b = inB (b : Int) 128 191 := by
  unfold fits inB
  rw [if_neg hj]
  exact decide_eq_decide.2 (by omega)

/-- How great what was read so far can be. -/
def accOk (j acc : Nat) : Prop := (j = 1 ∧ acc < 128) ∨ (j = 2 ∧ acc < 8192) ∨ (j = 3 ∧ acc < 524288) ∨ (j = 4 ∧ acc < 33554432)

set_option maxHeartbeats 4000000 in
set_option maxRecDepth 100000 in
theorem specGet_in (s : ByteArray) (i : Nat) (w : World) (hi : i < s.size) (hs : s.size ≤ 4611686018427387904) :
    Calls Tryz.prog 62 #[.string s, .int .i64 (i : Int)] w fun e w' => e = .returned (.tuple #[.int .i64 ((getS s i).1 : Int), .int .i64 ((getS s i).2 : Int)]) ∧ w' = w := by
  have hd : decide ((i : Int) < 0) = false := by simp
  have hd2 : decide ((s.size : Int) ≤ (i : Int)) = false := by simp; omega
  have hb := bN_lt s i
  have hbn := bN_eq s
  generalize hM : manyN (bN s i) = M
  have HM : Hid (manyN (bN s i) = M) := hM
  clear hM
  go_enter Tryz.func62, Tryz.ntmps62
  go_wp2_with fail
  refine (l1Many_any (bN s i) _ hb).mono ?_
  rintro e w' ⟨rfl, rfl⟩
  rw [HM.out]
  rcases many_cases (bN s i) hb with ⟨h, hm⟩ | ⟨h, hm⟩ | h
  · have hM : M = 1 := HM.out.symm.trans hm
    subst hM
    have hg : getS s i = (bN s i, 1) := by unfold getS; rw [hm]; rfl
    have Hg : Hid (getS s i = (bN s i, 1)) := hg
    clear hg hm
    go_wp2_with fail
    go_ret2
    rw [Hg.out]
    exact ⟨rfl, rfl⟩
  · have hM : M = 0 := HM.out.symm.trans hm
    subst hM
    have hg : getS s i = (65533, 1) := by unfold getS; rw [hm]; rfl
    have Hg : Hid (getS s i = (65533, 1)) := hg
    clear hg hm h
    go_wp2_with fail
    go_ret2
    rw [Hg.out]
    exact ⟨rfl, rfl⟩
  · have hM2 : 2 ≤ M := by have := HM.out; omega
    have hM4 : M ≤ 4 := by have := HM.out; omega
    have hg0 : getR s i M (M - 1) 1 (bN s i % (128 / 2 ^ M)) = getS s i := by
      unfold getS
      rw [HM.out, if_neg (by omega)]
    have hacc0 : bN s i % (128 / 2 ^ M) < 128 := by
      have h3 : M = 2 ∨ M = 3 ∨ M = 4 := by omega
      rcases h3 with rfl | rfl | rfl <;> simp <;> omega
    have hmk := mask_many (bN s i) M hM2 hM4
    have a63 := i64_63
    have hM2' : ((M : Int) < 2) = False := by simp; omega
    generalize hA0 : bN s i % (128 / 2 ^ M) = acc0 at *
    clear hA0 h
    have Hg0 : Hid (getR s i M (M - 1) 1 acc0 = getS s i) := hg0
    clear hg0
    go_wp2_with fail
    go_loop [8, 9] (fun v k => ∃ j acc : Nat, 1 ≤ j ∧ j ≤ M ∧ k = .int .i64 j ∧ v = .int .i64 acc ∧ accOk j acc ∧ Hid (getR s i M (M - j) j acc = getS s i)) (fun _ k => M - (intOf k).toNat)
    case atStart => exact ⟨1, acc0, Nat.le_refl _, by omega, rfl, rfl, .inl ⟨rfl, hacc0⟩, Hg0⟩
    case round =>
      obtain ⟨j, acc, hj1, hjM, rfl, rfl, hacc, Hg⟩ := hrel
      clear hmk hM2' Hg0 hacc0
      have Hacc : Hid (accOk j acc) := hacc
      have hab : acc < 33554432 := by
        rcases hacc with h | h | h | h <;> omega
      clear hacc
      by_cases hlt : j < M
      · by_cases hin : i + j < s.size
        · have hin' : ((i : Int) + (j : Int)) < (s.size : Int) := by omega
          have hbj := bN_lt s (i + j)
          cases hf : fits (bN s i) j (bN s (i + j))
          · have hg : getS s i = (65533, j) := by
              rw [← Hg.out, show M - j = (M - j - 1) + 1 by omega]
              simp only [getR]
              rw [if_pos hlt, if_neg (by simp [hf])]
            have Hr : Hid (getS s i = (65533, j)) := hg
            have Hf : Hid (fits (bN s i) j (bN s (i + j)) = false) := hf
            clear hg hf
            by_cases hj : j = 1
            · subst hj
              go_wp2_with fail
              refine (l1Second_any (bN s i) (bN s (i + 1)) _).mono ?_
              rintro e w' ⟨rfl, rfl⟩
              rw [Hf.out]
              go_wp2_with fail
              go_ret2
              rw [Hr.out]
              exact ⟨rfl, rfl⟩
            · have hj1' : ((j : Int) == 1) = false := by rw [beq_eq_false_iff_ne]; omega
              have hfm := fits_more (bN s i) j (bN s (i + j)) hj
              have Hfm : Hid (inB (bN s (i + j) : Int) 128 191 = false) := hfm.symm.trans Hf.out
              clear hfm
              go_wp2_with fail
              refine (l1In_any (bN s (i + j) : Int) 128 191 _).mono ?_
              rintro e w' ⟨rfl, rfl⟩
              rw [Hfm.out]
              go_wp2_with fail
              go_ret2
              rw [Hr.out]
              exact ⟨rfl, rfl⟩
          · have hg : getR s i M (M - (j + 1)) (j + 1) (acc * 64 + bN s (i + j) % 64) = getS s i := by
              rw [← Hg.out, show M - j = (M - (j + 1)) + 1 by omega]
              simp only [getR]
              rw [if_pos hlt, if_pos ⟨hin, hf⟩]
            have Hr : Hid (getR s i M (M - (j + 1)) (j + 1) (acc * 64 + bN s (i + j) % 64) = getS s i) := hg
            have Hf : Hid (fits (bN s i) j (bN s (i + j)) = true) := hf
            clear hg hf Hg
            have Hacc2 : Hid (accOk (j + 1) (acc * 64 + bN s (i + j) % 64)) := by
              have := Hacc.out
              unfold accOk at *
              show _ ∨ _
              omega
            by_cases hj : j = 1
            · subst hj
              have Hfi := fits_in _ _ Hf.out
              have HFi : Hid (inB (bN s (i + 1) : Int) 128 191 = true) := Hfi
              clear Hfi
              go_wp2_with fail
              refine (l1Second_any (bN s i) (bN s (i + 1)) _).mono ?_
              rintro e w' ⟨rfl, rfl⟩
              rw [Hf.out]
              go_wp2_with fail
              refine (l1In_any (bN s (i + 1) : Int) 128 191 _).mono ?_
              rintro e w' ⟨rfl, rfl⟩
              rw [HFi.out]
              go_wp2_with fail
              go_round
              case rel => exact ⟨2, acc * 64 + bN s (i + 1) % 64, by omega, by omega, by go_num, by go_num, Hacc2.out, Hr⟩
              case measure => simp [intOf]; omega
            · have hj1' : ((j : Int) == 1) = false := by rw [beq_eq_false_iff_ne]; omega
              have hfm := fits_more (bN s i) j (bN s (i + j)) hj
              have Hfm : Hid (inB (bN s (i + j) : Int) 128 191 = true) := hfm.symm.trans Hf.out
              clear hfm
              go_wp2_with fail
              refine (l1In_any (bN s (i + j) : Int) 128 191 _).mono ?_
              rintro e w' ⟨rfl, rfl⟩
              rw [Hfm.out]
              go_wp2_with fail
              go_round
              case rel => exact ⟨j + 1, acc * 64 + bN s (i + j) % 64, by omega, by omega, by go_num, by go_num, Hacc2.out, Hr⟩
              case measure => simp [intOf]; omega
        · have hin' : decide ((s.size : Int) ≤ (i : Int) + (j : Int)) = true := by simp; omega
          have hg : getS s i = (65533, j) := by
            rw [← Hg.out, show M - j = (M - j - 1) + 1 by omega]
            simp only [getR]
            rw [if_pos hlt, if_neg (by omega)]
          have Hr : Hid (getS s i = (65533, j)) := hg
          clear hg
          go_wp2_with fail
          go_ret2
          rw [Hr.out]
          exact ⟨rfl, rfl⟩
      · have hg : getS s i = (acc, M) := by
          rw [← Hg.out, show M - j = 0 by omega]
          simp only [getR]
        have Hr : Hid (getS s i = (acc, M)) := hg
        clear hg
        go_wp2_with fail
        go_ret2
        rw [Hr.out]
        exact ⟨rfl, rfl⟩

end Go.Proofs.YtbmmghkieolpkaaGreatDoor.Sg

namespace Go.Proofs
open Go.Shelf
def Tryz.lays169_ren : Go.Shelf.Ren := ⟨fun | 169 => 110 | n => n, fun | 70 => 128 | 9 => 9 | 0 => 0 | 72 => 130 | 37 => 78 | 127 => 142 | 3 => 3 | 5 => 5 | n => n, fun | n => n⟩
theorem Tryz.lays169 : Go.Proofs.Lays.n169 Tryz.prog Tryz.lays169_ren := {
  mixed := by kernel_rfl
  f169 := Tryz.func110.trans (congrArg some (by kernel_rfl))
  t0 := Tryz.underlying0
  a0 := Tryz.isAgg0
  z0 := Tryz.sizeOf0
  v0 := Tryz.zeroValue0
  t3 := Tryz.underlying3
  a3 := Tryz.isAgg3
  z3 := Tryz.sizeOf3
  v3 := Tryz.zeroValue3
  t9 := Tryz.underlying9
  a9 := Tryz.isAgg9
  z9 := Tryz.sizeOf9
  v9 := Tryz.zeroValue9
  t37 := Tryz.underlying78
  a37 := Tryz.isAgg78
  z37 := Tryz.sizeOf78
  v37 := Tryz.zeroValue78
  t70 := Tryz.underlying128
  a70 := Tryz.isAgg128
  z70 := Tryz.sizeOf128
  v70 := Tryz.zeroValue128
  t72 := Tryz.underlying130
  a72 := Tryz.isAgg130
  z72 := Tryz.sizeOf130
  v72 := Tryz.zeroValue130
  t127 := Tryz.underlying142
  a127 := Tryz.isAgg142
  z127 := Tryz.sizeOf142
  v127 := Tryz.zeroValue142 }
theorem Tryz.Builder_Extra_169 : Builder.Extra Tryz.prog Tryz.lays169_ren := {
  sizeBuilder := by kernel_rfl
  liesBuilder := by kernel_rfl
  t5 := Tryz.underlying5
  a5 := Tryz.isAgg5
  z5 := Tryz.sizeOf5
  v5 := Tryz.zeroValue5
  infoByte := by kernel_rfl
  cellsByte := by kernel_rfl
  sizeByte := by kernel_rfl
  neB5 := by decide }
def Tryz.lays137_ren : Go.Shelf.Ren := ⟨fun | 137 => 156 | 217 => 169 | 266 => 177 | n => n, fun | 9 => 9 | 5 => 5 | 3 => 3 | n => n, fun | n => n⟩
theorem Tryz.lays137 : Go.Proofs.Lays.n137 Tryz.prog Tryz.lays137_ren := {
  mixed := by kernel_rfl
  f137 := Tryz.func156.trans (congrArg some (by kernel_rfl))
  f217 := Tryz.func169.trans (congrArg some (by kernel_rfl))
  f266 := Tryz.func177.trans (congrArg some (by kernel_rfl))
  t3 := Tryz.underlying3
  a3 := Tryz.isAgg3
  z3 := Tryz.sizeOf3
  v3 := Tryz.zeroValue3
  t5 := Tryz.underlying5
  a5 := Tryz.isAgg5
  z5 := Tryz.sizeOf5
  v5 := Tryz.zeroValue5
  t9 := Tryz.underlying9
  a9 := Tryz.isAgg9
  z9 := Tryz.sizeOf9
  v9 := Tryz.zeroValue9 }
open Go.RowKit in
theorem Tryz.strings_IndexByte (s : ByteArray) (c : Int) (w : World) :
    Calls Tryz.prog 156 #[.string s, .int .u8 c] w fun e w' => e = .returned (.int .i64 (Lib.indexByte s.data.toList c.toNat.toUInt8)) ∧ w' = w := Any.strings_IndexByte Tryz.lays137 s c w
def Tryz.lays103_ren : Go.Shelf.Ren := ⟨fun | 103 => 103 | 210 => 122 | 206 => 82 | n => n, fun | 9 => 9 | 4 => 4 | 24 => 124 | 3 => 3 | n => n, fun | n => n⟩
theorem Tryz.lays103 : Go.Proofs.Lays.n103 Tryz.prog Tryz.lays103_ren := {
  mixed := by kernel_rfl
  f103 := Tryz.func103.trans (congrArg some (by kernel_rfl))
  f206 := Tryz.func82.trans (congrArg some (by kernel_rfl))
  f210 := Tryz.func122.trans (congrArg some (by kernel_rfl))
  t3 := Tryz.underlying3
  a3 := Tryz.isAgg3
  z3 := Tryz.sizeOf3
  v3 := Tryz.zeroValue3
  t4 := Tryz.underlying4
  a4 := Tryz.isAgg4
  z4 := Tryz.sizeOf4
  v4 := Tryz.zeroValue4
  t9 := Tryz.underlying9
  a9 := Tryz.isAgg9
  z9 := Tryz.sizeOf9
  v9 := Tryz.zeroValue9
  t24 := Tryz.underlying124
  a24 := Tryz.isAgg124
  z24 := Tryz.sizeOf124
  v24 := Tryz.zeroValue124 }
open Go.RowKit in
theorem Tryz.strings_CutPrefix (s p : ByteArray) (w : World) :
    Calls Tryz.prog 103 #[.string s, .string p] w fun e w' => e = .returned (.tuple #[.string ⟨(Lib.trimPrefix s.data.toList p.data.toList).toArray⟩, .bool (Lib.hasPrefix s.data.toList p.data.toList)]) ∧ w' = w := Any.strings_CutPrefix Tryz.lays103 s p w
open Go.RowKit in
theorem Tryz.Builder_String_any_k (B b : Nat) (l : List UInt8) (w : World) (h : Lib.IsBuilderF 130 5 B b (Lib.byteCells l) w) (hBw : B ≤ w.heap.size) :
    Calls Tryz.prog 110 #[.pointer (some ⟨b, 0, none⟩)] w fun e w' => e = .returned (.string ⟨l.toArray⟩) ∧ (Lib.IsBuilderF 130 5 B b (Lib.byteCells l) w' ∧ Below B w w' ∧ Lib.OthersKept 5 (some b) w w') := Any.Builder_String_any_k Tryz.lays169 Tryz.Builder_Extra_169 B b l w h hBw
def Tryz.lays144_ren : Go.Shelf.Ren := ⟨fun | 144 => 107 | 143 => 127 | 219 => 150 | 217 => 169 | 225 => 170 | 224 => 171 | 267 => 172 | 266 => 177 | 314 => 178 | n => n, fun | 9 => 9 | 4 => 4 | 3 => 3 | 5 => 5 | 46 => 110 | 146 => 195 | 51 => 170 | n => n, fun | 1 => 1 | n => n⟩
theorem Tryz.lays144 : Go.Proofs.Lays.n144 Tryz.prog Tryz.lays144_ren := {
  mixed := by kernel_rfl
  f143 := Tryz.func127.trans (congrArg some (by kernel_rfl))
  f144 := Tryz.func107.trans (congrArg some (by kernel_rfl))
  f217 := Tryz.func169.trans (congrArg some (by kernel_rfl))
  f219 := Tryz.func150.trans (congrArg some (by kernel_rfl))
  f224 := Tryz.func171.trans (congrArg some (by kernel_rfl))
  f225 := Tryz.func170.trans (congrArg some (by kernel_rfl))
  f266 := Tryz.func177.trans (congrArg some (by kernel_rfl))
  f267 := Tryz.func172.trans (congrArg some (by kernel_rfl))
  f314 := Tryz.func178.trans (congrArg some (by kernel_rfl))
  t3 := Tryz.underlying3
  a3 := Tryz.isAgg3
  z3 := Tryz.sizeOf3
  v3 := Tryz.zeroValue3
  t4 := Tryz.underlying4
  a4 := Tryz.isAgg4
  z4 := Tryz.sizeOf4
  v4 := Tryz.zeroValue4
  t5 := Tryz.underlying5
  a5 := Tryz.isAgg5
  z5 := Tryz.sizeOf5
  v5 := Tryz.zeroValue5
  t9 := Tryz.underlying9
  a9 := Tryz.isAgg9
  z9 := Tryz.sizeOf9
  v9 := Tryz.zeroValue9
  t46 := Tryz.underlying110
  a46 := Tryz.isAgg110
  z46 := Tryz.sizeOf110
  v46 := Tryz.zeroValue110
  t51 := Tryz.underlying170
  a51 := Tryz.isAgg170
  z51 := Tryz.sizeOf170
  v51 := Tryz.zeroValue170
  t146 := Tryz.underlying195
  a146 := Tryz.isAgg195
  z146 := Tryz.sizeOf195
  v146 := Tryz.zeroValue195
  g1 := by kernel_rfl }
open Go.RowKit Go.Lib in
theorem Tryz.strings_Contains_one (s : ByteArray) (c : UInt8) (w : World) :
    Calls Tryz.prog 107 #[.string s, .string ⟨#[c]⟩] w fun e w' => e = .returned (.bool (decide (0 ≤ Lib.indexByte s.data.toList c))) ∧ w' = w := Any.strings_Contains_one Tryz.lays144 s c w
open Go.RowKit Go.Lib in
theorem Tryz.strings_Contains (s sub : ByteArray) (m : Int) (w : World) (hs : s.size < 4294967281) (hm : w.cell? ⟨1, 0, none⟩ = some (.int .i64 m)) :
    Calls Tryz.prog 107 #[.string s, .string sub] w fun e w' => e = .returned (.bool (Lib.contains s.data.toList sub.data.toList)) ∧ w' = w := Any.strings_Contains Tryz.lays144 s sub m w hs hm
def Tryz.lays145_ren : Go.Shelf.Ren := ⟨fun | 145 => 104 | 220 => 123 | 219 => 150 | 217 => 169 | 225 => 170 | 224 => 171 | 267 => 172 | 266 => 177 | 314 => 178 | n => n, fun | 9 => 9 | 4 => 4 | 59 => 126 | 3 => 3 | 5 => 5 | 46 => 110 | 146 => 195 | 51 => 170 | n => n, fun | 1 => 1 | n => n⟩
theorem Tryz.lays145 : Go.Proofs.Lays.n145 Tryz.prog Tryz.lays145_ren := {
  mixed := by kernel_rfl
  f145 := Tryz.func104.trans (congrArg some (by kernel_rfl))
  f217 := Tryz.func169.trans (congrArg some (by kernel_rfl))
  f219 := Tryz.func150.trans (congrArg some (by kernel_rfl))
  f220 := Tryz.func123.trans (congrArg some (by kernel_rfl))
  f224 := Tryz.func171.trans (congrArg some (by kernel_rfl))
  f225 := Tryz.func170.trans (congrArg some (by kernel_rfl))
  f266 := Tryz.func177.trans (congrArg some (by kernel_rfl))
  f267 := Tryz.func172.trans (congrArg some (by kernel_rfl))
  f314 := Tryz.func178.trans (congrArg some (by kernel_rfl))
  t3 := Tryz.underlying3
  a3 := Tryz.isAgg3
  z3 := Tryz.sizeOf3
  v3 := Tryz.zeroValue3
  t4 := Tryz.underlying4
  a4 := Tryz.isAgg4
  z4 := Tryz.sizeOf4
  v4 := Tryz.zeroValue4
  t5 := Tryz.underlying5
  a5 := Tryz.isAgg5
  z5 := Tryz.sizeOf5
  v5 := Tryz.zeroValue5
  t9 := Tryz.underlying9
  a9 := Tryz.isAgg9
  z9 := Tryz.sizeOf9
  v9 := Tryz.zeroValue9
  t46 := Tryz.underlying110
  a46 := Tryz.isAgg110
  z46 := Tryz.sizeOf110
  v46 := Tryz.zeroValue110
  t51 := Tryz.underlying170
  a51 := Tryz.isAgg170
  z51 := Tryz.sizeOf170
  v51 := Tryz.zeroValue170
  t59 := Tryz.underlying126
  a59 := Tryz.isAgg126
  z59 := Tryz.sizeOf126
  v59 := Tryz.zeroValue126
  t146 := Tryz.underlying195
  a146 := Tryz.isAgg195
  z146 := Tryz.sizeOf195
  v146 := Tryz.zeroValue195
  g1 := by kernel_rfl }
open Go.RowKit Go.Lib in
theorem Tryz.strings_Cut (s sep : ByteArray) (m : Int) (w : World) (hs : s.size < 4294967281) (hm : w.cell? ⟨1, 0, none⟩ = some (.int .i64 m)) :
    Calls Tryz.prog 104 #[.string s, .string sep] w fun e w' => e = .returned (.tuple #[.string ⟨(Lib.cut s.data.toList sep.data.toList).1.toArray⟩, .string ⟨(Lib.cut s.data.toList sep.data.toList).2.1.toArray⟩, .bool (Lib.cut s.data.toList sep.data.toList).2.2]) ∧ ∃ n, w' = w.drewN n := Any.strings_Cut Tryz.lays145 s sep m w hs hm
def Tryz.lays190_ren : Go.Shelf.Ren := ⟨fun | 190 => 101 | 125 => 121 | 258 => 120 | 128 => 148 | 129 => 149 | 302 => 139 | 303 => 140 | 304 => 141 | 305 => 142 | 306 => 143 | 307 => 144 | 308 => 145 | 309 => 146 | 310 => 147 | 333 => 163 | 329 => 164 | 330 => 165 | 334 => 166 | 335 => 167 | 336 => 168 | 344 => 176 | n => n, fun | 31 => 119 | 9 => 9 | 3 => 3 | 46 => 110 | 0 => 0 | 51 => 170 | 53 => 172 | 4 => 4 | 183 => 163 | 182 => 162 | 131 => 167 | 5 => 5 | 218 => 181 | 222 => 185 | 228 => 193 | 229 => 79 | n => n, fun | n => n⟩
theorem Tryz.lays190 : Go.Proofs.Lays.n190 Tryz.prog Tryz.lays190_ren := {
  mixed := by kernel_rfl
  f125 := Tryz.func121.trans (congrArg some (by kernel_rfl))
  f128 := Tryz.func148.trans (congrArg some (by kernel_rfl))
  f129 := Tryz.func149.trans (congrArg some (by kernel_rfl))
  f190 := Tryz.func101.trans (congrArg some (by kernel_rfl))
  f258 := Tryz.func120.trans (congrArg some (by kernel_rfl))
  f302 := Tryz.func139.trans (congrArg some (by kernel_rfl))
  f303 := Tryz.func140.trans (congrArg some (by kernel_rfl))
  f304 := Tryz.func141.trans (congrArg some (by kernel_rfl))
  f305 := Tryz.func142.trans (congrArg some (by kernel_rfl))
  f306 := Tryz.func143.trans (congrArg some (by kernel_rfl))
  f307 := Tryz.func144.trans (congrArg some (by kernel_rfl))
  f308 := Tryz.func145.trans (congrArg some (by kernel_rfl))
  f309 := Tryz.func146.trans (congrArg some (by kernel_rfl))
  f310 := Tryz.func147.trans (congrArg some (by kernel_rfl))
  f329 := Tryz.func164.trans (congrArg some (by kernel_rfl))
  f330 := Tryz.func165.trans (congrArg some (by kernel_rfl))
  f333 := Tryz.func163.trans (congrArg some (by kernel_rfl))
  f334 := Tryz.func166.trans (congrArg some (by kernel_rfl))
  f335 := Tryz.func167.trans (congrArg some (by kernel_rfl))
  f336 := Tryz.func168.trans (congrArg some (by kernel_rfl))
  f344 := Tryz.func176.trans (congrArg some (by kernel_rfl))
  t0 := Tryz.underlying0
  a0 := Tryz.isAgg0
  z0 := Tryz.sizeOf0
  v0 := Tryz.zeroValue0
  t3 := Tryz.underlying3
  a3 := Tryz.isAgg3
  z3 := Tryz.sizeOf3
  v3 := Tryz.zeroValue3
  t4 := Tryz.underlying4
  a4 := Tryz.isAgg4
  z4 := Tryz.sizeOf4
  v4 := Tryz.zeroValue4
  t5 := Tryz.underlying5
  a5 := Tryz.isAgg5
  z5 := Tryz.sizeOf5
  v5 := Tryz.zeroValue5
  t9 := Tryz.underlying9
  a9 := Tryz.isAgg9
  z9 := Tryz.sizeOf9
  v9 := Tryz.zeroValue9
  t31 := Tryz.underlying119
  a31 := Tryz.isAgg119
  z31 := Tryz.sizeOf119
  v31 := Tryz.zeroValue119
  t46 := Tryz.underlying110
  a46 := Tryz.isAgg110
  z46 := Tryz.sizeOf110
  v46 := Tryz.zeroValue110
  t51 := Tryz.underlying170
  a51 := Tryz.isAgg170
  z51 := Tryz.sizeOf170
  v51 := Tryz.zeroValue170
  t53 := Tryz.underlying172
  a53 := Tryz.isAgg172
  z53 := Tryz.sizeOf172
  v53 := Tryz.zeroValue172
  t131 := Tryz.underlying167
  a131 := Tryz.isAgg167
  z131 := Tryz.sizeOf167
  v131 := Tryz.zeroValue167
  t182 := Tryz.underlying162
  a182 := Tryz.isAgg162
  z182 := Tryz.sizeOf162
  v182 := Tryz.zeroValue162
  t183 := Tryz.underlying163
  a183 := Tryz.isAgg163
  z183 := Tryz.sizeOf163
  v183 := Tryz.zeroValue163
  t218 := Tryz.underlying181
  a218 := Tryz.isAgg181
  z218 := Tryz.sizeOf181
  v218 := Tryz.zeroValue181
  t222 := Tryz.underlying185
  a222 := Tryz.isAgg185
  z222 := Tryz.sizeOf185
  v222 := Tryz.zeroValue185
  t228 := Tryz.underlying193
  a228 := Tryz.isAgg193
  z228 := Tryz.sizeOf193
  v228 := Tryz.zeroValue193
  t229 := Tryz.underlying79
  a229 := Tryz.isAgg79
  z229 := Tryz.sizeOf79
  v229 := Tryz.zeroValue79 }
open Go.Sort Go.RowKit in
theorem Tryz.slices_Sort_string (blk off cap : Nat) (ss : List (List UInt8)) (w : World) (hH : Holds encStr w blk off ss.toArray) (hblk : blk < w.heap.size) (hsz : ss.length < 4611686018427387904) :
    Calls Tryz.prog 101 #[.slice (some ⟨blk, off, none⟩) ss.length cap] w fun e w' =>
      e = .returned (.tuple #[]) ∧ ∃ n os, w' = grow (putRow encStr (Sort.ahead w n) blk off (ss.mergeSort fun x y => decide (x ≤ y)).toArray) os := Any.slices_Sort_string Tryz.lays190 blk off cap ss w hH hblk hsz
def Tryz.lays99_ren : Go.Shelf.Ren := ⟨fun | 99 => 55 | 206 => 82 | n => n, fun | 9 => 9 | 4 => 4 | 3 => 3 | n => n, fun | n => n⟩
theorem Tryz.lays99 : Go.Proofs.Lays.n99 Tryz.prog Tryz.lays99_ren := {
  mixed := by kernel_rfl
  f99 := Tryz.func55.trans (congrArg some (by kernel_rfl))
  f206 := Tryz.func82.trans (congrArg some (by kernel_rfl))
  t3 := Tryz.underlying3
  a3 := Tryz.isAgg3
  z3 := Tryz.sizeOf3
  v3 := Tryz.zeroValue3
  t4 := Tryz.underlying4
  a4 := Tryz.isAgg4
  z4 := Tryz.sizeOf4
  v4 := Tryz.zeroValue4
  t9 := Tryz.underlying9
  a9 := Tryz.isAgg9
  z9 := Tryz.sizeOf9
  v9 := Tryz.zeroValue9 }
open Go.RowKit Go.Lib in
theorem Tryz.strings_HasPrefix (s p : ByteArray) (w : World) :
    Calls Tryz.prog 55 #[.string s, .string p] w fun e w' => e = .returned (.bool (Lib.hasPrefix s.data.toList p.data.toList)) ∧ w' = w := Any.strings_HasPrefix Tryz.lays99 s p w
def Tryz.lays100_ren : Go.Shelf.Ren := ⟨fun | 100 => 125 | 207 => 155 | n => n, fun | 9 => 9 | 4 => 4 | 3 => 3 | n => n, fun | n => n⟩
theorem Tryz.lays100 : Go.Proofs.Lays.n100 Tryz.prog Tryz.lays100_ren := {
  mixed := by kernel_rfl
  f100 := Tryz.func125.trans (congrArg some (by kernel_rfl))
  f207 := Tryz.func155.trans (congrArg some (by kernel_rfl))
  t3 := Tryz.underlying3
  a3 := Tryz.isAgg3
  z3 := Tryz.sizeOf3
  v3 := Tryz.zeroValue3
  t4 := Tryz.underlying4
  a4 := Tryz.isAgg4
  z4 := Tryz.sizeOf4
  v4 := Tryz.zeroValue4
  t9 := Tryz.underlying9
  a9 := Tryz.isAgg9
  z9 := Tryz.sizeOf9
  v9 := Tryz.zeroValue9 }
open Go.RowKit Go.Lib in
theorem Tryz.strings_HasSuffix (s p : ByteArray) (w : World) (hs : s.size ≤ 9223372036854775807) :
    Calls Tryz.prog 125 #[.string s, .string p] w fun e w' => e = .returned (.bool (Lib.hasSuffix s.data.toList p.data.toList)) ∧ w' = w := Any.strings_HasSuffix Tryz.lays100 s p w hs
def Tryz.lays197_ren : Go.Shelf.Ren := ⟨fun | 197 => 133 | 260 => 159 | n => n, fun | 9 => 9 | 21 => 21 | 3 => 3 | 4 => 4 | 5 => 5 | 105 => 145 | 119 => 188 | 0 => 0 | 46 => 110 | 139 => 191 | 138 => 190 | n => n, fun | 3 => 2 | 4 => 3 | n => n⟩
theorem Tryz.lays197 : Go.Proofs.Lays.n197 Tryz.prog Tryz.lays197_ren := {
  mixed := by kernel_rfl
  f197 := Tryz.func133.trans (congrArg some (by kernel_rfl))
  f260 := Tryz.func159.trans (congrArg some (by kernel_rfl))
  t0 := Tryz.underlying0
  a0 := Tryz.isAgg0
  z0 := Tryz.sizeOf0
  v0 := Tryz.zeroValue0
  t3 := Tryz.underlying3
  a3 := Tryz.isAgg3
  z3 := Tryz.sizeOf3
  v3 := Tryz.zeroValue3
  t4 := Tryz.underlying4
  a4 := Tryz.isAgg4
  z4 := Tryz.sizeOf4
  v4 := Tryz.zeroValue4
  t5 := Tryz.underlying5
  a5 := Tryz.isAgg5
  z5 := Tryz.sizeOf5
  v5 := Tryz.zeroValue5
  t9 := Tryz.underlying9
  a9 := Tryz.isAgg9
  z9 := Tryz.sizeOf9
  v9 := Tryz.zeroValue9
  t21 := Tryz.underlying21
  a21 := Tryz.isAgg21
  z21 := Tryz.sizeOf21
  v21 := Tryz.zeroValue21
  t46 := Tryz.underlying110
  a46 := Tryz.isAgg110
  z46 := Tryz.sizeOf110
  v46 := Tryz.zeroValue110
  t105 := Tryz.underlying145
  a105 := Tryz.isAgg145
  z105 := Tryz.sizeOf145
  v105 := Tryz.zeroValue145
  t119 := Tryz.underlying188
  a119 := Tryz.isAgg188
  z119 := Tryz.sizeOf188
  t138 := Tryz.underlying190
  a138 := Tryz.isAgg190
  z138 := Tryz.sizeOf190
  v138 := Tryz.zeroValue190
  t139 := Tryz.underlying191
  a139 := Tryz.isAgg191
  z139 := Tryz.sizeOf191
  v139 := Tryz.zeroValue191
  g3 := by kernel_rfl
  g4 := by kernel_rfl }
open Go.RowKit Go.Lib in
theorem Tryz.utf8_DecodeRuneInString (s : ByteArray) (w : World) (hT : Lib.Utf8Tabs 2 3 w) :
    Calls Tryz.prog 133 #[.string s] w fun e w' => e = .returned (.tuple #[.int .i32 (Lib.decodeGo s).1, .int .i64 (Lib.decodeGo s).2]) ∧ Below w.heap.size w w' := Any.utf8_DecodeRuneInString Tryz.lays197 s w hT
def Tryz.lays194_ren : Go.Shelf.Ren := ⟨fun | 194 => 102 | n => n, fun | 31 => 119 | 9 => 9 | 3 => 3 | 4 => 4 | 0 => 0 | n => n, fun | n => n⟩
theorem Tryz.lays194 : Go.Proofs.Lays.n194 Tryz.prog Tryz.lays194_ren := {
  mixed := by kernel_rfl
  f194 := Tryz.func102.trans (congrArg some (by kernel_rfl))
  t0 := Tryz.underlying0
  a0 := Tryz.isAgg0
  z0 := Tryz.sizeOf0
  v0 := Tryz.zeroValue0
  t3 := Tryz.underlying3
  a3 := Tryz.isAgg3
  z3 := Tryz.sizeOf3
  v3 := Tryz.zeroValue3
  t4 := Tryz.underlying4
  a4 := Tryz.isAgg4
  z4 := Tryz.sizeOf4
  v4 := Tryz.zeroValue4
  t9 := Tryz.underlying9
  a9 := Tryz.isAgg9
  z9 := Tryz.sizeOf9
  v9 := Tryz.zeroValue9
  t31 := Tryz.underlying119
  a31 := Tryz.isAgg119
  z31 := Tryz.sizeOf119
  v31 := Tryz.zeroValue119 }
open Go.RowKit Go.Lib Go.Sort in
theorem Tryz.slices_Compact_string (blk off cap : Nat) (zs : List (List UInt8)) (w : World) (hH : Holds encStr w blk off zs.toArray) (hsz : zs.length ≤ 9223372036854775807) (hcap : zs.length ≤ cap) :
    Calls Tryz.prog 102 #[.slice (some ⟨blk, off, none⟩) zs.length cap] w fun e w' => e = .returned (.slice (some ⟨blk, off, none⟩) (Lib.compact zs).length cap) ∧ ∃ q, w' = putRow encStr (Sort.ahead w q) blk off (Lib.compact zs ++ List.replicate (zs.length - (Lib.compact zs).length) []).toArray := Any.slices_Compact_string Tryz.lays194 blk off cap zs w hH hsz hcap
open Go.RowKit Go.Lib Go.Sort in
theorem Tryz.slices_Compact_string_empty (a : Option Addr) (cap : Nat) (w : World) :
    Calls Tryz.prog 102 #[.slice a 0 cap] w fun e w' => e = .returned (.slice a 0 cap) ∧ w' = w := Any.slices_Compact_string_empty Tryz.lays194 a cap w
open Go.RowKit Go.Sort in
theorem Tryz.slices_Sort_string_none (p : Option Addr) (cap : Nat) (w : World) :
    Calls Tryz.prog 101 #[.slice p 0 cap] w fun e w' => e = .returned (.tuple #[]) ∧ w' = w := Any.slices_Sort_string_none Tryz.lays190 p cap w
end Go.Proofs

namespace Go.Proofs.YtbmmghkieolpkaaGreatDoor.Sg
open Go.ChangeShapes Go.WideShapes Go.ChangeAt Go.RowKit

theorem bN_extract (s : ByteArray) (i j : Nat) (hi : i ≤ s.size) : bN (s.extract i s.size) j = bN s (i + j) := by
  have e : (s.extract i s.size).data[j]! = s.data[i + j]! := by
    rw [ByteArray.data_extract, getElem!_def, getElem!_def, Array.getElem?_extract]
    have hz : s.data.size = s.size := rfl
    by_cases h : i + j < s.size
    · rw [if_pos (by omega)]
    · rw [if_neg (by omega), Array.getElem?_eq_none (by omega)]
  exact congrArg UInt8.toNat e

theorem size_extract (s : ByteArray) (i : Nat) : (s.extract i s.size).size = s.size - i := by simp [ByteArray.size_extract]

theorem decode_extract (s : ByteArray) (i : Nat) (hi : i ≤ s.size) : Utf8.decode (s.extract i s.size) 0 = Utf8.decode s i := by
  rw [Lib.decode_at, Lib.decode_at, size_extract]
  have h0 := bN_extract s i 0 hi
  have h1 := bN_extract s i 1 hi
  have h2 := bN_extract s i 2 hi
  have h3 := bN_extract s i 3 hi
  unfold bN at h0 h1 h2 h3
  simp only [Nat.add_zero] at h0
  rw [Nat.sub_zero, h0]
  simp only [Nat.zero_add]
  rw [h1, h2, h3]

theorem begR_extract (s : ByteArray) (i M : Nat) (hi : i < s.size) : ∀ (f k : Nat), begR (s.extract i s.size) 0 M f k = begR s i M f k
  | 0, k => rfl
  | f + 1, k => by
    have h0 := bN_extract s i 0 (by omega)
    have hk := bN_extract s i k (by omega)
    simp only [Nat.add_zero] at h0
    have e : (0 + k < (s.extract i s.size).size) = (i + k < s.size) := by rw [size_extract]; exact propext ⟨fun _ => by omega, fun _ => by omega⟩
    simp only [begR, Nat.zero_add, h0, hk, begR_extract s i M hi f (k + 1)]
    rw [Nat.zero_add] at e
    simp only [e]

set_option maxHeartbeats 1000000 in
theorem signLength_any (b : Nat) (w : World) (hb : b < 256) :
    Calls Tryz.prog 160 #[.int .u8 (b : Int)] w fun e w' => e = .returned (.int .i64 ((max 1 (manyN b) : Nat) : Int)) ∧ w' = w := by
  rcases many_cases b hb with ⟨h, hm⟩ | ⟨h, hm⟩ | ⟨h, h', hm⟩ | ⟨h, h', hm⟩ | ⟨h, h', hm⟩
  · rw [hm]
    have d1 : decide ((194 : Int) ≤ (b : Int)) = false := by simp; omega
    have d2 : decide ((224 : Int) ≤ (b : Int)) = false := by simp; omega
    have d3 : decide ((240 : Int) ≤ (b : Int)) = false := by simp; omega
    clear hm
    go_enter Tryz.func160, Tryz.ntmps160
    go_wp2
    go_ret
    exact ⟨rfl, rfl⟩
  · rw [hm]
    clear hm
    rcases h with h | h
    · have d1 : decide ((194 : Int) ≤ (b : Int)) = false := by simp; omega
      have d2 : decide ((224 : Int) ≤ (b : Int)) = false := by simp; omega
      have d3 : decide ((240 : Int) ≤ (b : Int)) = false := by simp; omega
      go_enter Tryz.func160, Tryz.ntmps160
      go_wp2
      go_ret
      exact ⟨rfl, rfl⟩
    · have d1 : decide ((194 : Int) ≤ (b : Int)) = true := by simp; omega
      have d2 : decide ((224 : Int) ≤ (b : Int)) = true := by simp; omega
      have d3 : decide ((240 : Int) ≤ (b : Int)) = true := by simp; omega
      go_enter Tryz.func160, Tryz.ntmps160
      go_wp2
      go_ret
      exact ⟨rfl, rfl⟩
  · rw [hm]
    clear hm
    have d1 : decide ((194 : Int) ≤ (b : Int)) = true := by simp; omega
    go_enter Tryz.func160, Tryz.ntmps160
    go_wp2
    go_ret
    exact ⟨rfl, rfl⟩
  · rw [hm]
    clear hm
    have d1 : decide ((194 : Int) ≤ (b : Int)) = true := by simp; omega
    have d2 : decide ((224 : Int) ≤ (b : Int)) = true := by simp; omega
    go_enter Tryz.func160, Tryz.ntmps160
    go_wp2
    go_ret
    exact ⟨rfl, rfl⟩
  · rw [hm]
    clear hm
    have d1 : decide ((194 : Int) ≤ (b : Int)) = true := by simp; omega
    have d2 : decide ((224 : Int) ≤ (b : Int)) = true := by simp; omega
    have d3 : decide ((240 : Int) ≤ (b : Int)) = true := by simp; omega
    go_enter Tryz.func160, Tryz.ntmps160
    go_wp2
    go_ret
    exact ⟨rfl, rfl⟩

set_option maxHeartbeats 1000000 in
theorem secondSpan_any (a : Nat) (w : World) :
    Calls Tryz.prog 161 #[.int .u8 (a : Int)] w fun e w' => e = .returned (.tuple #[.int .u8 (loN a : Int), .int .u8 (hiN a : Int)]) ∧ w' = w := by
  rcases span_cases a with ⟨rfl, h1, h2⟩ | ⟨rfl, h1, h2⟩ | ⟨rfl, h1, h2⟩ | ⟨rfl, h1, h2⟩ | ⟨g1, g2, g3, g4, h1, h2⟩
  all_goals
    rw [h1, h2]
    clear h1 h2
    go_enter Tryz.func161, Tryz.ntmps161
    go_wp2
    go_ret2
    exact ⟨rfl, rfl⟩

end Go.Proofs.YtbmmghkieolpkaaGreatDoor.Sg

namespace Go.Proofs.YtbmmghkieolpkaaGreatDoor.Sg
open Go.ChangeShapes Go.WideShapes Go.ChangeAt Go.RowKit

theorem begR_stop (s : ByteArray) (i M f k : Nat) (h : ¬ (k < M ∧ i + k < s.size ∧ fits (bN s i) k (bN s (i + k)) = true)) : begR s i M f k = k := by
  cases f with
  | zero => rfl
  | succ f => rw [begR, if_neg h]

set_option maxHeartbeats 4000000 in
theorem beginning_any (t : ByteArray) (w : World) (h0 : 0 < t.size) (hs : t.size ≤ 4611686018427387904) :
    Calls Tryz.prog 134 #[.string t] w fun e w' => e = .returned (.int .i64 ((begR t 0 (max 1 (manyN (bN t 0))) 3 1 : Nat) : Int)) ∧ w' = w := by
  have hb := bN_lt t 0
  have hbn := bN_eq t
  have hW1 : 1 ≤ max 1 (manyN (bN t 0)) := Nat.le_max_left _ _
  have hW4 : max 1 (manyN (bN t 0)) ≤ 4 := by
    rcases many_cases (bN t 0) hb with ⟨_, hm⟩ | ⟨_, hm⟩ | ⟨_, _, hm⟩ | ⟨_, _, hm⟩ | ⟨_, _, hm⟩ <;> rw [hm] <;> decide
  have hsl := fun (w : World) => signLength_any (bN t 0) w hb
  have hss := fun (w : World) => secondSpan_any (bN t 0) w
  have Hsl : Hid (∀ w, Calls Tryz.prog 160 #[.int .u8 (bN t 0 : Int)] w fun e w' => e = .returned (.int .i64 ((max 1 (manyN (bN t 0)) : Nat) : Int)) ∧ w' = w) := hsl
  have hlo : loN (bN t 0) < 256 := by unfold loN; split; omega; split <;> omega
  have hhi : hiN (bN t 0) < 256 := by unfold hiN; split; omega; split <;> omega
  have Hss : Hid (∀ w, Calls Tryz.prog 161 #[.int .u8 (bN t 0 : Int)] w fun e w' => e = .returned (.tuple #[.int .u8 (loN (bN t 0) : Int), .int .u8 (hiN (bN t 0) : Int)]) ∧ w' = w) := hss
  have Hf : Hid (∀ b, fits (bN t 0) 1 b = decide (loN (bN t 0) ≤ b ∧ b ≤ hiN (bN t 0))) := fun b => by simp [fits]
  clear hsl hss
  generalize max 1 (manyN (bN t 0)) = M at *
  generalize loN (bN t 0) = lo1 at *
  generalize hiN (bN t 0) = hi1 at *
  go_enter Tryz.func134, Tryz.ntmps134
  go_wp2_with fail
  refine (Hsl.out _).mono ?_
  rintro e w' ⟨rfl, rfl⟩
  go_wp2_with fail
  refine (Hss.out _).mono ?_
  rintro e w' ⟨rfl, rfl⟩
  go_wp2_with fail
  go_loop [4, 5, 6] (fun l h k => ∃ j lo hi : Nat, 1 ≤ j ∧ j ≤ M ∧ lo < 256 ∧ hi < 256 ∧ k = .int .i64 j ∧ l = .int .u8 lo ∧ h = .int .u8 hi ∧ Hid (∀ b, fits (bN t 0) j b = decide (lo ≤ b ∧ b ≤ hi)) ∧ Hid (begR t 0 M (4 - j) j = begR t 0 M 3 1)) (fun _ _ k => M - (intOf k).toNat)
  case atStart => exact ⟨1, lo1, hi1, Nat.le_refl _, hW1, hlo, hhi, rfl, rfl, rfl, Hf, rfl⟩
  case round =>
    obtain ⟨j, lo, hi, hj1, hjM, hl, hh, rfl, rfl, rfl, Hfit, Hg⟩ := hrel
    clear Hsl Hss Hf hlo hhi
    by_cases hc : j < M ∧ 0 + j < t.size ∧ fits (bN t 0) j (bN t (0 + j)) = true
    · have hg : begR t 0 M (4 - (j + 1)) (j + 1) = begR t 0 M 3 1 := by
        rw [← Hg.out, show 4 - j = (4 - (j + 1)) + 1 by omega]
        conv => rhs; rw [begR, if_pos hc]
      have Hg2 : Hid (begR t 0 M (4 - (j + 1)) (j + 1) = begR t 0 M 3 1) := hg
      obtain ⟨c1, c2, c3⟩ := hc
      rw [Nat.zero_add] at c2 c3
      rw [Hfit.out, decide_eq_true_eq] at c3
      have hbj := bN_lt t j
      obtain ⟨c3, c4⟩ := c3
      have c3' : (lo : Int) ≤ (bN t j : Int) := by omega
      have c4' : (bN t j : Int) ≤ (hi : Int) := by omega
      clear hg Hg Hfit
      go_wp2_with fail
      go_round
      case rel =>
        refine ⟨j + 1, 128, 191, by omega, by omega, by omega, by omega, by go_num, rfl, rfl, ?_, Hg2⟩
        intro b
        unfold fits
        rw [if_neg (by omega)]
      case measure => simp [intOf]; omega
    · have hg : begR t 0 M 3 1 = j := by
        rw [← Hg.out]
        exact begR_stop t 0 M _ j hc
      have Hr : Hid (begR t 0 M 3 1 = j) := hg
      clear hg Hg
      rw [Nat.zero_add] at hc
      by_cases c1 : j < M
      · by_cases c2 : j < t.size
        · have hbj := bN_lt t j
          have c3 : ¬ (lo ≤ bN t j ∧ bN t j ≤ hi) := fun x => hc ⟨c1, c2, by rw [Hfit.out, decide_eq_true_eq]; exact x⟩
          clear hc Hfit
          by_cases c4 : lo ≤ bN t j
          · have c4' : (lo : Int) ≤ (bN t j : Int) := by omega
            have c5 : ¬ ((bN t j : Int) ≤ (hi : Int)) := by omega
            have d5 : decide ((bN t j : Int) ≤ (hi : Int)) = false := by simpa using c5
            clear c3
            go_wp2_with fail
            go_ret
            rw [Hr.out]
            exact ⟨rfl, rfl⟩
          · have d4 : decide ((lo : Int) ≤ (bN t j : Int)) = false := by simp; omega
            clear c3
            go_wp2_with fail
            go_ret
            rw [Hr.out]
            exact ⟨rfl, rfl⟩
        · clear hc Hfit
          have d2 : decide ((j : Int) < (t.size : Int)) = false := by simp; omega
          go_wp2_with fail
          go_ret
          rw [Hr.out]
          exact ⟨rfl, rfl⟩
      · clear hc Hfit
        have d1 : decide ((j : Int) < (M : Int)) = false := by simp; omega
        go_wp2_with fail
        go_ret
        rw [Hr.out]
        exact ⟨rfl, rfl⟩

set_option maxHeartbeats 1000000 in
theorem implGet_out (s : ByteArray) (at' : Int) (w : World) (h : at' < 0 ∨ (s.size : Int) ≤ at') :
    Calls Tryz.prog 113 #[.string s, .int .i64 at'] w fun e w' => e = .returned (.tuple #[.int .i64 0, .int .i64 0]) ∧ w' = w := by
  by_cases h0 : at' < 0
  · clear h
    go_enter Tryz.func113, Tryz.ntmps113
    go_wp2_with fail
    go_ret2
    exact ⟨rfl, rfl⟩
  · have h1 : (s.size : Int) ≤ at' := by omega
    have hd : decide (at' < 0) = false := by simpa using h0
    clear h
    go_enter Tryz.func113, Tryz.ntmps113
    go_wp2_with fail
    go_ret2
    exact ⟨rfl, rfl⟩

set_option maxHeartbeats 2000000 in
theorem implGet_in (s : ByteArray) (i : Nat) (w : World) (hi : i < s.size) (hs : s.size ≤ 4611686018427387904) (hT : Lib.Utf8Tabs 2 3 w) :
    Calls Tryz.prog 113 #[.string s, .int .i64 (i : Int)] w fun e w' => e = .returned (.tuple #[.int .i64 ((getS s i).1 : Int), .int .i64 ((getS s i).2 : Int)]) ∧ Below w.heap.size w w' := by
  have hd : decide ((i : Int) < 0) = false := by simp
  have hd2 : decide ((s.size : Int) ≤ (i : Int)) = false := by simp; omega
  have hgo : Lib.decodeGo (s.extract i s.size) = Utf8.decode s i := by
    unfold Lib.decodeGo
    rw [if_neg (by rw [size_extract]; omega), decode_extract s i (by omega)]
  have hgs := getS_decode s i hi
  have hbx := begR_extract s i (max 1 (manyN (bN s i))) hi 3 1
  have hb0 := bN_extract s i 0 (by omega)
  rw [Nat.add_zero] at hb0
  have hr1 := decode_le s i
  have hbeg := fun (w : World) => beginning_any (s.extract i s.size) w (by rw [size_extract]; omega) (by rw [size_extract]; omega)
  rw [hb0, hbx] at hbeg
  have Hbeg : Hid (∀ w, Calls Tryz.prog 134 #[.string (s.extract i s.size)] w fun e w' => e = .returned (.int .i64 ((begR s i (max 1 (manyN (bN s i))) 3 1 : Nat) : Int)) ∧ w' = w) := hbeg
  clear hbeg hb0 hbx
  generalize hD : Utf8.decode s i = D at *
  obtain ⟨r, k⟩ := D
  have Hgo : Hid (Lib.decodeGo (s.extract i s.size) = (r, k)) := hgo
  have Hgs : Hid (getS s i = if (r, k) = (65533, 1) then (65533, begR s i (max 1 (manyN (bN s i))) 3 1) else (r, k)) := hgs
  clear hgo hgs hD
  have hr : (r : Int) ≤ 1114111 := by simp only at hr1; omega
  clear hr1
  have HT : Hid (Lib.Utf8Tabs 2 3 w) := hT
  clear hT
  go_enter Tryz.func113, Tryz.ntmps113
  go_wp2_with fail
  refine (Tryz.utf8_DecodeRuneInString (s.extract i s.size) _ HT.out).mono ?_
  rintro e w1 ⟨rfl, hb1⟩
  rw [Hgo.out]
  by_cases hr2 : r = 65533
  · by_cases hk2 : k = 1
    · have hres : getS s i = (65533, begR s i (max 1 (manyN (bN s i))) 3 1) := by rw [Hgs.out, if_pos (by rw [hr2, hk2])]
      have Hres : Hid (getS s i = (65533, begR s i (max 1 (manyN (bN s i))) 3 1)) := hres
      clear hres Hgs Hgo
      subst hr2 hk2
      go_wp2_with fail
      refine (Hbeg.out _).mono ?_
      rintro e w2 ⟨rfl, rfl⟩
      go_wp2_with fail
      go_ret2
      rw [Hres.out]
      exact ⟨rfl, hb1⟩
    · have hres : getS s i = (r, k) := by rw [Hgs.out, if_neg (by simp [hk2])]
      have Hres : Hid (getS s i = (r, k)) := hres
      clear hres Hgs Hgo
      subst hr2
      have e2 : ((k : Int) == 1) = false := by rw [beq_eq_false_iff_ne]; omega
      go_wp2_with fail
      go_ret2
      rw [Hres.out]
      exact ⟨rfl, hb1⟩
  · have hres : getS s i = (r, k) := by rw [Hgs.out, if_neg (by simp [hr2])]
    have Hres : Hid (getS s i = (r, k)) := hres
    clear hres Hgs Hgo
    have e2 : ((r : Int) == 65533) = false := by rw [beq_eq_false_iff_ne]; omega
    go_wp2_with fail
    go_ret2
    rw [Hres.out]
    exact ⟨rfl, hb1⟩

end Go.Proofs.YtbmmghkieolpkaaGreatDoor.Sg

namespace Go.Proofs.YtbmmghkieolpkaaGreatDoor.Sg
open Go.ChangeShapes Go.WideShapes Go.ChangeAt Go.RowKit



end Go.Proofs.YtbmmghkieolpkaaGreatDoor.Sg

namespace Go.Proofs.YtbmmghkieolpkaaGreatDoor.Sg
open Go.ChangeShapes Go.WideShapes Go.ChangeAt Go.RowKit

def intCells (zs : List Int) : List Value := zs.map (Value.int .i64)

/-- A slice of ints in memory of the call's own, from block B on. -/
def Owned (w : World) (B : Nat) (a : Option Addr) (cap : Nat) (zs : List Int) : Prop :=
  (a = none ∧ zs = [] ∧ cap = 0) ∨ ∃ g cur, a = some ⟨g, 0, none⟩ ∧ B ≤ g ∧ w.heap[g]? = some (.cells cur 3 (0, 0)) ∧ zs.length ≤ cap ∧ cur.size = cap ∧ cur.toList.take zs.length = intCells zs

theorem Owned.of_row {w : World} {B : Nat} {v : Value} {zs : List Int} (h : w.ownsRow B 3 1 v zs.length (intCells zs)) : ∃ a cap, v = .slice a zs.length cap ∧ Owned w B a cap zs := by
  obtain ⟨h1, h2⟩ := h
  rcases h2 with ⟨rfl, h2⟩ | ⟨g, cap, cur, rfl, h3, h4, h5, h6, h7, h8⟩
  · have : zs = [] := List.eq_nil_of_length_eq_zero h2
    subst this
    exact ⟨none, 0, rfl, .inl ⟨rfl, rfl, rfl⟩⟩
  · exact ⟨_, _, rfl, .inr ⟨g, cur, rfl, h3, h4, h5, by simpa using h7, by simpa using h8⟩⟩

theorem Owned.ints {w : World} {B : Nat} {a : Option Addr} {cap : Nat} {zs : List Int} (h : Owned w B a cap zs) : Ints w a zs := by
  rcases h with ⟨_, h, _⟩ | ⟨g, cur, ha, hB, hb, hl, hc, ht⟩
  · exact .inl h
  · refine .inr ⟨g, 0, ha, (Array.getElem?_eq_some_iff.1 hb).1, fun i hi => ?_⟩
    have h9 : (cur.toList.take zs.length)[i]? = (intCells zs)[i]? := by rw [ht]
    rw [List.getElem?_take_of_lt hi] at h9
    have hc : cur[i]? = some (.int .i64 (zs.getD i 0)) := by simpa [intCells, hi] using h9
    rw [Nat.zero_add]
    simp [World.cell?, hb, hc]

theorem Owned.below {w w' : World} {B : Nat} {a : Option Addr} {cap : Nat} {zs : List Int} (h : Owned w B a cap zs) {B' : Nat} (hB : w.heap.size ≤ B') (hb : Below B' w w') : Owned w' B a cap zs := by
  rcases h with h | ⟨g, cur, ha, hB, hg, h⟩
  · exact .inl h
  · have hlt : g < w.heap.size := (Array.getElem?_eq_some_iff.1 hg).1
    exact .inr ⟨g, cur, ha, hB, (hb.block g (by omega)).trans hg, h⟩

theorem own_grown1 {w w2 : World} {B : Nat} {e : TypeId} {v : Value} {n : Nat} {xs : List Value} {B0 : Nat} {w0 : World} (hown : w.ownsRow B e 1 v n xs) (hb : Below B0 w0 w) (hB : B0 ≤ B) (hg : w.grownBy w2 v.ownBlock) (hsz : B0 ≤ w.heap.size) : Below B0 w0 w2 :=
  hb.grown hg hsz (by
    intro r hr
    obtain ⟨_, h⟩ := hown
    rcases h with ⟨h, _⟩ | ⟨g, _, _, h, hg, _⟩
    · rw [h] at hr
      simp [Value.ownBlock] at hr
    · rw [h] at hr
      simp [Value.ownBlock] at hr
      omega)

theorem iter_kept {w w2 : World} {B k : Nat} {e : TypeId} {v : Value} {n : Nat} {xs : List Value} {o : Obj} (hown : w.ownsRow B e 1 v n xs) (hk : k < B) (hg : w.grownBy w2 v.ownBlock) (hit : w.heap[k]? = some o) : w2.heap[k]? = some o := by
  have hlt : k < w.heap.size := (Array.getElem?_eq_some_iff.1 hit).1
  refine (hg.block k hlt ?_).trans hit
  intro hr
  obtain ⟨_, h⟩ := hown
  rcases h with ⟨h, _⟩ | ⟨g, _, _, h, hg, _⟩
  · rw [h] at hr
    simp [Value.ownBlock] at hr
  · rw [h] at hr
    simp [Value.ownBlock] at hr
    omega

theorem one_cell (w : World) (z : Int) (t : TypeId) : ∀ j u, ([Value.int .i64 z])[j]? = some u → (w.alloc (.cells #[.int .i64 z] t)).cell? ((⟨w.heap.size, 0, none⟩ : Addr).add j) = some u := by
  intro j u hj
  match j, hj with
  | 0, hj => simp at hj; subst hj; simp [Addr.add]

theorem one_one (z : Int) : ∀ u ∈ [Value.int .i64 z], u.oneCell' = true := by
  intro u hu
  simp at hu
  subst hu
  rfl

set_option maxHeartbeats 1000000 in
theorem specSigns (s : ByteArray) (w : World) (hs : s.size ≤ 17592186044416) :
    Calls Tryz.prog 95 #[.string s] w fun e w' => ∃ a cap, e = .returned (.slice a (signsL s).length cap) ∧ Owned w' w.heap.size a cap (signsL s) ∧ Below w.heap.size w w' := by
  obtain ⟨i0, hi0, hz0, hz1, hz2⟩ := info_parts info_int
  have Hi : Hid (Tryz.prog.info? 3 = some i0) := hi0
  have Hz0 : Hid (i0.zero = some (.int .i64 0)) := hz0
  have Hz1 : Hid (i0.size = 1) := hz1
  have Hz2 : Hid (i0.bytes = 8) := hz2
  clear hi0 hz0 hz1 hz2
  go_enter Tryz.func95, Tryz.ntmps95
  go_wp2
  go_loopw [3, 4] (fun v i wr => ∃ (pos : Nat) (acc : List Int), pos ≤ s.size ∧ acc.length ≤ pos ∧ i = .int .i64 pos ∧ wr.ownsRow w.heap.size 3 1 v acc.length (intCells acc) ∧ Below w.heap.size w wr ∧ Hid (acc ++ signsAt s pos = signsL s)) (fun _ i _ => s.size - (intOf i).toNat)
  case atStart =>
    refine ⟨0, [], Nat.zero_le _, Nat.le_refl _, rfl, ⟨rfl, .inr ⟨w.heap.size, 0, #[], rfl, Nat.le_refl _, ?_, Nat.le_refl _, Nat.zero_le _, rfl, rfl⟩⟩, (Below.refl _ _).alloc (Nat.le_refl _) _, rfl⟩
    show (w.heap.push _)[w.heap.size]? = _
    simp
  case round =>
    obtain ⟨pos, acc, hpos, hal, rfl, hown, hbel, Hacc⟩ := hrel
    by_cases hlt : pos < s.size
    · have hgm := getS_many s pos hlt
      have hgl := getS_le s pos hlt
      have hst := signsAt_step s pos hlt
      go_wp2_with fail
      refine (specGet_in s pos _ hlt (by omega)).mono ?_
      rintro e w1 ⟨rfl, rfl⟩
      generalize hG : getS s pos = G at *
      clear hG
      obtain ⟨z, m⟩ := G
      simp only at hgm hgl hst
      have Hst : Hid (signsAt s pos = (z : Int) :: signsAt s (pos + m)) := hst
      clear hst
      go_wp2_with (at_builtin; refine wpList_append_own _ rfl (.tmp 18) (.tmp 20) 112 rfl w.heap.size 3 i0 (.int .i64 0) 1 8 Tryz.underlying112 Hi.out Hz0.out Hz1.out Hz2.out rfl (by decide) _ acc.length (intCells acc) rfl (hown.alloc _) ⟨_, 0, none⟩ 1 1 [.int .i64 (z : Int)] rfl rfl (one_cell _ _ _) (one_one _) ?c3 ?c4 ?c5 ?_)
      case c3 => unfold maxLen; omega
      case c4 => omega
      case c5 => have := hbel.size; first | omega | (simp; omega)
      intro v' w2 hown' hgrow _
      have hbel2 : Below w.heap.size w w2 := own_grown1 (hown.alloc _) (hbel.alloc hbel.size _) (Nat.le_refl _) hgrow (by have := hbel.size; simp; omega)
      have hown2 : w2.ownsRow w.heap.size 3 1 v' (acc ++ [(z : Int)]).length (intCells (acc ++ [(z : Int)])) := by
        rw [List.length_append]
        have e2 : intCells (acc ++ [(z : Int)]) = intCells acc ++ [.int .i64 (z : Int)] := by simp [intCells]
        rw [e2]
        exact hown'
      have Hacc2 : Hid ((acc ++ [(z : Int)]) ++ signsAt s (pos + m) = signsL s) := by
        show _ = _
        rw [← Hacc.out, Hst.out]
        simp
      clear hown' hgrow hown hbel Hst Hacc
      go_wp2
      go_roundw
      case rel => exact ⟨pos + m, acc ++ [(z : Int)], by omega, by simp; omega, by go_num, hown2, hbel2, Hacc2⟩
      case measure => simp [intOf]; omega
    · have hall : acc = signsL s := by
        rw [← Hacc.out, signsAt_end s pos hlt, List.append_nil]
      subst hall
      clear Hacc
      obtain ⟨a, cap, rfl, ho⟩ := Owned.of_row hown
      clear hown
      go_wp2
      go_ret
      exact ⟨a, cap, rfl, ho, hbel⟩

end Go.Proofs.YtbmmghkieolpkaaGreatDoor.Sg
