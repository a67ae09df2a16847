/- Plain functions: the signs of a text, one behind the other. No program in it. Contracts of the model's GetSign and of what it calls. The model's GetSign at every text and place. -/
import Derived.Test.YthikgkhnhbaccaaGreatDoorSgPlain
import Derived.Test.YthikgkhnhbaccaaGreatDoorSgOk
import Derived.Laws.Bits128
namespace Go.Proofs.YthikgkhnhbaccaaGreatDoor.Sg

/-- The signs from a place on, by at most so many. -/
def signsFrom (s : ByteArray) : Nat → Nat → List Int
  | 0, _ => []
  | f + 1, pos => if pos < s.size then ((getS s pos).1 : Int) :: signsFrom s f (pos + (getS s pos).2) else []

def signsL (s : ByteArray) : List Int := signsFrom s s.size 0

theorem signsFrom_end (s : ByteArray) (f pos : Nat) (h : ¬ pos < s.size) : signsFrom s f pos = [] := by
  cases f with
  | zero => rfl
  | succ f => rw [signsFrom, if_neg h]

/-- More fuel than there are bytes changes nothing. -/
theorem signsFrom_fuel (s : ByteArray) : ∀ (f g pos : Nat), s.size ≤ pos + f → s.size ≤ pos + g → signsFrom s f pos = signsFrom s g pos
  | 0, g, pos, h, _ => by
    rw [signsFrom_end s g pos (by omega), signsFrom_end s 0 pos (by omega)]
  | f + 1, 0, pos, _, h => by
    rw [signsFrom_end s 0 pos (by omega), signsFrom_end s (f + 1) pos (by omega)]
  | f + 1, g + 1, pos, h, h' => by
    by_cases hp : pos < s.size
    · have hm := getS_many s pos hp
      rw [signsFrom, signsFrom, if_pos hp, if_pos hp, signsFrom_fuel s f g _ (by omega) (by omega)]
    · rw [signsFrom_end s _ _ hp, signsFrom_end s _ _ hp]

/-- The signs from a place on. -/
def signsAt (s : ByteArray) (pos : Nat) : List Int := signsFrom s s.size pos

theorem signsAt_zero (s : ByteArray) : signsAt s 0 = signsL s := rfl
theorem signsAt_end (s : ByteArray) (pos : Nat) (h : ¬ pos < s.size) : signsAt s pos = [] := signsFrom_end s _ _ h
theorem signsAt_step (s : ByteArray) (pos : Nat) (h : pos < s.size) : signsAt s pos = ((getS s pos).1 : Int) :: signsAt s (pos + (getS s pos).2) := by
  have hm := getS_many s pos h
  unfold signsAt
  rw [signsFrom_fuel s s.size (s.size + 1) pos (by omega) (by omega)]
  conv => lhs; rw [signsFrom, if_pos h]

/-- No more signs than bytes. -/
theorem signsFrom_length (s : ByteArray) : ∀ (f pos : Nat), (signsFrom s f pos).length ≤ s.size - pos
  | 0, pos => by simp [signsFrom]
  | f + 1, pos => by
    by_cases hp : pos < s.size
    · have hm := getS_many s pos hp
      have ih := signsFrom_length s f (pos + (getS s pos).2)
      rw [signsFrom, if_pos hp, List.length_cons]
      omega
    · rw [signsFrom_end s _ _ hp]
      simp

theorem signsL_length (s : ByteArray) : (signsL s).length ≤ s.size := signsFrom_length s _ _

/-- What is read is a sign's number. -/
theorem getS_le (s : ByteArray) (i : Nat) (h : i < s.size) : (getS s i).1 ≤ 1114111 := by
  rw [getS_decode s i h]
  split
  · simp
  · exact decode_le s i

/-- Bytes within the beginning of a sign come behind another. -/
theorem begR_span (s : ByteArray) (i M : Nat) : ∀ (f k : Nat), 1 ≤ k → ∀ j, k ≤ j → j < begR s i M f k → i + j < s.size ∧ 128 ≤ bN s (i + j) ∧ bN s (i + j) ≤ 191
  | 0, k, _, j, h1, h2 => by
    simp only [begR] at h2
    omega
  | f + 1, k, hk, j, h1, h2 => by
    rw [begR] at h2
    split at h2
    · rename_i hc
      by_cases e : j = k
      · subst e
        refine ⟨hc.2.1, ?_⟩
        have hf := hc.2.2
        unfold fits at hf
        have l0 : 128 ≤ loN (bN s i) := by unfold loN; split; omega; split <;> omega
        have l1 : hiN (bN s i) ≤ 191 := by unfold hiN; split; omega; split <;> omega
        split at hf
        · rw [decide_eq_true_eq] at hf
          omega
        · rw [decide_eq_true_eq] at hf
          exact hf
      · exact begR_span s i M f (k + 1) (by omega) j (by omega) h2
    · omega

theorem begR_pos (s : ByteArray) (i M : Nat) : ∀ (f k : Nat), k ≤ begR s i M f k
  | 0, k => Nat.le_refl _
  | f + 1, k => by
    rw [begR]
    split
    · exact Nat.le_trans (Nat.le_succ k) (begR_pos s i M f (k + 1))
    · exact Nat.le_refl _

/-- Where such a byte stands Go's decoder takes it alone. -/
theorem decode_behind (s : ByteArray) (i : Nat) (h1 : 128 ≤ bN s i) (h2 : bN s i ≤ 191) : Utf8.decode s i = (65533, 1) := by
  rw [Lib.decode_at]
  unfold bN at h1 h2
  unfold Lib.decodeN
  rw [if_neg (by omega), if_neg (by omega), if_neg (by omega), if_neg (by omega)]

theorem decode_pos (s : ByteArray) (i : Nat) : 1 ≤ (Utf8.decode s i).2 := by
  rw [Lib.decode_at]
  unfold Lib.decodeN
  repeat' split
  all_goals simp

/-- Signs at a place where Go's decoder finds one. -/
theorem getS_good (s : ByteArray) (i : Nat) (h : i < s.size) (hd : (Utf8.decode s i).1 ≠ 65533) : getS s i = Utf8.decode s i := by
  rw [getS_decode s i h, if_neg (fun e => hd (by rw [e]))]

/-- Signs at a place where it tells 65533: that sign itself, or a beginning. -/
theorem getS_bad (s : ByteArray) (i : Nat) (h : i < s.size) (hd : (Utf8.decode s i).1 = 65533) :
    (getS s i).1 = 65533 ∧ (Utf8.decode s i).2 ≤ (getS s i).2 ∧ ∀ j, i + (Utf8.decode s i).2 ≤ j → j < i + (getS s i).2 → 128 ≤ bN s j ∧ bN s j ≤ 191 := by
  rw [getS_decode s i h]
  by_cases e : Utf8.decode s i = (65533, 1)
  · rw [if_pos e, e]
    refine ⟨rfl, begR_pos _ _ _ _ _, fun j h1 h2 => ?_⟩
    obtain ⟨t, rfl⟩ : ∃ t, j = i + t := ⟨j - i, by omega⟩
    exact (begR_span s i (max 1 (manyN (bN s i))) 3 1 (Nat.le_refl _) t (by simp only at h1; omega) (by simp only at h2; omega)).2
  · rw [if_neg e]
    exact ⟨hd, Nat.le_refl _, fun j h1 h2 => by omega⟩

end Go.Proofs.YthikgkhnhbaccaaGreatDoor.Sg

namespace Go.Proofs.YthikgkhnhbaccaaGreatDoor.Sg
open Go.ChangeShapes Go.WideShapes Go.ChangeAt Go.RowKit

set_option maxHeartbeats 1000000 in
theorem l1In_any (x lo hi : Int) (w : World) :
    Calls Tryz.prog 73 #[.int .i64 x, .int .i64 lo, .int .i64 hi] w fun e w' => e = .returned (.bool (inB x lo hi)) ∧ w' = w := by
  by_cases h1 : lo ≤ x
  · by_cases h2 : x ≤ hi
    · have ho : inB x lo hi = true := inB_yes ⟨h1, h2⟩
      rw [ho]
      go_enter Tryz.func73, Tryz.ntmps73
      go_wp2
      go_ret
      exact ⟨rfl, rfl⟩
    · have ho : inB x lo hi = false := inB_no (by omega)
      rw [ho]
      go_enter Tryz.func73, Tryz.ntmps73
      go_wp2
      go_ret
      exact ⟨rfl, rfl⟩
  · have ho : inB x lo hi = false := inB_no (by omega)
    rw [ho]
    have hd : decide (lo ≤ x) = false := by simpa using h1
    go_enter Tryz.func73, Tryz.ntmps73
    go_wp2
    go_ret
    exact ⟨rfl, rfl⟩

theorem ret_int {k : IntKind} {a b : Int} (h : a = b) : Ending.returned (.int k a) = .returned (.int k b) := by rw [h]

set_option maxHeartbeats 2000000 in
theorem l1Many_any (b : Nat) (w : World) (hb : b < 256) :
    Calls Tryz.prog 71 #[.int .i64 (b : Int)] w fun e w' => e = .returned (.int .i64 (manyN b : Int)) ∧ w' = w := by
  rcases many_cases b hb with ⟨h, hm⟩ | ⟨h, hm⟩ | ⟨h, h', hm⟩ | ⟨h, h', hm⟩ | ⟨h, h', hm⟩
  · rw [hm]
    clear hm
    have h0 : (b : Int) < 128 := by omega
    go_enter Tryz.func71, Tryz.ntmps71
    go_wp2_with fail
    go_ret
    exact ⟨rfl, rfl⟩
  · rw [hm]
    clear hm
    have i1 : inB (b : Int) 194 223 = false := inB_no (by omega)
    have i2 : inB (b : Int) 224 239 = false := inB_no (by omega)
    have i3 : inB (b : Int) 240 244 = false := inB_no (by omega)
    have h0 : ¬ ((b : Int) < 128) := by omega
    go_enter Tryz.func71, Tryz.ntmps71
    go_wp2_with (go_at_call 73; refine (l1In_any _ _ _ _).mono ?_; rintro e w' ⟨rfl, rfl⟩)
    go_ret
    exact ⟨rfl, rfl⟩
  · rw [hm]
    clear hm
    have i1 : inB (b : Int) 194 223 = true := inB_yes (by omega)
    have h0 : ¬ ((b : Int) < 128) := by omega
    go_enter Tryz.func71, Tryz.ntmps71
    go_wp2_with (go_at_call 73; refine (l1In_any _ _ _ _).mono ?_; rintro e w' ⟨rfl, rfl⟩)
    go_ret
    exact ⟨rfl, rfl⟩
  · rw [hm]
    clear hm
    have i1 : inB (b : Int) 194 223 = false := inB_no (by omega)
    have i2 : inB (b : Int) 224 239 = true := inB_yes (by omega)
    have h0 : ¬ ((b : Int) < 128) := by omega
    go_enter Tryz.func71, Tryz.ntmps71
    go_wp2_with (go_at_call 73; refine (l1In_any _ _ _ _).mono ?_; rintro e w' ⟨rfl, rfl⟩)
    go_ret
    exact ⟨rfl, rfl⟩
  · rw [hm]
    clear hm
    have i1 : inB (b : Int) 194 223 = false := inB_no (by omega)
    have i2 : inB (b : Int) 224 239 = false := inB_no (by omega)
    have i3 : inB (b : Int) 240 244 = true := inB_yes (by omega)
    have h0 : ¬ ((b : Int) < 128) := by omega
    go_enter Tryz.func71, Tryz.ntmps71
    go_wp2_with (go_at_call 73; refine (l1In_any _ _ _ _).mono ?_; rintro e w' ⟨rfl, rfl⟩)
    go_ret
    exact ⟨rfl, rfl⟩

theorem span_cases (a : Nat) : (a = 224 ∧ loN a = 160 ∧ hiN a = 191) ∨ (a = 237 ∧ loN a = 128 ∧ hiN a = 159) ∨ (a = 240 ∧ loN a = 144 ∧ hiN a = 191) ∨ (a = 244 ∧ loN a = 128 ∧ hiN a = 143) ∨
    (((a : Int) == 224) = false ∧ ((a : Int) == 237) = false ∧ ((a : Int) == 240) = false ∧ ((a : Int) == 244) = false ∧ loN a = 128 ∧ hiN a = 191) := by
  have e : ∀ k : Int, ((a : Int) == k) = false ↔ (a : Int) ≠ k := fun k => beq_eq_false_iff_ne
  simp only [e]
  unfold loN hiN
  repeat' split
  all_goals omega

set_option maxHeartbeats 2000000 in
theorem l1Second_any (a b : Nat) (w : World) :
    Calls Tryz.prog 72 #[.int .i64 (a : Int), .int .i64 (b : Int)] w fun e w' => e = .returned (.bool (fits a 1 b)) ∧ w' = w := by
  have hf : fits a 1 b = inB (b : Int) (loN a : Int) (hiN a : Int) := by
    unfold fits inB
    rw [if_pos rfl]
    exact decide_eq_decide.2 (by omega)
  rw [hf]
  clear hf
  rcases span_cases a with ⟨rfl, h1, h2⟩ | ⟨rfl, h1, h2⟩ | ⟨rfl, h1, h2⟩ | ⟨rfl, h1, h2⟩ | ⟨g1, g2, g3, g4, h1, h2⟩
  all_goals
    rw [h1, h2]
    clear h1 h2
    go_enter Tryz.func72, Tryz.ntmps72
    go_wp2_with (go_at_call 73; refine (l1In_any _ _ _ _).mono ?_; rintro e w' ⟨rfl, rfl⟩)
    go_ret
    exact ⟨rfl, rfl⟩

end Go.Proofs.YthikgkhnhbaccaaGreatDoor.Sg

namespace Go.Proofs.YthikgkhnhbaccaaGreatDoor.Sg
open Go.ChangeShapes Go.WideShapes Go.ChangeAt Go.RowKit

set_option maxHeartbeats 1000000 in
theorem specGet_out (s : ByteArray) (at' : Int) (w : World) (h : at' < 0 ∨ (s.size : Int) ≤ at') :
    Calls Tryz.prog 41 #[.string s, .int .i64 at'] w fun e w' => e = .returned (.tuple #[.int .i64 0, .int .i64 0]) ∧ w' = w := by
  by_cases h0 : at' < 0
  · clear h
    go_enter Tryz.func41, Tryz.ntmps41
    go_wp2_with fail
    go_ret2
    exact ⟨rfl, rfl⟩
  · have h1 : (s.size : Int) ≤ at' := by omega
    have hd : decide (at' < 0) = false := by simpa using h0
    clear h
    go_enter Tryz.func41, Tryz.ntmps41
    go_wp2_with fail
    go_ret2
    exact ⟨rfl, rfl⟩

theorem mask_many (b M : Nat) (h2 : 2 ≤ M) (h4 : M ≤ 4) : bits .and .i64 (b : Int) (127 / 2 ^ M) = ((b % (128 / 2 ^ M) : Nat) : Int) := by
  have h : M = 2 ∨ M = 3 ∨ M = 4 := by omega
  rcases h with rfl | rfl | rfl
  · exact (i64_low b 5 (by decide) 31 (by decide)).trans (by simp)
  · exact (i64_low b 4 (by decide) 15 (by decide)).trans (by simp)
  · exact (i64_low b 3 (by decide) 7 (by decide)).trans (by simp)

theorem i64_63 (n : Int) : bits .and .i64 n 63 = n % 64 := (i64_low n 6 (by decide) 63 (by decide)).trans (by simp)

theorem fits_in (b0 b : Nat) (h : fits b0 1 b = true) : inB (b : Int) 128 191 = true := by
  have h' : loN b0 ≤ b ∧ b ≤ hiN b0 := by simpa [fits] using h
  have h1 : 128 ≤ loN b0 := by unfold loN; split; omega; split <;> omega
  have h2 : hiN b0 ≤ 191 := by unfold hiN; split; omega; split <;> omega
  exact inB_yes (by omega)

theorem fits_more (b0 j b : Nat) (hj : j ≠ 1) : fits b0 j b = inB (b : Int) 128 191 := by
  unfold fits inB
  rw [if_neg hj]
  exact decide_eq_decide.2 (by omega)

/-- How great what was read so far can be. -/
def accOk (j acc : Nat) : Prop := (j = 1 ∧ acc < 128) ∨ (j = 2 ∧ acc < 8192) ∨ (j = 3 ∧ acc < 524288) ∨ (j = 4 ∧ acc < 33554432)

set_option maxHeartbeats 4000000 in
set_option maxRecDepth 100000 in
theorem specGet_in (s : ByteArray) (i : Nat) (w : World) (hi : i < s.size) (hs : s.size ≤ 4611686018427387904) :
    Calls Tryz.prog 41 #[.string s, .int .i64 (i : Int)] w fun e w' => e = .returned (.tuple #[.int .i64 ((getS s i).1 : Int), .int .i64 ((getS s i).2 : Int)]) ∧ w' = w := by
  have hd : decide ((i : Int) < 0) = false := by simp
  have hd2 : decide ((s.size : Int) ≤ (i : Int)) = false := by simp; omega
  have hb := bN_lt s i
  have hbn := bN_eq s
  generalize hM : manyN (bN s i) = M
  have HM : Hid (manyN (bN s i) = M) := hM
  clear hM
  go_enter Tryz.func41, Tryz.ntmps41
  go_wp2_with fail
  refine (l1Many_any (bN s i) _ hb).mono ?_
  rintro e w' ⟨rfl, rfl⟩
  rw [HM.out]
  rcases many_cases (bN s i) hb with ⟨h, hm⟩ | ⟨h, hm⟩ | h
  · have hM : M = 1 := HM.out.symm.trans hm
    subst hM
    have hg : getS s i = (bN s i, 1) := by unfold getS; rw [hm]; rfl
    have Hg : Hid (getS s i = (bN s i, 1)) := hg
    clear hg hm
    go_wp2_with fail
    go_ret2
    rw [Hg.out]
    exact ⟨rfl, rfl⟩
  · have hM : M = 0 := HM.out.symm.trans hm
    subst hM
    have hg : getS s i = (65533, 1) := by unfold getS; rw [hm]; rfl
    have Hg : Hid (getS s i = (65533, 1)) := hg
    clear hg hm h
    go_wp2_with fail
    go_ret2
    rw [Hg.out]
    exact ⟨rfl, rfl⟩
  · have hM2 : 2 ≤ M := by have := HM.out; omega
    have hM4 : M ≤ 4 := by have := HM.out; omega
    have hg0 : getR s i M (M - 1) 1 (bN s i % (128 / 2 ^ M)) = getS s i := by
      unfold getS
      rw [HM.out, if_neg (by omega)]
    have hacc0 : bN s i % (128 / 2 ^ M) < 128 := by
      have h3 : M = 2 ∨ M = 3 ∨ M = 4 := by omega
      rcases h3 with rfl | rfl | rfl <;> simp <;> omega
    have hmk := mask_many (bN s i) M hM2 hM4
    have a63 := i64_63
    have hM2' : ((M : Int) < 2) = False := by simp; omega
    generalize hA0 : bN s i % (128 / 2 ^ M) = acc0 at *
    clear hA0 h
    have Hg0 : Hid (getR s i M (M - 1) 1 acc0 = getS s i) := hg0
    clear hg0
    go_wp2_with fail
    go_loop [8, 9] (fun v k => ∃ j acc : Nat, 1 ≤ j ∧ j ≤ M ∧ k = .int .i64 j ∧ v = .int .i64 acc ∧ accOk j acc ∧ Hid (getR s i M (M - j) j acc = getS s i)) (fun _ k => M - (intOf k).toNat)
    case atStart => exact ⟨1, acc0, Nat.le_refl _, by omega, rfl, rfl, .inl ⟨rfl, hacc0⟩, Hg0⟩
    case round =>
      obtain ⟨j, acc, hj1, hjM, rfl, rfl, hacc, Hg⟩ := hrel
      clear hmk hM2' Hg0 hacc0
      have Hacc : Hid (accOk j acc) := hacc
      have hab : acc < 33554432 := by
        rcases hacc with h | h | h | h <;> omega
      clear hacc
      by_cases hlt : j < M
      · by_cases hin : i + j < s.size
        · have hin' : ((i : Int) + (j : Int)) < (s.size : Int) := by omega
          have hbj := bN_lt s (i + j)
          cases hf : fits (bN s i) j (bN s (i + j))
          · have hg : getS s i = (65533, j) := by
              rw [← Hg.out, show M - j = (M - j - 1) + 1 by omega]
              simp only [getR]
              rw [if_pos hlt, if_neg (by simp [hf])]
            have Hr : Hid (getS s i = (65533, j)) := hg
            have Hf : Hid (fits (bN s i) j (bN s (i + j)) = false) := hf
            clear hg hf
            by_cases hj : j = 1
            · subst hj
              go_wp2_with fail
              refine (l1Second_any (bN s i) (bN s (i + 1)) _).mono ?_
              rintro e w' ⟨rfl, rfl⟩
              rw [Hf.out]
              go_wp2_with fail
              go_ret2
              rw [Hr.out]
              exact ⟨rfl, rfl⟩
            · have hj1' : ((j : Int) == 1) = false := by rw [beq_eq_false_iff_ne]; omega
              have hfm := fits_more (bN s i) j (bN s (i + j)) hj
              have Hfm : Hid (inB (bN s (i + j) : Int) 128 191 = false) := hfm.symm.trans Hf.out
              clear hfm
              go_wp2_with fail
              refine (l1In_any (bN s (i + j) : Int) 128 191 _).mono ?_
              rintro e w' ⟨rfl, rfl⟩
              rw [Hfm.out]
              go_wp2_with fail
              go_ret2
              rw [Hr.out]
              exact ⟨rfl, rfl⟩
          · have hg : getR s i M (M - (j + 1)) (j + 1) (acc * 64 + bN s (i + j) % 64) = getS s i := by
              rw [← Hg.out, show M - j = (M - (j + 1)) + 1 by omega]
              simp only [getR]
              rw [if_pos hlt, if_pos ⟨hin, hf⟩]
            have Hr : Hid (getR s i M (M - (j + 1)) (j + 1) (acc * 64 + bN s (i + j) % 64) = getS s i) := hg
            have Hf : Hid (fits (bN s i) j (bN s (i + j)) = true) := hf
            clear hg hf Hg
            have Hacc2 : Hid (accOk (j + 1) (acc * 64 + bN s (i + j) % 64)) := by
              have := Hacc.out
              unfold accOk at *
              show _ ∨ _
              omega
            by_cases hj : j = 1
            · subst hj
              have Hfi := fits_in _ _ Hf.out
              have HFi : Hid (inB (bN s (i + 1) : Int) 128 191 = true) := Hfi
              clear Hfi
              go_wp2_with fail
              refine (l1Second_any (bN s i) (bN s (i + 1)) _).mono ?_
              rintro e w' ⟨rfl, rfl⟩
              rw [Hf.out]
              go_wp2_with fail
              refine (l1In_any (bN s (i + 1) : Int) 128 191 _).mono ?_
              rintro e w' ⟨rfl, rfl⟩
              rw [HFi.out]
              go_wp2_with fail
              go_round
              case rel => exact ⟨2, acc * 64 + bN s (i + 1) % 64, by omega, by omega, by go_num, by go_num, Hacc2.out, Hr⟩
              case measure => simp [intOf]; omega
            · have hj1' : ((j : Int) == 1) = false := by rw [beq_eq_false_iff_ne]; omega
              have hfm := fits_more (bN s i) j (bN s (i + j)) hj
              have Hfm : Hid (inB (bN s (i + j) : Int) 128 191 = true) := hfm.symm.trans Hf.out
              clear hfm
              go_wp2_with fail
              refine (l1In_any (bN s (i + j) : Int) 128 191 _).mono ?_
              rintro e w' ⟨rfl, rfl⟩
              rw [Hfm.out]
              go_wp2_with fail
              go_round
              case rel => exact ⟨j + 1, acc * 64 + bN s (i + j) % 64, by omega, by omega, by go_num, by go_num, Hacc2.out, Hr⟩
              case measure => simp [intOf]; omega
        · have hin' : decide ((s.size : Int) ≤ (i : Int) + (j : Int)) = true := by simp; omega
          have hg : getS s i = (65533, j) := by
            rw [← Hg.out, show M - j = (M - j - 1) + 1 by omega]
            simp only [getR]
            rw [if_pos hlt, if_neg (by omega)]
          have Hr : Hid (getS s i = (65533, j)) := hg
          clear hg
          go_wp2_with fail
          go_ret2
          rw [Hr.out]
          exact ⟨rfl, rfl⟩
      · have hg : getS s i = (acc, M) := by
          rw [← Hg.out, show M - j = 0 by omega]
          simp only [getR]
        have Hr : Hid (getS s i = (acc, M)) := hg
        clear hg
        go_wp2_with fail
        go_ret2
        rw [Hr.out]
        exact ⟨rfl, rfl⟩

end Go.Proofs.YthikgkhnhbaccaaGreatDoor.Sg
