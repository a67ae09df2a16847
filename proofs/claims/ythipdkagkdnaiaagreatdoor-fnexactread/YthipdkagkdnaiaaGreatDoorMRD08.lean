/- The program's GetSign at every text and place: it tells what the model's tells. The program's GetSign, whole. Contracts of the helpers on slices of ints that the laws use: a copy, and whether two hold the same. Contracts of Signs, of the program and of the model: both give the signs of a text in memory of their own. The program's Signs gives the signs of a text in memory of its own. A builder of text that a call itself has made: what its two inner methods do at this dump. The program's SignText gives the bytes of the signs, one behind the other. Contracts of Clean and CleanOk, of the program and of the model. Signs that are written are read as they were: plain, no program in it. -/
import Derived.Test.YthipdkagkdnaiaaGreatDoorMRD06
import Derived.Test.YthipdkagkdnaiaaGreatDoorShelf
import Derived.Below
import Derived.Test.YthipdkagkdnaiaaGreatDoorSgGetS
import Derived.Lib.OthersKept
import Derived.Laws.AppendOwn
import Derived.WalkSmall
import Derived.Test.YthipdkagkdnaiaaGreatDoorSgOk
import Derived.Shelf.Strings.BuilderK
import Derived.OwnWalk
namespace Go.Proofs.YthipdkagkdnaiaaGreatDoor.Sg
open Go.ChangeShapes Go.WideShapes Go.ChangeAt Go.RowKit

theorem bN_extract (s : ByteArray) (i j : Nat) (hi : i ≤ s.size) : bN (s.extract i s.size) j = bN s (i + j) := by
  have e : (s.extract i s.size).data[j]! = s.data[i + j]! := by
    rw [ByteArray.data_extract, getElem!_def, getElem!_def, Array.getElem?_extract]
    have hz : s.data.size = s.size := rfl
    by_cases h : i + j < s.size
    · rw [if_pos (by omega)]
    · rw [if_neg (by omega), Array.getElem?_eq_none (by omega)]
  exact congrArg UInt8.toNat e

theorem size_extract (s : ByteArray) (i : Nat) : (s.extract i s.size).size = s.size - i := by simp [ByteArray.size_extract]

theorem decode_extract (s : ByteArray) (i : Nat) (hi : i ≤ s.size) : Utf8.decode (s.extract i s.size) 0 = Utf8.decode s i := by
  rw [Lib.decode_at, Lib.decode_at, size_extract]
  have h0 := bN_extract s i 0 hi
  have h1 := bN_extract s i 1 hi
  have h2 := bN_extract s i 2 hi
  have h3 := bN_extract s i 3 hi
  unfold bN at h0 h1 h2 h3
  simp only [Nat.add_zero] at h0
  rw [Nat.sub_zero, h0]
  simp only [Nat.zero_add]
  rw [h1, h2, h3]

theorem begR_extract (s : ByteArray) (i M : Nat) (hi : i < s.size) : ∀ (f k : Nat), begR (s.extract i s.size) 0 M f k = begR s i M f k
  | 0, k => rfl
  | f + 1, k => by
    have h0 := bN_extract s i 0 (by omega)
    have hk := bN_extract s i k (by omega)
    simp only [Nat.add_zero] at h0
    have e : (0 + k < (s.extract i s.size).size) = (i + k < s.size) := by rw [size_extract]; exact propext ⟨fun _ => by omega, fun _ => by omega⟩
    simp only [begR, Nat.zero_add, h0, hk, begR_extract s i M hi f (k + 1)]
    rw [Nat.zero_add] at e
    simp only [e]

set_option maxHeartbeats 1000000 in
theorem signLength_any (b : Nat) (w : World) (hb : b < 256) :
    Calls Tryz.prog 160 #[.int .u8 (b : Int)] w fun e w' => e = .returned (.int .i64 ((max 1 (manyN b) : Nat) : Int)) ∧ w' = w := by
  rcases many_cases b hb with ⟨h, hm⟩ | ⟨h, hm⟩ | ⟨h, h', hm⟩ | ⟨h, h', hm⟩ | ⟨h, h', hm⟩
  · rw [hm]
    have d1 : decide ((194 : Int) ≤ (b : Int)) = false := by simp; omega
    have d2 : decide ((224 : Int) ≤ (b : Int)) = false := by simp; omega
    have d3 : decide ((240 : Int) ≤ (b : Int)) = false := by simp; omega
    clear hm
    go_enter Tryz.func160, Tryz.ntmps160
    go_wp2
    go_ret
    exact ⟨rfl, rfl⟩
  · rw [hm]
    clear hm
    rcases h with h | h
    · have d1 : decide ((194 : Int) ≤ (b : Int)) = false := by simp; omega
      have d2 : decide ((224 : Int) ≤ (b : Int)) = false := by simp; omega
      have d3 : decide ((240 : Int) ≤ (b : Int)) = false := by simp; omega
      go_enter Tryz.func160, Tryz.ntmps160
      go_wp2
      go_ret
      exact ⟨rfl, rfl⟩
    · have d1 : decide ((194 : Int) ≤ (b : Int)) = true := by simp; omega
      have d2 : decide ((224 : Int) ≤ (b : Int)) = true := by simp; omega
      have d3 : decide ((240 : Int) ≤ (b : Int)) = true := by simp; omega
      go_enter Tryz.func160, Tryz.ntmps160
      go_wp2
      go_ret
      exact ⟨rfl, rfl⟩
  · rw [hm]
    clear hm
    have d1 : decide ((194 : Int) ≤ (b : Int)) = true := by simp; omega
    go_enter Tryz.func160, Tryz.ntmps160
    go_wp2
    go_ret
    exact ⟨rfl, rfl⟩
  · rw [hm]
    clear hm
    have d1 : decide ((194 : Int) ≤ (b : Int)) = true := by simp; omega
    have d2 : decide ((224 : Int) ≤ (b : Int)) = true := by simp; omega
    go_enter Tryz.func160, Tryz.ntmps160
    go_wp2
    go_ret
    exact ⟨rfl, rfl⟩
  · rw [hm]
    clear hm
    have d1 : decide ((194 : Int) ≤ (b : Int)) = true := by simp; omega
    have d2 : decide ((224 : Int) ≤ (b : Int)) = true := by simp; omega
    have d3 : decide ((240 : Int) ≤ (b : Int)) = true := by simp; omega
    go_enter Tryz.func160, Tryz.ntmps160
    go_wp2
    go_ret
    exact ⟨rfl, rfl⟩

set_option maxHeartbeats 1000000 in
theorem secondSpan_any (a : Nat) (w : World) :
    Calls Tryz.prog 161 #[.int .u8 (a : Int)] w fun e w' => e = .returned (.tuple #[.int .u8 (loN a : Int), .int .u8 (hiN a : Int)]) ∧ w' = w := by
  rcases span_cases a with ⟨rfl, h1, h2⟩ | ⟨rfl, h1, h2⟩ | ⟨rfl, h1, h2⟩ | ⟨rfl, h1, h2⟩ | ⟨g1, g2, g3, g4, h1, h2⟩
  all_goals
    rw [h1, h2]
    clear h1 h2
    go_enter Tryz.func161, Tryz.ntmps161
    go_wp2
    go_ret2
    exact ⟨rfl, rfl⟩

end Go.Proofs.YthipdkagkdnaiaaGreatDoor.Sg

namespace Go.Proofs.YthipdkagkdnaiaaGreatDoor.Sg
open Go.ChangeShapes Go.WideShapes Go.ChangeAt Go.RowKit

theorem begR_stop (s : ByteArray) (i M f k : Nat) (h : ¬ (k < M ∧ i + k < s.size ∧ fits (bN s i) k (bN s (i + k)) = true)) : begR s i M f k = k := by
  cases f with
  | zero => rfl
  | succ f => rw [begR, if_neg h]

set_option maxHeartbeats 4000000 in
theorem beginning_any (t : ByteArray) (w : World) (h0 : 0 < t.size) (hs : t.size ≤ 4611686018427387904) :
    Calls Tryz.prog 134 #[.string t] w fun e w' => e = .returned (.int .i64 ((begR t 0 (max 1 (manyN (bN t 0))) 3 1 : Nat) : Int)) ∧ w' = w := by
  have hb := bN_lt t 0
  have hbn := bN_eq t
  have hW1 : 1 ≤ max 1 (manyN (bN t 0)) := Nat.le_max_left _ _
  have hW4 : max 1 (manyN (bN t 0)) ≤ 4 := by
    rcases many_cases (bN t 0) hb with ⟨_, hm⟩ | ⟨_, hm⟩ | ⟨_, _, hm⟩ | ⟨_, _, hm⟩ | ⟨_, _, hm⟩ <;> rw [hm] <;> decide
  have hsl := fun (w : World) => signLength_any (bN t 0) w hb
  have hss := fun (w : World) => secondSpan_any (bN t 0) w
  have Hsl : Hid (∀ w, Calls Tryz.prog 160 #[.int .u8 (bN t 0 : Int)] w fun e w' => e = .returned (.int .i64 ((max 1 (manyN (bN t 0)) : Nat) : Int)) ∧ w' = w) := hsl
  have hlo : loN (bN t 0) < 256 := by unfold loN; split; omega; split <;> omega
  have hhi : hiN (bN t 0) < 256 := by unfold hiN; split; omega; split <;> omega
  have Hss : Hid (∀ w, Calls Tryz.prog 161 #[.int .u8 (bN t 0 : Int)] w fun e w' => e = .returned (.tuple #[.int .u8 (loN (bN t 0) : Int), .int .u8 (hiN (bN t 0) : Int)]) ∧ w' = w) := hss
  have Hf : Hid (∀ b, fits (bN t 0) 1 b = decide (loN (bN t 0) ≤ b ∧ b ≤ hiN (bN t 0))) := fun b => by simp [fits]
  clear hsl hss
  generalize max 1 (manyN (bN t 0)) = M at *
  generalize loN (bN t 0) = lo1 at *
  generalize hiN (bN t 0) = hi1 at *
  go_enter Tryz.func134, Tryz.ntmps134
  go_wp2_with fail
  refine (Hsl.out _).mono ?_
  rintro e w' ⟨rfl, rfl⟩
  go_wp2_with fail
  refine (Hss.out _).mono ?_
  rintro e w' ⟨rfl, rfl⟩
  go_wp2_with fail
  go_loop [4, 5, 6] (fun l h k => ∃ j lo hi : Nat, 1 ≤ j ∧ j ≤ M ∧ lo < 256 ∧ hi < 256 ∧ k = .int .i64 j ∧ l = .int .u8 lo ∧ h = .int .u8 hi ∧ Hid (∀ b, fits (bN t 0) j b = decide (lo ≤ b ∧ b ≤ hi)) ∧ Hid (begR t 0 M (4 - j) j = begR t 0 M 3 1)) (fun _ _ k => M - (intOf k).toNat)
  case atStart => exact ⟨1, lo1, hi1, Nat.le_refl _, hW1, hlo, hhi, rfl, rfl, rfl, Hf, rfl⟩
  case round =>
    obtain ⟨j, lo, hi, hj1, hjM, hl, hh, rfl, rfl, rfl, Hfit, Hg⟩ := hrel
    clear Hsl Hss Hf hlo hhi
    by_cases hc : j < M ∧ 0 + j < t.size ∧ fits (bN t 0) j (bN t (0 + j)) = true
    · have hg : begR t 0 M (4 - (j + 1)) (j + 1) = begR t 0 M 3 1 := by
        rw [← Hg.out, show 4 - j = (4 - (j + 1)) + 1 by omega]
        conv => rhs; rw [begR, if_pos hc]
      have Hg2 : Hid (begR t 0 M (4 - (j + 1)) (j + 1) = begR t 0 M 3 1) := hg
      obtain ⟨c1, c2, c3⟩ := hc
      rw [Nat.zero_add] at c2 c3
      rw [Hfit.out, decide_eq_true_eq] at c3
      have hbj := bN_lt t j
      obtain ⟨c3, c4⟩ := c3
      have c3' : (lo : Int) ≤ (bN t j : Int) := by omega
      have c4' : (bN t j : Int) ≤ (hi : Int) := by omega
      clear hg Hg Hfit
      go_wp2_with fail
      go_round
      case rel =>
        refine ⟨j + 1, 128, 191, by omega, by omega, by omega, by omega, by go_num, rfl, rfl, ?_, Hg2⟩
        intro b
        unfold fits
        rw [if_neg (by omega)]
      case measure => simp [intOf]; omega
    · have hg : begR t 0 M 3 1 = j := by
        rw [← Hg.out]
        exact begR_stop t 0 M _ j hc
      have Hr : Hid (begR t 0 M 3 1 = j) := hg
      clear hg Hg
      rw [Nat.zero_add] at hc
      by_cases c1 : j < M
      · by_cases c2 : j < t.size
        · have hbj := bN_lt t j
          have c3 : ¬ (lo ≤ bN t j ∧ bN t j ≤ hi) := fun x => hc ⟨c1, c2, by rw [Hfit.out, decide_eq_true_eq]; exact x⟩
          clear hc Hfit
          by_cases c4 : lo ≤ bN t j
          · have c4' : (lo : Int) ≤ (bN t j : Int) := by omega
            have c5 : ¬ ((bN t j : Int) ≤ (hi : Int)) := by omega
            have d5 : decide ((bN t j : Int) ≤ (hi : Int)) = false := by simpa using c5
            clear c3
            go_wp2_with fail
            go_ret
            rw [Hr.out]
            exact ⟨rfl, rfl⟩
          · have d4 : decide ((lo : Int) ≤ (bN t j : Int)) = false := by simp; omega
            clear c3
            go_wp2_with fail
            go_ret
            rw [Hr.out]
            exact ⟨rfl, rfl⟩
        · clear hc Hfit
          have d2 : decide ((j : Int) < (t.size : Int)) = false := by simp; omega
          go_wp2_with fail
          go_ret
          rw [Hr.out]
          exact ⟨rfl, rfl⟩
      · clear hc Hfit
        have d1 : decide ((j : Int) < (M : Int)) = false := by simp; omega
        go_wp2_with fail
        go_ret
        rw [Hr.out]
        exact ⟨rfl, rfl⟩

set_option maxHeartbeats 1000000 in
theorem implGet_out (s : ByteArray) (at' : Int) (w : World) (h : at' < 0 ∨ (s.size : Int) ≤ at') :
    Calls Tryz.prog 113 #[.string s, .int .i64 at'] w fun e w' => e = .returned (.tuple #[.int .i64 0, .int .i64 0]) ∧ w' = w := by
  by_cases h0 : at' < 0
  · clear h
    go_enter Tryz.func113, Tryz.ntmps113
    go_wp2_with fail
    go_ret2
    exact ⟨rfl, rfl⟩
  · have h1 : (s.size : Int) ≤ at' := by omega
    have hd : decide (at' < 0) = false := by simpa using h0
    clear h
    go_enter Tryz.func113, Tryz.ntmps113
    go_wp2_with fail
    go_ret2
    exact ⟨rfl, rfl⟩

set_option maxHeartbeats 2000000 in
theorem implGet_in (s : ByteArray) (i : Nat) (w : World) (hi : i < s.size) (hs : s.size ≤ 4611686018427387904) (hT : Lib.Utf8Tabs 2 3 w) :
    Calls Tryz.prog 113 #[.string s, .int .i64 (i : Int)] w fun e w' => e = .returned (.tuple #[.int .i64 ((getS s i).1 : Int), .int .i64 ((getS s i).2 : Int)]) ∧ Below w.heap.size w w' := by
  have hd : decide ((i : Int) < 0) = false := by simp
  have hd2 : decide ((s.size : Int) ≤ (i : Int)) = false := by simp; omega
  have hgo : Lib.decodeGo (s.extract i s.size) = Utf8.decode s i := by
    unfold Lib.decodeGo
    rw [if_neg (by rw [size_extract]; omega), decode_extract s i (by omega)]
  have hgs := getS_decode s i hi
  have hbx := begR_extract s i (max 1 (manyN (bN s i))) hi 3 1
  have hb0 := bN_extract s i 0 (by omega)
  rw [Nat.add_zero] at hb0
  have hr1 := decode_le s i
  have hbeg := fun (w : World) => beginning_any (s.extract i s.size) w (by rw [size_extract]; omega) (by rw [size_extract]; omega)
  rw [hb0, hbx] at hbeg
  have Hbeg : Hid (∀ w, Calls Tryz.prog 134 #[.string (s.extract i s.size)] w fun e w' => e = .returned (.int .i64 ((begR s i (max 1 (manyN (bN s i))) 3 1 : Nat) : Int)) ∧ w' = w) := hbeg
  clear hbeg hb0 hbx
  generalize hD : Utf8.decode s i = D at *
  obtain ⟨r, k⟩ := D
  have Hgo : Hid (Lib.decodeGo (s.extract i s.size) = (r, k)) := hgo
  have Hgs : Hid (getS s i = if (r, k) = (65533, 1) then (65533, begR s i (max 1 (manyN (bN s i))) 3 1) else (r, k)) := hgs
  clear hgo hgs hD
  have hr : (r : Int) ≤ 1114111 := by simp only at hr1; omega
  clear hr1
  have HT : Hid (Lib.Utf8Tabs 2 3 w) := hT
  clear hT
  go_enter Tryz.func113, Tryz.ntmps113
  go_wp2_with fail
  refine (Tryz.utf8_DecodeRuneInString (s.extract i s.size) _ HT.out).mono ?_
  rintro e w1 ⟨rfl, hb1⟩
  rw [Hgo.out]
  by_cases hr2 : r = 65533
  · by_cases hk2 : k = 1
    · have hres : getS s i = (65533, begR s i (max 1 (manyN (bN s i))) 3 1) := by rw [Hgs.out, if_pos (by rw [hr2, hk2])]
      have Hres : Hid (getS s i = (65533, begR s i (max 1 (manyN (bN s i))) 3 1)) := hres
      clear hres Hgs Hgo
      subst hr2 hk2
      go_wp2_with fail
      refine (Hbeg.out _).mono ?_
      rintro e w2 ⟨rfl, rfl⟩
      go_wp2_with fail
      go_ret2
      rw [Hres.out]
      exact ⟨rfl, hb1⟩
    · have hres : getS s i = (r, k) := by rw [Hgs.out, if_neg (by simp [hk2])]
      have Hres : Hid (getS s i = (r, k)) := hres
      clear hres Hgs Hgo
      subst hr2
      have e2 : ((k : Int) == 1) = false := by rw [beq_eq_false_iff_ne]; omega
      go_wp2_with fail
      go_ret2
      rw [Hres.out]
      exact ⟨rfl, hb1⟩
  · have hres : getS s i = (r, k) := by rw [Hgs.out, if_neg (by simp [hr2])]
    have Hres : Hid (getS s i = (r, k)) := hres
    clear hres Hgs Hgo
    have e2 : ((r : Int) == 65533) = false := by rw [beq_eq_false_iff_ne]; omega
    go_wp2_with fail
    go_ret2
    rw [Hres.out]
    exact ⟨rfl, hb1⟩

end Go.Proofs.YthipdkagkdnaiaaGreatDoor.Sg

namespace Go.Proofs.YthipdkagkdnaiaaGreatDoor.Sg
open Go.ChangeShapes Go.WideShapes Go.ChangeAt Go.RowKit

end Go.Proofs.YthipdkagkdnaiaaGreatDoor.Sg

namespace Go.Proofs.YthipdkagkdnaiaaGreatDoor.Sg
open Go.ChangeShapes Go.WideShapes Go.ChangeAt Go.RowKit

def intCells (zs : List Int) : List Value := zs.map (Value.int .i64)

/-- A slice of ints in memory of the call's own, from block B on. -/
def Owned (w : World) (B : Nat) (a : Option Addr) (cap : Nat) (zs : List Int) : Prop :=
  (a = none ∧ zs = [] ∧ cap = 0) ∨ ∃ g cur, a = some ⟨g, 0, none⟩ ∧ B ≤ g ∧ w.heap[g]? = some (.cells cur 3 (0, 0)) ∧ zs.length ≤ cap ∧ cur.size = cap ∧ cur.toList.take zs.length = intCells zs

theorem Owned.of_row {w : World} {B : Nat} {v : Value} {zs : List Int} (h : w.ownsRow B 3 1 v zs.length (intCells zs)) : ∃ a cap, v = .slice a zs.length cap ∧ Owned w B a cap zs := by
  obtain ⟨h1, h2⟩ := h
  rcases h2 with ⟨rfl, h2⟩ | ⟨g, cap, cur, rfl, h3, h4, h5, h6, h7, h8⟩
  · have : zs = [] := List.eq_nil_of_length_eq_zero h2
    subst this
    exact ⟨none, 0, rfl, .inl ⟨rfl, rfl, rfl⟩⟩
  · exact ⟨_, _, rfl, .inr ⟨g, cur, rfl, h3, h4, h5, by simpa using h7, by simpa using h8⟩⟩

theorem Owned.ints {w : World} {B : Nat} {a : Option Addr} {cap : Nat} {zs : List Int} (h : Owned w B a cap zs) : Ints w a zs := by
  rcases h with ⟨_, h, _⟩ | ⟨g, cur, ha, hB, hb, hl, hc, ht⟩
  · exact .inl h
  · refine .inr ⟨g, 0, ha, (Array.getElem?_eq_some_iff.1 hb).1, fun i hi => ?_⟩
    have h9 : (cur.toList.take zs.length)[i]? = (intCells zs)[i]? := by rw [ht]
    rw [List.getElem?_take_of_lt hi] at h9
    have hc : cur[i]? = some (.int .i64 (zs.getD i 0)) := by simpa [intCells, hi] using h9
    rw [Nat.zero_add]
    simp [World.cell?, hb, hc]

theorem own_grown1 {w w2 : World} {B : Nat} {e : TypeId} {v : Value} {n : Nat} {xs : List Value} {B0 : Nat} {w0 : World} (hown : w.ownsRow B e 1 v n xs) (hb : Below B0 w0 w) (hB : B0 ≤ B) (hg : w.grownBy w2 v.ownBlock) (hsz : B0 ≤ w.heap.size) : Below B0 w0 w2 :=
  hb.grown hg hsz (by
    intro r hr
    obtain ⟨_, h⟩ := hown
    rcases h with ⟨h, _⟩ | ⟨g, _, _, h, hg, _⟩
    · rw [h] at hr
      simp [Value.ownBlock] at hr
    · rw [h] at hr
      simp [Value.ownBlock] at hr
      omega)

theorem iter_kept {w w2 : World} {B k : Nat} {e : TypeId} {v : Value} {n : Nat} {xs : List Value} {o : Obj} (hown : w.ownsRow B e 1 v n xs) (hk : k < B) (hg : w.grownBy w2 v.ownBlock) (hit : w.heap[k]? = some o) : w2.heap[k]? = some o := by
  have hlt : k < w.heap.size := (Array.getElem?_eq_some_iff.1 hit).1
  refine (hg.block k hlt ?_).trans hit
  intro hr
  obtain ⟨_, h⟩ := hown
  rcases h with ⟨h, _⟩ | ⟨g, _, _, h, hg, _⟩
  · rw [h] at hr
    simp [Value.ownBlock] at hr
  · rw [h] at hr
    simp [Value.ownBlock] at hr
    omega

theorem one_cell (w : World) (z : Int) (t : TypeId) : ∀ j u, ([Value.int .i64 z])[j]? = some u → (w.alloc (.cells #[.int .i64 z] t)).cell? ((⟨w.heap.size, 0, none⟩ : Addr).add j) = some u := by
  intro j u hj
  match j, hj with
  | 0, hj => simp at hj; subst hj; simp [Addr.add]

theorem one_one (z : Int) : ∀ u ∈ [Value.int .i64 z], u.oneCell' = true := by
  intro u hu
  simp at hu
  subst hu
  rfl

set_option maxHeartbeats 1000000 in
theorem specSigns (s : ByteArray) (w : World) (hs : s.size ≤ 17592186044416) :
    Calls Tryz.prog 95 #[.string s] w fun e w' => ∃ a cap, e = .returned (.slice a (signsL s).length cap) ∧ Owned w' w.heap.size a cap (signsL s) ∧ Below w.heap.size w w' := by
  obtain ⟨i0, hi0, hz0, hz1, hz2⟩ := info_parts info_int
  have Hi : Hid (Tryz.prog.info? 3 = some i0) := hi0
  have Hz0 : Hid (i0.zero = some (.int .i64 0)) := hz0
  have Hz1 : Hid (i0.size = 1) := hz1
  have Hz2 : Hid (i0.bytes = 8) := hz2
  clear hi0 hz0 hz1 hz2
  go_enter Tryz.func95, Tryz.ntmps95
  go_wp2
  go_loopw [3, 4] (fun v i wr => ∃ (pos : Nat) (acc : List Int), pos ≤ s.size ∧ acc.length ≤ pos ∧ i = .int .i64 pos ∧ wr.ownsRow w.heap.size 3 1 v acc.length (intCells acc) ∧ Below w.heap.size w wr ∧ Hid (acc ++ signsAt s pos = signsL s)) (fun _ i _ => s.size - (intOf i).toNat)
  case atStart =>
    refine ⟨0, [], Nat.zero_le _, Nat.le_refl _, rfl, ⟨rfl, .inr ⟨w.heap.size, 0, #[], rfl, Nat.le_refl _, ?_, Nat.le_refl _, Nat.zero_le _, rfl, rfl⟩⟩, (Below.refl _ _).alloc (Nat.le_refl _) _, rfl⟩
    show (w.heap.push _)[w.heap.size]? = _
    simp
  case round =>
    obtain ⟨pos, acc, hpos, hal, rfl, hown, hbel, Hacc⟩ := hrel
    by_cases hlt : pos < s.size
    · have hgm := getS_many s pos hlt
      have hgl := getS_le s pos hlt
      have hst := signsAt_step s pos hlt
      go_wp2_with fail
      refine (specGet_in s pos _ hlt (by omega)).mono ?_
      rintro e w1 ⟨rfl, rfl⟩
      generalize hG : getS s pos = G at *
      clear hG
      obtain ⟨z, m⟩ := G
      simp only at hgm hgl hst
      have Hst : Hid (signsAt s pos = (z : Int) :: signsAt s (pos + m)) := hst
      clear hst
      go_wp2_with (at_builtin; refine wpList_append_own _ rfl (.tmp 18) (.tmp 20) 112 rfl w.heap.size 3 i0 (.int .i64 0) 1 8 Tryz.underlying112 Hi.out Hz0.out Hz1.out Hz2.out rfl (by decide) _ acc.length (intCells acc) rfl (hown.alloc _) ⟨_, 0, none⟩ 1 1 [.int .i64 (z : Int)] rfl rfl (one_cell _ _ _) (one_one _) ?c3 ?c4 ?c5 ?_)
      case c3 => unfold maxLen; omega
      case c4 => omega
      case c5 => have := hbel.size; first | omega | (simp; omega)
      intro v' w2 hown' hgrow _
      have hbel2 : Below w.heap.size w w2 := own_grown1 (hown.alloc _) (hbel.alloc hbel.size _) (Nat.le_refl _) hgrow (by have := hbel.size; simp; omega)
      have hown2 : w2.ownsRow w.heap.size 3 1 v' (acc ++ [(z : Int)]).length (intCells (acc ++ [(z : Int)])) := by
        rw [List.length_append]
        have e2 : intCells (acc ++ [(z : Int)]) = intCells acc ++ [.int .i64 (z : Int)] := by simp [intCells]
        rw [e2]
        exact hown'
      have Hacc2 : Hid ((acc ++ [(z : Int)]) ++ signsAt s (pos + m) = signsL s) := by
        show _ = _
        rw [← Hacc.out, Hst.out]
        simp
      clear hown' hgrow hown hbel Hst Hacc
      go_wp2
      go_roundw
      case rel => exact ⟨pos + m, acc ++ [(z : Int)], by omega, by simp; omega, by go_num, hown2, hbel2, Hacc2⟩
      case measure => simp [intOf]; omega
    · have hall : acc = signsL s := by
        rw [← Hacc.out, signsAt_end s pos hlt, List.append_nil]
      subst hall
      clear Hacc
      obtain ⟨a, cap, rfl, ho⟩ := Owned.of_row hown
      clear hown
      go_wp2
      go_ret
      exact ⟨a, cap, rfl, ho, hbel⟩

end Go.Proofs.YthipdkagkdnaiaaGreatDoor.Sg

namespace Go.Proofs.YthipdkagkdnaiaaGreatDoor.Sg
open Go.ChangeShapes Go.WideShapes Go.ChangeAt Go.RowKit

theorem Owned.lower {w : World} {B B' : Nat} {a : Option Addr} {cap : Nat} {zs : List Int} (h : Owned w B a cap zs) (hB : B' ≤ B) : Owned w B' a cap zs := by
  rcases h with h | ⟨g, cur, ha, hg, h⟩
  · exact .inl h
  · exact .inr ⟨g, cur, ha, by omega, h⟩

theorem decode_fit (s : ByteArray) (i : Nat) (h : i < s.size) : i + (Utf8.decode s i).2 ≤ s.size := by
  have hm := getS_many s i h
  by_cases hd : (Utf8.decode s i).1 = 65533
  · have := (getS_bad s i h hd).2.1
    omega
  · rw [← getS_good s i h hd]
    omega

set_option maxHeartbeats 2000000 in
theorem implSigns (s : ByteArray) (w : World) (hs : s.size ≤ 17592186044416) (hT : Lib.Utf8Tabs 2 3 w) :
    Calls Tryz.prog 153 #[.string s] w fun e w' => ∃ a cap, e = .returned (.slice a (signsL s).length cap) ∧ Owned w' w.heap.size a cap (signsL s) ∧ Below w.heap.size w w' := by
  obtain ⟨i0, hi0, hz0, hz1, hz2⟩ := info_parts info_int
  have Hi : Hid (Tryz.prog.info? 3 = some i0) := hi0
  have Hz0 : Hid (i0.zero = some (.int .i64 0)) := hz0
  have Hz1 : Hid (i0.size = 1) := hz1
  have Hz2 : Hid (i0.bytes = 8) := hz2
  have HT : Hid (Lib.Utf8Tabs 2 3 w) := hT
  clear hi0 hz0 hz1 hz2 hT
  go_enter Tryz.func153, Tryz.ntmps153
  go_wp2
  go_loopw [3, 4] (fun v nv wr => ∃ (pos nx : Nat) (acc : List Int), pos ≤ s.size ∧ acc.length ≤ pos ∧ nx ≤ s.size ∧ nv = .int .i64 nx ∧ wr.ownsRow (w.heap.size + 1) 3 1 v acc.length (intCells acc) ∧
    wr.heap[w.heap.size]? = some (.stringIter s pos) ∧ Below w.heap.size w wr ∧ Hid (acc ++ signsAt s (max pos nx) = signsL s) ∧ Hid (∀ j, pos ≤ j → j < nx → 128 ≤ bN s j ∧ bN s j ≤ 191)) (fun _ _ wr => s.size - wr.iterPos w.heap.size)
  case atStart =>
    refine ⟨0, 0, [], Nat.zero_le _, Nat.le_refl _, Nat.zero_le _, rfl, World.ownsRow_nil _ _ _ _, ?_, (Below.refl _ w).alloc (Nat.le_refl _) _, rfl, fun j _ h => by omega⟩
    have := World.iter_heap w s 0
    simpa using this
  case round =>
    obtain ⟨pos, nx, acc, hpos, hal, hnx, rfl, hown, hit, hbel, Hacc, Hsp⟩ := hrel
    have hsz : w.heap.size < wr.heap.size := (Array.getElem?_eq_some_iff.1 hit).1
    by_cases hp : pos < s.size
    · have hnext : ∀ ty, (Instr.next (.pointer (some ⟨w.heap.size, 0, none⟩)) true ty).run Tryz.prog wr = _ := fun ty => Lib.run_next_any_at wr w.heap.size s pos ty hit hp
      have hwd := decode_pos s pos
      have hd1 := decode_le s pos
      have hfit := decode_fit s pos hp
      have hit2 := Lib.iterAt_heap wr w.heap.size s pos (pos + (Utf8.decode s pos).2) hit
      have hown2 := ownsRow_iterAt hown (k := w.heap.size) (by omega) s (pos + (Utf8.decode s pos).2)
      have hbel2 := Lib.below_iterAt hbel (k := w.heap.size) (Nat.le_refl _) s (pos + (Utf8.decode s pos).2)
      have hgood := getS_good s pos hp
      have hbad := getS_bad s pos hp
      have hgm := getS_many s pos hp
      have hst := signsAt_step s pos hp
      have hbeh := decode_behind s pos
      generalize hD : Utf8.decode s pos = D at *
      obtain ⟨r, m⟩ := D
      simp only at hwd hd1 hfit hit2 hown2 hbel2 hbad
      have Hgood : Hid (r ≠ 65533 → getS s pos = (r, m)) := hgood
      have Hbad : Hid (r = 65533 → (getS s pos).1 = 65533 ∧ m ≤ (getS s pos).2 ∧ ∀ j, pos + m ≤ j → j < pos + (getS s pos).2 → 128 ≤ bN s j ∧ bN s j ≤ 191) := hbad
      have Hgm : Hid (1 ≤ (getS s pos).2 ∧ pos + (getS s pos).2 ≤ s.size) := hgm
      have Hst : Hid (signsAt s pos = ((getS s pos).1 : Int) :: signsAt s (pos + (getS s pos).2)) := hst
      have Hbeh : Hid (128 ≤ bN s pos → bN s pos ≤ 191 → (r, m) = (65533, 1)) := hbeh
      clear hgood hbad hgm hst hbeh hD hown
      generalize hW : wr.iterAt w.heap.size s (pos + m) = W at *
      have hszW : w.heap.size < W.heap.size := (Array.getElem?_eq_some_iff.1 hit2).1
      clear hW
      by_cases hskip : pos < nx
      · have hm1 : (r, m) = (65533, 1) := Hbeh.out (Hsp.out pos (Nat.le_refl _) hskip).1 (Hsp.out pos (Nat.le_refl _) hskip).2
        have hm : m = 1 := congrArg Prod.snd hm1
        subst hm
        clear hm1
        have Hacc2 : Hid (acc ++ signsAt s (max (pos + 1) nx) = signsL s) := by
          have h := Hacc.out
          rw [show max pos nx = nx by omega] at h
          show _ = _
          rw [show max (pos + 1) nx = nx by omega]
          exact h
        have Hsp2 : Hid (∀ j, pos + 1 ≤ j → j < nx → 128 ≤ bN s j ∧ bN s j ≤ 191) := fun j h1 h2 => Hsp.out j (by omega) h2
        clear Hacc Hsp Hgood Hbad Hgm Hst Hbeh
        go_wp2
        go_roundw
        case rel => exact ⟨pos + 1, nx, acc, by omega, by omega, hnx, rfl, hown2, hit2, hbel2, Hacc2, Hsp2⟩
        case measure =>
          simp only [World.iterPos, hit2, hit]
          omega
      · have hA := Hacc.out
        rw [show max pos nx = pos by omega, Hst.out] at hA
        by_cases hr : r = 65533
        · subst hr
          obtain ⟨hb1, hb2, hb3⟩ := Hbad.out rfl
          obtain ⟨hg1, hg2⟩ := Hgm.out
          rw [hb1] at hA
          generalize hK : (getS s pos).2 = K at *
          have HK : Hid ((getS s pos).2 = K) := hK
          have Hacc2 : Hid ((acc ++ [(65533 : Int)]) ++ signsAt s (max (pos + m) (pos + K)) = signsL s) := by
            show _ = _
            rw [show max (pos + m) (pos + K) = pos + K by omega, ← hA]
            simp
          have Hsp2 : Hid (∀ j, pos + m ≤ j → j < pos + K → 128 ≤ bN s j ∧ bN s j ≤ 191) := hb3
          have HT2 : Hid (Lib.Utf8Tabs 2 3 W) := Utf8Tabs_below HT.out hbel2
          clear Hacc Hsp Hgood Hbad Hgm Hst Hbeh hA hb1 hb3 hK
          go_wp2_with fail
          refine (implGet_in s pos _ hp (by omega) HT2.out).mono ?_
          rintro e w1 ⟨rfl, hb1⟩
          rw [HK.out]
          have hown3 := owns_below hown2 (Nat.le_refl _) hb1
          have hit3 : w1.heap[w.heap.size]? = some (.stringIter s (pos + m)) := (hb1.block w.heap.size hszW).trans hit2
          have hbel3 : Below w.heap.size w w1 := hbel2.trans (hb1.mono (by omega))
          have hsz3 : w.heap.size < w1.heap.size := Nat.lt_of_lt_of_le hszW hb1.size
          clear hown2 hit2 hbel2 hb1 hnext
          go_wp2_with (at_builtin; refine wpList_append_own _ rfl (.tmp 29) (.tmp 32) 112 rfl (w.heap.size + 1) 3 i0 (.int .i64 0) 1 8 Tryz.underlying112 Hi.out Hz0.out Hz1.out Hz2.out rfl (by decide) _ acc.length (intCells acc) rfl (hown3.alloc _) ⟨_, 0, none⟩ 1 1 [.int .i64 65533] rfl rfl (one_cell _ _ _) (one_one _) ?c3 ?c4 ?c5 ?_)
          case c3 => unfold maxLen; omega
          case c4 => omega
          case c5 => first | omega | (simp; omega)
          intro v' w2 hown' hgrow _
          have hbel4 : Below w.heap.size w w2 := own_grown1 (hown3.alloc _) (hbel3.alloc hbel3.size _) (Nat.le_succ _) hgrow (by simp; omega)
          have hit4 : w2.heap[w.heap.size]? = some (.stringIter s (pos + m)) := iter_kept (hown3.alloc _) (Nat.lt_succ_self _) hgrow (by rw [Below.heap_alloc _ _ _ hsz3]; exact hit3)
          have hown4 : w2.ownsRow (w.heap.size + 1) 3 1 v' (acc ++ [(65533 : Int)]).length (intCells (acc ++ [(65533 : Int)])) := by
            rw [List.length_append]
            have e2 : intCells (acc ++ [(65533 : Int)]) = intCells acc ++ [.int .i64 65533] := by simp [intCells]
            rw [e2]
            exact hown'
          clear hown' hgrow hown3 hbel3 hit3 HT2
          go_wp2
          go_roundw
          case rel => exact ⟨pos + m, pos + K, acc ++ [(65533 : Int)], by omega, by simp; omega, by omega, by go_num, hown4, hit4, hbel4, Hacc2, Hsp2⟩
          case measure =>
            simp only [World.iterPos, hit4, hit]
            omega
        · have hg := Hgood.out hr
          rw [hg] at hA
          simp only at hA
          have Hacc2 : Hid ((acc ++ [(r : Int)]) ++ signsAt s (max (pos + m) nx) = signsL s) := by
            show _ = _
            rw [show max (pos + m) nx = pos + m by omega, ← hA]
            simp
          have Hsp2 : Hid (∀ j, pos + m ≤ j → j < nx → 128 ≤ bN s j ∧ bN s j ≤ 191) := fun j h1 h2 => by omega
          have hr2 : ((r : Int) == 65533) = false := by rw [beq_eq_false_iff_ne]; omega
          have hrl : (r : Int) ≤ 1114111 := by omega
          clear Hacc Hsp Hgood Hbad Hgm Hst Hbeh hA hg hr
          go_wp2_with (at_builtin; refine wpList_append_own _ rfl (.tmp 29) (.tmp 32) 112 rfl (w.heap.size + 1) 3 i0 (.int .i64 0) 1 8 Tryz.underlying112 Hi.out Hz0.out Hz1.out Hz2.out rfl (by decide) _ acc.length (intCells acc) rfl (hown2.alloc _) ⟨_, 0, none⟩ 1 1 [.int .i64 (r : Int)] rfl rfl (one_cell _ _ _) (one_one _) ?c3 ?c4 ?c5 ?_)
          case c3 => unfold maxLen; omega
          case c4 => omega
          case c5 => first | omega | (simp; omega)
          intro v' w2 hown' hgrow _
          have hbel4 : Below w.heap.size w w2 := own_grown1 (hown2.alloc _) (hbel2.alloc hbel2.size _) (Nat.le_succ _) hgrow (by simp; omega)
          have hit4 : w2.heap[w.heap.size]? = some (.stringIter s (pos + m)) := iter_kept (hown2.alloc _) (Nat.lt_succ_self _) hgrow (by rw [Below.heap_alloc _ _ _ hszW]; exact hit2)
          have hown4 : w2.ownsRow (w.heap.size + 1) 3 1 v' (acc ++ [(r : Int)]).length (intCells (acc ++ [(r : Int)])) := by
            rw [List.length_append]
            have e2 : intCells (acc ++ [(r : Int)]) = intCells acc ++ [.int .i64 (r : Int)] := by simp [intCells]
            rw [e2]
            exact hown'
          clear hown' hgrow hown2 hbel2 hit2 hnext
          go_wp2
          go_roundw
          case rel => exact ⟨pos + m, nx, acc ++ [(r : Int)], by omega, by simp; omega, hnx, rfl, hown4, hit4, hbel4, Hacc2, Hsp2⟩
          case measure =>
            simp only [World.iterPos, hit4, hit]
            omega
    · have hnext : ∀ ty, (Instr.next (.pointer (some ⟨w.heap.size, 0, none⟩)) true ty).run Tryz.prog wr = _ := fun ty => Lib.run_next_end_at wr w.heap.size s pos ty hit hp
      have hall : acc = signsL s := by
        rw [← Hacc.out, signsAt_end s _ (by omega), List.append_nil]
      subst hall
      clear Hacc Hsp
      obtain ⟨a, cap, rfl, ho⟩ := Owned.of_row hown
      clear hown
      go_wp2
      go_ret
      exact ⟨a, cap, rfl, ho.lower (Nat.le_succ _), hbel⟩

end Go.Proofs.YthipdkagkdnaiaaGreatDoor.Sg

namespace Go.Proofs.YthipdkagkdnaiaaGreatDoor.Sg
open Go.ChangeShapes Go.WideShapes Go.ChangeAt Go.RowKit

/-- What this dump says of a builder's type. -/
theorem bld_size : (Tryz.prog.info? 130).map (·.size) = some 2 := by kernel_rfl
theorem bld_lies : liesAt Tryz.prog Tryz.prog.depth 130 (2 / Tryz.prog.cellsOf 130) 0 130 1 = true := by kernel_rfl
theorem bld_info : (Tryz.prog.info? 5).map (fun i => (i.zero, i.size, i.bytes)) = some (some (.int .u8 0), 1, 1) := by kernel_rfl

set_option maxHeartbeats 1000000 in
set_option maxRecDepth 100000 in
/-- A builder that has been written to stays as it is. -/
theorem checkUsed (b : Nat) (w : World) (h0 : w.cell? ⟨b, 0, none⟩ = some (.pointer (some ⟨b, 0, none⟩))) :
    Calls Tryz.prog 130 #[.pointer (some ⟨b, 0, none⟩)] w fun e w' => e = .returned (.tuple #[]) ∧ w' = w := by
  obtain ⟨j, hj, _⟩ := Option.map_eq_some_iff.1 bld_size
  go_enter Tryz.func130, Tryz.ntmps130
  go_wp2
  rw [Lib.run_neq_ptr_same w _ Tryz.underlying128 hj]
  go_wp2
  go_end0
  exact ⟨rfl, rfl⟩

set_option maxHeartbeats 1000000 in
set_option maxRecDepth 100000 in
/-- A new one is marked with its own address. -/
theorem checkFresh (b : Nat) (w : World) (h0 : w.cell? ⟨b, 0, none⟩ = some (.pointer none)) (hsh : w.shape? b = some (130, 2)) (hfz : w.frozen? ⟨b, 0, none⟩ = false) :
    Calls Tryz.prog 130 #[.pointer (some ⟨b, 0, none⟩)] w fun e w' => e = .returned (.tuple #[]) ∧ w' = w.setCell ⟨b, 0, none⟩ (.pointer (some ⟨b, 0, none⟩)) := by
  obtain ⟨j, hj, hjs⟩ := Option.map_eq_some_iff.1 bld_size
  go_enter Tryz.func130, Tryz.ntmps130
  go_wp2
  rw [Lib.run_to_unsafe w ⟨b, 0, none⟩ Tryz.underlying128 Tryz.underlying175 hj (by rw [hjs]; decide) hsh (Nat.zero_lt_succ 1)]
  simp only [Result.andThen]
  rw [Oper.upon_value]
  go_wp2
  rw [run_callFunc_extern Tryz.func158 (by kernel_rfl) (by kernel_rfl) (by kernel_rfl) (e := Extern.AbiNoEscape.same) (by kernel_rfl)]
  rw [Lib.run_noEscape]
  simp only [Result.andThen]
  rw [Oper.upon_value]
  go_wp2
  rw [Lib.run_from_unsafe w ⟨b, 0, none⟩ Tryz.underlying175 Tryz.underlying128 hj hsh bld_lies]
  simp only [Result.andThen]
  rw [Oper.upon_value]
  go_wp2
  go_end0
  exact ⟨rfl, rfl⟩

theorem checkAny (B b : Nat) (bs : List Value) (w : World) (h : Lib.IsBuilderF 130 5 B b bs w) :
    Calls Tryz.prog 130 #[.pointer (some ⟨b, 0, none⟩)] w fun e w' => e = .returned (.tuple #[]) ∧
      Lib.BuilderAtF 130 5 B b (.pointer (some ⟨b, 0, none⟩)) bs w' ∧ Below B w w' ∧ Lib.OthersKept 5 (some b) w w' := by
  rcases h with h | h
  · refine (checkFresh b w h.cell0 h.shape h.frozen0).mono ?_
    rintro e w' ⟨rfl, rfl⟩
    exact ⟨rfl, h.used _, (Below.refl B w).setCell (p := ⟨b, 0, none⟩) h.1 _, (Lib.OthersKept.refl _ _ w).setCell ⟨b, 0, none⟩ rfl _⟩
  · refine (checkUsed b w h.cell0).mono ?_
    rintro e w' ⟨rfl, rfl⟩
    exact ⟨rfl, h, Below.refl B _, Lib.OthersKept.refl _ _ _⟩

set_option maxHeartbeats 2000000 in
set_option maxRecDepth 100000 in
theorem writeString (B b : Nat) (bs : List Value) (s : ByteArray) (w : World) (h : Lib.IsBuilderF 130 5 B b bs w) (hlen : bs.length + s.size ≤ 140737488355328) (hBw : B ≤ w.heap.size) :
    Calls Tryz.prog 109 #[.pointer (some ⟨b, 0, none⟩), .string s] w fun e w' => e = .returned (.tuple #[.int .i64 s.size, .nilIface]) ∧
      Lib.BuilderAtF 130 5 B b (.pointer (some ⟨b, 0, none⟩)) (bs ++ Lib.strCells s) w' ∧ Below B w w' ∧ Lib.OthersKept 5 (some b) w w' := by
  obtain ⟨i0, hi, hz0, hz1, hz2⟩ := info_parts bld_info
  go_enter Tryz.func109, Tryz.ntmps109
  go_wp2_with fail
  refine (checkAny B b bs _ h).mono ?_
  rintro e w1 ⟨rfl, ⟨hB, v, hbk, hown, hne⟩, hb1, hk1⟩
  have hlt : b < w1.heap.size := (Array.getElem?_eq_some_iff.1 hbk).1
  have c0 : w1.cell? ⟨b, 0, none⟩ = some (.pointer (some ⟨b, 0, none⟩)) := by rw [Lib.cell_of_heap hbk]; rfl
  have c1 : w1.cell? ⟨b, 1, none⟩ = some v := by rw [Lib.cell_of_heap hbk]; rfl
  go_wp2_with (at_builtin; refine Lib.wpList_append_own_stringF _ rfl _ _ 78 9 rfl B 5 i0 Tryz.underlying78 Tryz.underlying9 hi hz0 hz1 hz2 _ _ _ rfl hown s rfl ?c3 ?c4 ?c5 ?_)
  case c3 => unfold maxLen; omega
  case c4 => omega
  case c5 => have := hb1.size; omega
  intro v' w2 hown' hgrow _
  have hb2 : w2.heap[b]? = some (.cells #[.pointer (some ⟨b, 0, none⟩), v] 130 (0, 0)) := (hgrow.block b hlt (fun e => hne e.symm)).trans hbk
  have d1 : w2.cell? ⟨b, 1, none⟩ = some v := by rw [Lib.cell_of_heap hb2]; rfl
  have f1 : w2.frozen? ⟨b, 1, none⟩ = false := Lib.frozen_of_heap hb2 1
  obtain ⟨ao, n', cap, rfl⟩ : ∃ ao n' cap, v' = .slice ao n' cap := by
    rcases hown'.2 with ⟨hv, _⟩ | ⟨g, cap, cur, fz, hv, _⟩
    · exact ⟨_, _, _, hv⟩
    · exact ⟨_, _, _, hv⟩
  clear hi hz0 hz1 hz2
  go_wp2
  go_ret2
  refine ⟨rfl, ?_, ?_, (hk1.grown hgrow (Lib.ownsRowF_kind hown)).setCell ⟨b, 1, none⟩ rfl _⟩
  · exact Lib.BuilderAtF.put (T := 130) (e := 5) hB hb2 (bs' := bs ++ Lib.strCells s) (by rw [List.length_append, Lib.strCells_length]; exact hown') (by decide)
  · exact (hb1.grown hgrow (by have := hb1.size; omega) (fun k hk => (hown.lt k hk).1)).setCell (p := ⟨b, 1, none⟩) hB _

end Go.Proofs.YthipdkagkdnaiaaGreatDoor.Sg

namespace Go.Proofs.YthipdkagkdnaiaaGreatDoor.Sg
open Go.ChangeShapes Go.WideShapes Go.ChangeAt Go.RowKit

set_option maxHeartbeats 1000000 in
theorem implSignText (zs : List Int) (a : Option Addr) (ca : Nat) (w : World) (ha : Ints w a zs) (hn : zs.length ≤ 17592186044416) :
    Calls Tryz.prog 179 #[.slice a zs.length ca] w fun e w' => e = .returned (.string (textS zs)) ∧ Below w.heap.size w w' := by
  generalize hlen : zs.length = n at *
  have Hlen : Hid (zs.length = n) := hlen
  clear hlen
  go_enter Tryz.func179, Tryz.ntmps179
  go_wp2
  go_loopw [8] (fun i wr => ∃ k : Nat, k ≤ n ∧ i = .int .i64 k ∧ Lib.IsBuilderF 130 5 w.heap.size w.heap.size (Lib.byteCells (sgBytes (zs.take k))) wr ∧ Below w.heap.size w wr) (fun i _ => n - (intOf i).toNat)
  case atStart => exact ⟨0, Nat.zero_le _, rfl, Lib.IsBuilderF.of (Lib.fresh_isBuilder 130 5 w), (Below.refl _ _).alloc (Nat.le_refl _) _⟩
  case round =>
    obtain ⟨k, hk, rfl, hI, hbel⟩ := hrel
    by_cases hlt : k < n
    · rcases ha with ha | ⟨ba, oa, rfl, hba, hca⟩
      · have := Hlen.out
        rw [ha] at this
        simp at this
        omega
      have hca' := hca k (by rw [Hlen.out]; exact hlt)
      have h1 : wr.cell? ⟨ba, oa + k, none⟩ = some (.int .i64 (zs.getD k 0)) := (hbel.cell (by exact hba)).trans hca'
      have hst := sgBytes_take zs k (by rw [Hlen.out]; exact hlt)
      have hle := sgBytes_length (zs.take k)
      have hle2 : (zs.take k).length ≤ k := List.length_take_le _ _
      clear hca hca'
      have hps := putS_size (zs.getD k 0)
      generalize hz : zs.getD k 0 = z at *
      clear hz
      have Hst : Hid (sgBytes (zs.take (k + 1)) = sgBytes (zs.take k) ++ (putS z).data.toList) := hst
      clear hst
      generalize hacc : sgBytes (zs.take k) = acc at *
      clear hacc
      go_wp2_with fail
      refine (implPutSign z _).mono ?_
      rintro e w1 ⟨rfl, rfl⟩
      go_wp2_with fail
      refine (writeString w.heap.size w.heap.size (Lib.byteCells acc) (putS z) _ hI ?_ hbel.size).mono ?_
      · rw [Lib.byteCells_length]
        omega
      rintro e w2 ⟨rfl, hI2, hb2, _⟩
      have hI3 : Lib.IsBuilderF 130 5 w.heap.size w.heap.size (Lib.byteCells (sgBytes (zs.take (k + 1)))) w2 := by
        rw [Hst.out]
        have e2 : Lib.byteCells (acc ++ (putS z).data.toList) = Lib.byteCells acc ++ Lib.strCells (putS z) := by simp [Lib.byteCells, Lib.strCells]
        rw [e2]
        exact .inr hI2
      have hbel2 := hbel.trans hb2
      clear hI hI2 hb2 hbel
      go_wp2
      go_roundw
      case rel => exact ⟨k + 1, by omega, by go_num, hI3, hbel2⟩
      case measure => simp [intOf]; omega
    · have hkn : k = n := by omega
      subst hkn
      have hall : zs.take k = zs := List.take_of_length_le (by rw [Hlen.out]; exact Nat.le_refl _)
      rw [hall] at hI
      clear hall
      go_wp2_with fail
      refine (Tryz.Builder_String_any_k w.heap.size w.heap.size (sgBytes zs) _ hI hbel.size).mono ?_
      rintro e w2 ⟨rfl, _, hb2, _⟩
      go_wp2
      go_ret
      exact ⟨rfl, hbel.trans hb2⟩

end Go.Proofs.YthipdkagkdnaiaaGreatDoor.Sg

namespace Go.Proofs.YthipdkagkdnaiaaGreatDoor.Sg
open Go.ChangeShapes Go.WideShapes Go.ChangeAt Go.RowKit

/-- A text with its signs written anew. -/
def cleanS (s : ByteArray) : ByteArray := textS (signsL s)

set_option maxHeartbeats 1000000 in
theorem specClean (s : ByteArray) (w : World) (hs : s.size ≤ 17592186044416) :
    Calls Tryz.prog 112 #[.string s] w fun e w' => e = .returned (.string (cleanS s)) ∧ Below w.heap.size w w' := by
  have hn := signsL_length s
  go_enter Tryz.func112, Tryz.ntmps112
  go_wp2_with fail
  refine (specSigns s _ hs).mono ?_
  rintro e w1 ⟨a, cap, rfl, o1, b1⟩
  go_wp2_with fail
  refine (specSignText (signsL s) a cap _ o1.ints (by omega)).mono ?_
  rintro e w2 ⟨rfl, b2⟩
  go_wp2_with fail
  go_ret
  exact ⟨rfl, b1.trans (b2.mono b1.size)⟩

set_option maxHeartbeats 1000000 in
theorem implClean (s : ByteArray) (w : World) (hs : s.size ≤ 17592186044416) (hT : Lib.Utf8Tabs 2 3 w) :
    Calls Tryz.prog 173 #[.string s] w fun e w' => e = .returned (.string (cleanS s)) ∧ Below w.heap.size w w' := by
  have hn := signsL_length s
  have HT : Hid (Lib.Utf8Tabs 2 3 w) := hT
  clear hT
  go_enter Tryz.func173, Tryz.ntmps173
  go_wp2_with fail
  refine (implSigns s _ hs HT.out).mono ?_
  rintro e w1 ⟨a, cap, rfl, o1, b1⟩
  go_wp2_with fail
  refine (implSignText (signsL s) a cap _ o1.ints (by omega)).mono ?_
  rintro e w2 ⟨rfl, b2⟩
  go_wp2_with fail
  go_ret
  exact ⟨rfl, b1.trans (b2.mono b1.size)⟩

/-- A text is clean. -/
def cleanB (s : ByteArray) : Bool := (cleanS s).toList == s.toList

set_option maxHeartbeats 1000000 in
theorem specCleanOk (s : ByteArray) (w : World) (hs : s.size ≤ 17592186044416) :
    Calls Tryz.prog 96 #[.string s] w fun e w' => e = .returned (.bool (cleanB s)) ∧ Below w.heap.size w w' := by
  go_enter Tryz.func96, Tryz.ntmps96
  go_wp2_with fail
  refine (specClean s _ hs).mono ?_
  rintro e w1 ⟨rfl, b1⟩
  go_wp2_with fail
  go_ret
  exact ⟨rfl, b1⟩

set_option maxHeartbeats 1000000 in
theorem implCleanOk (s : ByteArray) (w : World) (hs : s.size ≤ 17592186044416) (hT : Lib.Utf8Tabs 2 3 w) :
    Calls Tryz.prog 151 #[.string s] w fun e w' => e = .returned (.bool (cleanB s)) ∧ Below w.heap.size w w' := by
  have HT : Hid (Lib.Utf8Tabs 2 3 w) := hT
  clear hT
  go_enter Tryz.func151, Tryz.ntmps151
  go_wp2_with fail
  refine (implClean s _ hs HT.out).mono ?_
  rintro e w1 ⟨rfl, b1⟩
  go_wp2_with fail
  go_ret
  exact ⟨rfl, b1⟩

end Go.Proofs.YthipdkagkdnaiaaGreatDoor.Sg

namespace Go.Proofs.YthipdkagkdnaiaaGreatDoor.Sg

/-- What is read of a number that was written. -/
def fix (z : Int) : Int := if okB z = true then z else 65533

theorem bN_list (l : List UInt8) (i : Nat) : bN ⟨l.toArray⟩ i = (l.getD i 0).toNat := by
  unfold bN
  show (l.toArray[i]!).toNat = _
  rw [getElem!_def]
  simp only [List.getElem?_toArray, List.getD_eq_getElem?_getD]
  cases l[i]? <;> rfl

theorem size_list (l : List UInt8) : (⟨l.toArray⟩ : ByteArray).size = l.length := by
  show l.toArray.size = l.length
  simp

theorem bN_mid (pre b post : List UInt8) (j : Nat) (h : j < b.length) : bN ⟨(pre ++ (b ++ post)).toArray⟩ (pre.length + j) = (b.getD j 0).toNat := by
  rw [bN_list]
  congr 1
  simp only [List.getD_eq_getElem?_getD]
  rw [List.getElem?_append_right (by omega), show pre.length + j - pre.length = j by omega, List.getElem?_append_left h]

theorem u8_of (x : Int) (_h0 : 0 ≤ x) (h1 : x < 256) : (UInt8.ofNat x.toNat).toNat = x.toNat := by
  simp
  omega

theorem putS_list (z : Int) : (putS z).data.toList = (Lib.encodeRuneZ z).map fun n => UInt8.ofNat n.toNat := by
  simp [putS, strOfNums]

/-- A sign's bytes, wherever they stand, are read as the sign. -/
theorem getS_put (z : Int) (hz : okB z = true) (pre post : List UInt8) :
    getS ⟨(pre ++ ((putS z).data.toList ++ post)).toArray⟩ pre.length = (z.toNat, (putS z).size) := by
  have hb := okB_of hz
  have hlen : (putS z).data.toList.length = (putS z).size := Array.length_toList
  have hps := putS_size z
  have hin : pre.length < (⟨(pre ++ ((putS z).data.toList ++ post)).toArray⟩ : ByteArray).size := by
    rw [size_list]
    simp only [List.length_append]
    omega
  have hsz : (⟨(pre ++ ((putS z).data.toList ++ post)).toArray⟩ : ByteArray).size - pre.length = (putS z).size + post.length := by
    rw [size_list]
    simp only [List.length_append]
    omega
  have hB := fun j h => bN_mid pre (putS z).data.toList post j h
  rw [getS_decode _ _ hin, Lib.decode_at, hsz]
  generalize hs : (⟨(pre ++ ((putS z).data.toList ++ post)).toArray⟩ : ByteArray) = s at *
  have e0 := hB 0 (by omega)
  rw [Nat.add_zero] at e0
  have n1 := bN_lt s (pre.length + 1)
  have n2 := bN_lt s (pre.length + 2)
  have n3 := bN_lt s (pre.length + 3)
  show (if Lib.decodeN _ (bN s pre.length) (bN s (pre.length + 1)) (bN s (pre.length + 2)) (bN s (pre.length + 3)) = (65533, 1) then _ else Lib.decodeN _ (bN s pre.length) (bN s (pre.length + 1)) (bN s (pre.length + 2)) (bN s (pre.length + 3))) = _
  by_cases c1 : z ≤ 127
  · have hl := putS_list z
    rw [Lib.encodeRuneZ_one (by omega) c1] at hl
    rw [hl] at e0 hlen
    simp only [List.map_cons, List.map_nil, List.getD_cons_zero, List.length_cons, List.length_nil] at e0 hlen
    rw [u8_of z (by omega) (by omega)] at e0
    rw [e0, ← hlen]
    have hd : ∀ n b1 b2 b3, Lib.decodeN n z.toNat b1 b2 b3 = (z.toNat, 1) := fun n b1 b2 b3 => by
      unfold Lib.decodeN
      rw [if_pos (by omega)]
    rw [hd, if_neg (by simp; omega)]
  · by_cases c2 : z ≤ 2047
    · have hl := putS_list z
      rw [Lib.encodeRuneZ_two (by omega) c2] at hl
      have e1 := hB 1 (by rw [hl]; simp)
      rw [hl] at e0 e1 hlen
      simp only [List.map_cons, List.map_nil, List.getD_cons_zero, List.getD_cons_succ, List.length_cons, List.length_nil] at e0 e1 hlen
      rw [u8_of _ (by omega) (by omega)] at e0 e1
      rw [dec2 _ _ _ _ _ (by omega) (by omega) n1]
      have l0 : loN (bN s pre.length) = 128 := by unfold loN; rw [if_neg (by omega), if_neg (by omega)]
      have l1 : hiN (bN s pre.length) = 191 := by unfold hiN; rw [if_neg (by omega), if_neg (by omega)]
      rw [l0, l1]
      have hc : 1 < (putS z).size + post.length ∧ 128 ≤ bN s (pre.length + 1) ∧ bN s (pre.length + 1) ≤ 191 := by omega
      simp only [if_pos hc]
      rw [if_neg (by simp)]
      ext
      · simp only
        omega
      · simp only
        omega
    · by_cases c3 : z ≤ 65535
      · have hl := putS_list z
        rw [Lib.encodeRuneZ_three (by omega)] at hl
        have e1 := hB 1 (by rw [hl]; simp)
        have e2 := hB 2 (by rw [hl]; simp)
        rw [hl] at e0 e1 e2 hlen
        simp only [List.map_cons, List.map_nil, List.getD_cons_zero, List.getD_cons_succ, List.length_cons, List.length_nil] at e0 e1 e2 hlen
        rw [u8_of _ (by omega) (by omega)] at e0 e1 e2
        rw [dec3 _ _ _ _ _ (by omega) (by omega) n1 n2]
        have l : (bN s pre.length = 224 ∧ loN (bN s pre.length) = 160 ∧ hiN (bN s pre.length) = 191) ∨ (bN s pre.length = 237 ∧ loN (bN s pre.length) = 128 ∧ hiN (bN s pre.length) = 159) ∨ (bN s pre.length ≠ 224 ∧ bN s pre.length ≠ 237 ∧ loN (bN s pre.length) = 128 ∧ hiN (bN s pre.length) = 191) := by
          unfold loN hiN
          repeat' split
          all_goals omega
        have hc : (1 < (putS z).size + post.length ∧ loN (bN s pre.length) ≤ bN s (pre.length + 1) ∧ bN s (pre.length + 1) ≤ hiN (bN s pre.length)) ∧ (2 < (putS z).size + post.length ∧ 128 ≤ bN s (pre.length + 2) ∧ bN s (pre.length + 2) ≤ 191) := by omega
        simp only [if_pos hc]
        rw [if_neg (by simp)]
        ext
        · simp only
          omega
        · simp only
          omega
      · have hl := putS_list z
        rw [Lib.encodeRuneZ_four (by omega) (by omega)] at hl
        have e1 := hB 1 (by rw [hl]; simp)
        have e2 := hB 2 (by rw [hl]; simp)
        have e3 := hB 3 (by rw [hl]; simp)
        rw [hl] at e0 e1 e2 e3 hlen
        simp only [List.map_cons, List.map_nil, List.getD_cons_zero, List.getD_cons_succ, List.length_cons, List.length_nil] at e0 e1 e2 e3 hlen
        rw [u8_of _ (by omega) (by omega)] at e0 e1 e2 e3
        rw [dec4 _ _ _ _ _ (by omega) (by omega) n1 n2 n3]
        have l : (bN s pre.length = 240 ∧ loN (bN s pre.length) = 144 ∧ hiN (bN s pre.length) = 191) ∨ (bN s pre.length = 244 ∧ loN (bN s pre.length) = 128 ∧ hiN (bN s pre.length) = 143) ∨ (bN s pre.length ≠ 240 ∧ bN s pre.length ≠ 244 ∧ loN (bN s pre.length) = 128 ∧ hiN (bN s pre.length) = 191) := by
          unfold loN hiN
          repeat' split
          all_goals omega
        have hc : (1 < (putS z).size + post.length ∧ loN (bN s pre.length) ≤ bN s (pre.length + 1) ∧ bN s (pre.length + 1) ≤ hiN (bN s pre.length)) ∧ (2 < (putS z).size + post.length ∧ 128 ≤ bN s (pre.length + 2) ∧ bN s (pre.length + 2) ≤ 191) ∧ (3 < (putS z).size + post.length ∧ 128 ≤ bN s (pre.length + 3) ∧ bN s (pre.length + 3) ≤ 191) := by omega
        simp only [if_pos hc]
        rw [if_neg (by simp)]
        ext
        · simp only
          omega
        · simp only
          omega

theorem putS_fix (z : Int) : putS (fix z) = putS z := by
  unfold fix
  cases h : okB z
  · rw [if_neg (by simp)]
    exact (putS_bad h).symm
  · rw [if_pos rfl]

theorem fix_ok (z : Int) : okB (fix z) = true := by
  unfold fix
  cases h : okB z
  · rw [if_neg (by simp)]
    decide
  · rw [if_pos rfl]
    exact h

end Go.Proofs.YthipdkagkdnaiaaGreatDoor.Sg
