/- Contracts of SignOk, of the program and of the model: both answer the same plain test of a number. Memory that a call owns, and what stays of it. The error that is told of what is refused; told, that makes nothing of it. A string of one byte made of a slice of it. Contracts of PutSign, of the program and of the model: both give the bytes of a sign, or of 65533 for what is none. Bytes that a call owns, in a slice that grows. Slices of ints: what they hold, in memory that came in or that a call owns. Contracts of SignText, of the program and of the model: both give the bytes of the signs, one behind the other. Plain functions of signs: what a sign read at a place is. No program in it. -/
import Derived.Test.YtkngdlbedelgnaaGreatDoorRows
import Derived.WalkKit
import Derived.WalkLawsBesides
import Derived.ProofKit
import Derived.OpenShut
import Derived.ShutString
import Derived.ChangeOld
import Derived.Below
import Derived.Laws.Bits128
import Derived.OwnWalk
import Derived.Laws.AppendOwn
import Derived.Deep.OwnRows
import Derived.Test.YtkngdlbedelgnaaGreatDoorErIs
import Derived.Deep.QuietTactic
import Derived.Laws.BytesArg
import Derived.Lib.RuneBytes
import Derived.Laws.IdiomStrings
import Derived.BigQuiet
import Derived.Lib.DecodeN
import Derived.Laws.Entries
namespace Go.Proofs.YtkngdlbedelgnaaGreatDoor.Sg
open Go.ChangeShapes Go.WideShapes Go.ChangeAt Go.RowKit

theorem own : ownKnob Tryz.prog.godebug = none := by kernel_rfl
theorem laidOut : laidOutB Tryz.prog = true := by kernel_rfl

/-- A number is a sign. -/
def okB (n : Int) : Bool := decide (0 ≤ n ∧ n ≤ 1114111 ∧ (n < 55296 ∨ 57343 < n))

theorem okB_yes {n : Int} (h : 0 ≤ n ∧ n ≤ 1114111 ∧ (n < 55296 ∨ 57343 < n)) : okB n = true := decide_eq_true h
theorem okB_no {n : Int} (h : ¬ (0 ≤ n ∧ n ≤ 1114111 ∧ (n < 55296 ∨ 57343 < n))) : okB n = false := decide_eq_false h
theorem okB_of {n : Int} (h : okB n = true) : 0 ≤ n ∧ n ≤ 1114111 ∧ (n < 55296 ∨ 57343 < n) := of_decide_eq_true h
theorem okB_not {n : Int} (h : okB n = false) : ¬ (0 ≤ n ∧ n ≤ 1114111 ∧ (n < 55296 ∨ 57343 < n)) := of_decide_eq_false h

theorem ret_bool {a b : Bool} (h : a = b) : Ending.returned (.bool a) = .returned (.bool b) := by rw [h]

theorem five (n : Int) : (n < 0 ∨ (0 ≤ n ∧ n < 55296)) ∨ (55296 ≤ n ∧ n ≤ 57343) ∨ ((57343 < n ∧ n ≤ 1114111) ∨ 1114111 < n) := by omega

set_option maxHeartbeats 1000000 in
theorem implSignOk (n : Int) (w : World) :
    Calls Tryz.prog 139 #[.int .i64 n] w fun e w' => e = .returned (.bool (okB n)) ∧ w' = w := by
  rcases five n with (h | ⟨h, h'⟩) | ⟨h, h'⟩ | (⟨h, h'⟩ | h)
  · have ho : okB n = false := okB_no (by omega)
    rw [ho]
    go_enter Tryz.func139, Tryz.ntmps139
    go_wp2
    go_ret
    exact ⟨rfl, rfl⟩
  · have ho : okB n = true := okB_yes (by omega)
    rw [ho]
    go_enter Tryz.func139, Tryz.ntmps139
    go_wp2
    go_ret
    exact ⟨rfl, rfl⟩
  · have ho : okB n = false := okB_no (by omega)
    rw [ho]
    go_enter Tryz.func139, Tryz.ntmps139
    go_wp2
    go_ret
    exact ⟨ret_bool (a := decide (n < 55296) || decide (57343 < n)) (by simp; omega), rfl⟩
  · have ho : okB n = true := okB_yes (by omega)
    rw [ho]
    go_enter Tryz.func139, Tryz.ntmps139
    go_wp2
    go_ret
    exact ⟨rfl, rfl⟩
  · have ho : okB n = false := okB_no (by omega)
    rw [ho]
    go_enter Tryz.func139, Tryz.ntmps139
    go_wp2
    go_ret
    exact ⟨rfl, rfl⟩

set_option maxHeartbeats 1000000 in
theorem specSignOk (n : Int) (w : World) :
    Calls Tryz.prog 87 #[.int .i64 n] w fun e w' => e = .returned (.bool (okB n)) ∧ w' = w := by
  rcases five n with (h | ⟨h, h'⟩) | ⟨h, h'⟩ | (⟨h, h'⟩ | h)
  · have ho : okB n = false := okB_no (by omega)
    rw [ho]
    go_enter Tryz.func87, Tryz.ntmps87
    go_wp2
    go_ret
    exact ⟨rfl, rfl⟩
  · have ho : okB n = true := okB_yes (by omega)
    rw [ho]
    go_enter Tryz.func87, Tryz.ntmps87
    go_wp2
    go_ret
    exact ⟨rfl, rfl⟩
  · have ho : okB n = false := okB_no (by omega)
    rw [ho]
    go_enter Tryz.func87, Tryz.ntmps87
    go_wp2
    go_ret
    exact ⟨rfl, rfl⟩
  · have ho : okB n = true := okB_yes (by omega)
    rw [ho]
    go_enter Tryz.func87, Tryz.ntmps87
    go_wp2
    go_ret
    exact ⟨ret_bool (a := !decide (n ≤ 57343)) (by simp; omega), rfl⟩
  · have ho : okB n = false := okB_no (by omega)
    rw [ho]
    go_enter Tryz.func87, Tryz.ntmps87
    go_wp2
    go_ret
    exact ⟨rfl, rfl⟩

theorem i64_low (n : Int) (m : Nat) (hm : m ≤ 32) (z : Int) (hz : (BitVec.ofInt 64 z).toNat = 2 ^ m - 1) : bits .and .i64 n z = n % ((2 ^ m : Nat) : Int) := by
  have key : (BitVec.ofInt 64 n &&& BitVec.ofInt 64 z).toNat = (n % ((2 ^ 64 : Nat) : Int)).toNat % 2 ^ m := by
    rw [BitVec.toNat_and, BitVec.toNat_ofInt, hz, Nat.and_two_pow_sub_one_eq_mod]
  show IntKind.i64.wrap ((BitVec.ofInt 64 n &&& BitVec.ofInt 64 z).toNat : Nat) = _
  have hp : (2 ^ m : Nat) ≤ 2 ^ 32 := Nat.pow_le_pow_right (by decide) hm
  have hp0 : 0 < (2 ^ m : Nat) := Nat.two_pow_pos m
  have hlt : (n % ((2 ^ 64 : Nat) : Int)).toNat % 2 ^ m < 2 ^ m := Nat.mod_lt _ hp0
  have hdvd : ((2 ^ m : Nat) : Int) ∣ ((2 ^ 64 : Nat) : Int) := Int.natCast_dvd_natCast.2 (Nat.pow_dvd_pow 2 (by omega))
  have hnn : 0 ≤ n % ((2 ^ 64 : Nat) : Int) := Int.emod_nonneg _ (by decide)
  rw [key, IntKind.wrap_i64, Int.natCast_emod, Int.toNat_of_nonneg hnn, Int.emod_emod_of_dvd _ hdvd]
  have h1 := Int.emod_nonneg n (b := ((2 ^ m : Nat) : Int)) (by omega)
  have h2 := Int.emod_lt_of_pos n (b := ((2 ^ m : Nat) : Int)) (by omega)
  generalize n % ((2 ^ m : Nat) : Int) = r at *
  generalize (2 ^ m : Nat) = q at *
  omega

end Go.Proofs.YtkngdlbedelgnaaGreatDoor.Sg

namespace Go.Proofs.YtkngdlbedelgnaaGreatDoor.Sg
open Go.ChangeShapes Go.WideShapes Go.ChangeAt Go.RowKit

/-- What is owned stays owned where nothing that was there has turned. -/
theorem owns_below {w w' : World} {base : Nat} {e : TypeId} {size : Nat} {v : Value} {n : Nat} {xs : List Value} (h : w.ownsRow base e size v n xs) {B : Nat} (hB : w.heap.size ≤ B) (hb : Below B w w') : w'.ownsRow base e size v n xs := by
  obtain ⟨h1, h2⟩ := h
  refine ⟨h1, ?_⟩
  rcases h2 with h2 | ⟨g, cap, cur, h2, h3, h4, h5⟩
  · exact .inl h2
  · have hg : g < w.heap.size := (Array.getElem?_eq_some_iff.1 h4).1
    exact .inr ⟨g, cap, cur, h2, h3, (hb.block g (by omega)).trans h4, h5⟩

theorem drew_kd {B : Nat} {a w : World} (h : Below B a w) (n : Nat) : Below B a (w.drewN n) := h.trans ⟨rfl, rfl, rfl, Nat.le_refl _, fun _ _ => rfl⟩
theorem keep_cell {w w' : World} (hb : Below w.heap.size w w') {b i : Nat} {v : Value} (h : w.cell? ⟨b, i, none⟩ = some v) : w'.cell? ⟨b, i, none⟩ = some v := by
  have hlt : b < w.heap.size := by
    unfold World.cell? at h
    simp only at h
    cases hh : w.heap[b]? with
    | none => rw [hh] at h; cases h
    | some o => exact (Array.getElem?_eq_some_iff.1 hh).1
  exact (hb.cell hlt).trans h
theorem grown_below {w w2 : World} {B : Nat} {e : TypeId} {z : Nat} {v : Value} {n : Nat} {xs : List Value} {B0 : Nat} {w0 : World} (hown : w.ownsRow B e z v n xs) (hb : Below B0 w0 w) (hB : B0 ≤ B) (hg : w.grownBy w2 v.ownBlock) (hsz : B0 ≤ w.heap.size) : Below B0 w0 w2 :=
  hb.grown hg hsz (fun k hk => Nat.le_trans hB (hown.lt k hk).1)
theorem own_mono {w : World} {B B' : Nat} {e : TypeId} {z : Nat} {v : Value} {n : Nat} {xs : List Value} (h : w.ownsRow B' e z v n xs) (hB : B ≤ B') : w.ownsRow B e z v n xs := by
  obtain ⟨h1, h2⟩ := h
  refine ⟨h1, ?_⟩
  rcases h2 with h2 | ⟨g, cap, cur, h3, h4, h5⟩
  · exact .inl h2
  · exact .inr ⟨g, cap, cur, h3, Nat.le_trans hB h4, h5⟩

/-- One cell of a row that is owned is written. -/
theorem owns_set {w : World} {base : Nat} {e : TypeId} {size : Nat} {g n cap : Nat} {xs : List Value} (h : w.ownsRow base e size (.slice (some ⟨g, 0, none⟩) n cap) n xs) (j : Nat) (v : Value) : (w.setCell ⟨g, j, none⟩ v).ownsRow base e size (.slice (some ⟨g, 0, none⟩) n cap) n (xs.set j v) := by
  obtain ⟨h1, h2⟩ := h
  refine ⟨by rw [List.length_set]; exact h1, ?_⟩
  rcases h2 with ⟨h2, _⟩ | ⟨g', cap', cur, h2, h3, h4, h5, h6, h7, h8⟩
  · cases h2
  · cases h2
    refine .inr ⟨g, cap, cur.setIfInBounds j v, rfl, h3, ?_, h5, h6, by simpa using h7, ?_⟩
    · simp [World.setCell, Array.getElem?_modify, h4]
    · rw [Array.toList_setIfInBounds, List.take_set, h8]
theorem own_cell {w : World} {B : Nat} {e : TypeId} {z g n cap : Nat} {xs : List Value} (h : w.ownsRow B e z (.slice (some ⟨g, 0, none⟩) n cap) n xs) {j : Nat} (hj : j < n * z) : w.cell? ⟨g, j, none⟩ = xs[j]? ∧ w.frozen? ⟨g, j, none⟩ = false := by
  obtain ⟨_, h2⟩ := h
  rcases h2 with ⟨h2, _⟩ | ⟨g', cap', cur, h2, _, h4, _, _, _, h8⟩
  · cases h2
  · cases h2
    rw [← h8, List.getElem?_take_of_lt hj, Array.getElem?_toList]
    exact ⟨by simp [World.cell?, h4], by simp [World.frozen?, h4]⟩

end Go.Proofs.YtkngdlbedelgnaaGreatDoor.Sg

namespace Go.Proofs.YtkngdlbedelgnaaGreatDoor.Sg
open Go.ChangeShapes Go.WideShapes Go.ChangeAt Go.RowKit

/-- An error of errors.New's make. -/
abbrev errV (a : Addr) : Value := .iface 202 (.pointer (some a))
/-- The variable holds that error. -/
def ErrA (a : Addr) (w : World) : Prop := w.cell? ⟨0, 0, none⟩ = some (errV a)
theorem ErrA.below {a : Addr} {w w' : World} (h : ErrA a w) (hb : Below w.heap.size w w') : ErrA a w' := keep_cell hb h

end Go.Proofs.YtkngdlbedelgnaaGreatDoor.Sg

namespace Go.Proofs.YtkngdlbedelgnaaGreatDoor.Sg
open Go.ChangeShapes Go.WideShapes Go.ChangeAt Go.RowKit

theorem cell_new (w : World) (vs : Array Value) (t : TypeId) (i : Nat) : (w.alloc (.cells vs t)).cell? ⟨w.heap.size, 0 + i, none⟩ = vs[i]? := by
  rw [Nat.zero_add]
  exact World.cell?_alloc_mark w vs t (0, 0) i

theorem conv1 (a : Int) (w : World) : Sem.run Tryz.prog (convert 49 9 (.slice (some ⟨w.heap.size, 0, none⟩) 1 1)) (w.alloc (.cells #[.int .u8 a] 5)) = .ok (.string (strOfNums [a])) (w.alloc (.cells #[.int .u8 a] 5)) :=
  run_convert_bytes_arg _ 49 5 Tryz.underlying49 Tryz.underlying5 _ 0 1 1 [a] rfl (fun i hi => by
    rw [cell_new]
    match i, hi with
    | 0, _ => rfl) 9 Tryz.underlying9

end Go.Proofs.YtkngdlbedelgnaaGreatDoor.Sg

namespace Go.Proofs.YtkngdlbedelgnaaGreatDoor.Sg
open Go.ChangeShapes Go.WideShapes Go.ChangeAt Go.RowKit

/-- The bytes of a sign, as a string. -/
def putS (n : Int) : ByteArray := strOfNums (Lib.encodeRuneZ n)

theorem putS_size (z : Int) : 1 ≤ (putS z).size ∧ (putS z).size ≤ 4 := by
  have := Lib.encodeRuneZ_length z
  have e : (putS z).size = (Lib.encodeRuneZ z).length := by simp [putS, strOfNums, ByteArray.size]
  omega

theorem i64_and63 (n : Int) : bits .and .i64 n 63 = n % 64 := by
  have h63 : (BitVec.ofInt 64 63).toNat = 2 ^ 6 - 1 := by decide
  have key : (BitVec.ofInt 64 n &&& BitVec.ofInt 64 63).toNat = (n % ((2 ^ 64 : Nat) : Int)).toNat % 2 ^ 6 := by
    rw [BitVec.toNat_and, BitVec.toNat_ofInt, h63, Nat.and_two_pow_sub_one_eq_mod]
  show IntKind.i64.wrap ((BitVec.ofInt 64 n &&& BitVec.ofInt 64 63).toNat : Nat) = n % 64
  rw [key, IntKind.wrap_i64]
  omega

theorem conv2 (a b : Int) (w : World) : Sem.run Tryz.prog (convert 49 9 (.slice (some ⟨w.heap.size, 0, none⟩) 2 2)) (w.alloc (.cells #[.int .u8 a, .int .u8 b] 5)) = .ok (.string (strOfNums [a, b])) (w.alloc (.cells #[.int .u8 a, .int .u8 b] 5)) :=
  run_convert_bytes_arg _ 49 5 Tryz.underlying49 Tryz.underlying5 _ 0 2 2 [a, b] rfl (fun i hi => by
    rw [cell_new]
    match i, hi with
    | 0, _ => rfl
    | 1, _ => rfl) 9 Tryz.underlying9

theorem conv3 (a b c : Int) (w : World) : Sem.run Tryz.prog (convert 49 9 (.slice (some ⟨w.heap.size, 0, none⟩) 3 3)) (w.alloc (.cells #[.int .u8 a, .int .u8 b, .int .u8 c] 5)) = .ok (.string (strOfNums [a, b, c])) (w.alloc (.cells #[.int .u8 a, .int .u8 b, .int .u8 c] 5)) :=
  run_convert_bytes_arg _ 49 5 Tryz.underlying49 Tryz.underlying5 _ 0 3 3 [a, b, c] rfl (fun i hi => by
    rw [cell_new]
    match i, hi with
    | 0, _ => rfl
    | 1, _ => rfl
    | 2, _ => rfl) 9 Tryz.underlying9

theorem conv4 (a b c d : Int) (w : World) : Sem.run Tryz.prog (convert 49 9 (.slice (some ⟨w.heap.size, 0, none⟩) 4 4)) (w.alloc (.cells #[.int .u8 a, .int .u8 b, .int .u8 c, .int .u8 d] 5)) = .ok (.string (strOfNums [a, b, c, d])) (w.alloc (.cells #[.int .u8 a, .int .u8 b, .int .u8 c, .int .u8 d] 5)) :=
  run_convert_bytes_arg _ 49 5 Tryz.underlying49 Tryz.underlying5 _ 0 4 4 [a, b, c, d] rfl (fun i hi => by
    rw [cell_new]
    match i, hi with
    | 0, _ => rfl
    | 1, _ => rfl
    | 2, _ => rfl
    | 3, _ => rfl) 9 Tryz.underlying9

/-- The model's own coder and the arithmetic one. -/
theorem encode_eq (n : Int) : Utf8.encode n = putS n := by
  unfold putS strOfNums
  by_cases hv : Utf8.valid n = true
  · have hv' : (0 ≤ n ∧ n < 55296) ∨ (57344 ≤ n ∧ n ≤ 1114111) := by simpa [Utf8.valid] using hv
    unfold Utf8.encode
    rw [if_pos hv]
    obtain ⟨m, rfl⟩ := Int.eq_ofNat_of_zero_le (show 0 ≤ n by omega)
    rw [Int.toNat_natCast]
    by_cases h1 : m < 128
    · rw [if_pos h1, Lib.encodeRuneZ_one (by omega) (by omega)]
      simp
    · rw [if_neg h1]
      by_cases h2 : m < 2048
      · rw [if_pos h2, Lib.encodeRuneZ_two (by omega) (by omega)]
        have e1 : (192 + (m : Int) / 64).toNat = 192 + m / 64 := by omega
        have e2 : (128 + (m : Int) % 64).toNat = 128 + m % 64 := by omega
        simp [e1, e2]
      · rw [if_neg h2]
        by_cases h3 : m < 65536
        · rw [if_pos h3, Lib.encodeRuneZ_three (by omega)]
          have e1 : (224 + (m : Int) / 4096).toNat = 224 + m / 4096 := by omega
          have e2 : (128 + (m : Int) / 64 % 64).toNat = 128 + m / 64 % 64 := by omega
          have e3 : (128 + (m : Int) % 64).toNat = 128 + m % 64 := by omega
          simp [e1, e2, e3]
        · rw [if_neg h3, Lib.encodeRuneZ_four (by omega) (by omega)]
          have e1 : (240 + (m : Int) / 262144).toNat = 240 + m / 262144 := by omega
          have e2 : (128 + (m : Int) / 4096 % 64).toNat = 128 + m / 4096 % 64 := by omega
          have e3 : (128 + (m : Int) / 64 % 64).toNat = 128 + m / 64 % 64 := by omega
          have e4 : (128 + (m : Int) % 64).toNat = 128 + m % 64 := by omega
          simp [e1, e2, e3, e4]
  · have hv' : ¬ ((0 ≤ n ∧ n < 55296) ∨ (57344 ≤ n ∧ n ≤ 1114111)) := by simpa [Utf8.valid] using hv
    unfold Utf8.encode
    rw [if_neg hv, Lib.encodeRuneZ_bad (by omega)]
    rfl

theorem putS_bad {n : Int} (h : okB n = false) : putS n = putS 65533 := by
  have := okB_not h
  unfold putS
  rw [Lib.encodeRuneZ_bad (by omega), Lib.encodeRuneZ_three (by omega)]
  rfl

theorem ret_str {a b : ByteArray} (h : a = b) : Ending.returned (.string a) = .returned (.string b) := by rw [h]

set_option maxHeartbeats 1000000 in
theorem implPutSign (n : Int) (w : World) :
    Calls Tryz.prog 129 #[.int .i64 n] w fun e w' => e = .returned (.string (putS n)) ∧ w' = w := by
  cases ho : okB n
  · have hp := putS_bad ho
    have Hp : Hid (putS n = putS 65533) := hp
    clear hp
    have Ho : Hid (okB n = false) := ho
    clear ho
    go_enter Tryz.func129, Tryz.ntmps129
    go_wp2_with (go_at_call 139; refine (implSignOk _ _).mono ?_; rintro e w' ⟨rfl, rfl⟩; rw [Ho.out])
    go_ret
    exact ⟨ret_str (by rw [Hp.out]; rfl), rfl⟩
  · have hb := okB_of ho
    have h0 : 0 ≤ n := hb.1
    have h1 : n ≤ 1114111 := hb.2.1
    clear hb
    have Ho : Hid (okB n = true) := ho
    clear ho
    go_enter Tryz.func129, Tryz.ntmps129
    go_wp2_with (go_at_call 139; refine (implSignOk _ _).mono ?_; rintro e w' ⟨rfl, rfl⟩; rw [Ho.out])
    go_ret
    exact ⟨ret_str (encode_eq n), rfl⟩

set_option maxHeartbeats 1000000 in
theorem specPutSign (n : Int) (w : World) :
    Calls Tryz.prog 53 #[.int .i64 n] w fun e w' => e = .returned (.string (putS n)) ∧ Below w.heap.size w w' := by
  have c1 := conv1
  have c2 := conv2
  have c3 := conv3
  have c4 := conv4
  have a63 := i64_and63
  cases ho : okB n
  · have hp := putS_bad ho
    have Hp : Hid (putS n = putS 65533) := hp
    clear hp
    have Ho : Hid (okB n = false) := ho
    clear ho
    go_enter Tryz.func53, Tryz.ntmps53
    go_wp2_with (go_at_call 87; refine (specSignOk _ _).mono ?_; rintro e w' ⟨rfl, rfl⟩; rw [Ho.out])
    go_ret
    exact ⟨ret_str (by rw [Hp.out]; rfl), (Below.refl _ _).alloc (Nat.le_refl _) _⟩
  · have hb := okB_of ho
    have h0 : 0 ≤ n := hb.1
    have h1 : n ≤ 1114111 := hb.2.1
    have h2 := hb.2.2
    clear hb
    have Ho : Hid (okB n = true) := ho
    clear ho
    by_cases g1 : n < 128
    · clear h2
      go_enter Tryz.func53, Tryz.ntmps53
      go_wp2_with (go_at_call 87; refine (specSignOk _ _).mono ?_; rintro e w' ⟨rfl, rfl⟩; rw [Ho.out])
      go_ret
      exact ⟨ret_str (by unfold putS; rw [Lib.encodeRuneZ_one (by omega) (by omega)]), (Below.refl _ _).alloc (Nat.le_refl _) _⟩
    · by_cases g2 : n < 2048
      · clear h2
        go_enter Tryz.func53, Tryz.ntmps53
        go_wp2_with (go_at_call 87; refine (specSignOk _ _).mono ?_; rintro e w' ⟨rfl, rfl⟩; rw [Ho.out])
        go_ret
        exact ⟨ret_str (by unfold putS; rw [Lib.encodeRuneZ_two (by omega) (by omega)]), (Below.refl _ _).alloc (Nat.le_refl _) _⟩
      · by_cases g3 : n < 65536
        · have H2 : Hid (n < 55296 ∨ 57343 < n) := h2
          clear h2
          go_enter Tryz.func53, Tryz.ntmps53
          go_wp2_with (go_at_call 87; refine (specSignOk _ _).mono ?_; rintro e w' ⟨rfl, rfl⟩; rw [Ho.out])
          go_ret
          have h2 := H2.out
          exact ⟨ret_str (by unfold putS; rw [Lib.encodeRuneZ_three (by omega)]), (Below.refl _ _).alloc (Nat.le_refl _) _⟩
        · clear h2
          go_enter Tryz.func53, Tryz.ntmps53
          go_wp2_with (go_at_call 87; refine (specSignOk _ _).mono ?_; rintro e w' ⟨rfl, rfl⟩; rw [Ho.out])
          go_ret
          exact ⟨ret_str (by unfold putS; rw [Lib.encodeRuneZ_four (by omega) (by omega)]), (Below.refl _ _).alloc (Nat.le_refl _) _⟩
end Go.Proofs.YtkngdlbedelgnaaGreatDoor.Sg

namespace Go.Proofs.YtkngdlbedelgnaaGreatDoor.Sg
open Go.ChangeShapes Go.WideShapes Go.ChangeAt Go.RowKit

theorem info_byte : (Tryz.prog.info? 5).map (fun i => (i.zero, i.size, i.bytes)) = some (some (.int .u8 0), 1, 1) := by kernel_rfl

theorem addr_add (b j : Nat) : (⟨b, 0, none⟩ : Addr).add j = ⟨b, j, none⟩ := by unfold Addr.add; split <;> simp_all

theorem own_grown {w w2 : World} {B : Nat} {e : TypeId} {v : Value} {n : Nat} {xs : List Value} {B0 : Nat} {w0 : World} (hown : w.ownsRow B e 1 v n xs) (hb : Below B0 w0 w) (hB : B0 ≤ B) (hg : w.grownBy w2 v.ownBlock) (hsz : B0 ≤ w.heap.size) : Below B0 w0 w2 :=
  hb.grown hg hsz (by
    intro r hr
    obtain ⟨_, h⟩ := hown
    rcases h with ⟨h, _⟩ | ⟨g, _, _, h, hg, _⟩
    · rw [h] at hr
      simp [Value.ownBlock] at hr
    · rw [h] at hr
      simp [Value.ownBlock] at hr
      omega)

theorem one_byte_at (w : World) (z : Int) (t : TypeId) : ∀ j u, ([Value.int .u8 z])[j]? = some u → (w.alloc (.cells #[.int .u8 z] t)).cell? ((⟨w.heap.size, 0, none⟩ : Addr).add j) = some u := by
  intro j u hj
  match j, hj with
  | 0, hj => simp at hj; subst hj; simp [Addr.add]

theorem one_byte_one (z : Int) : ∀ u ∈ [Value.int .u8 z], u.oneCell' = true := by
  intro u hu
  simp at hu
  subst hu
  rfl

/-- 'string(b)' of bytes that the call owns. -/
theorem own_back {w : World} {base n : Nat} {v : Value} {l : List UInt8} (h : w.ownsRow base 5 1 v n (Lib.byteCells l)) : Sem.run Tryz.prog (convert 49 9 v) w = .ok (.string ⟨l.toArray⟩) w := by
  obtain ⟨h1, h2⟩ := h
  rw [Lib.byteCells_length, Nat.mul_one] at h1
  rcases h2 with ⟨rfl, rfl⟩ | ⟨g, cap, cur, rfl, h3, h4, h5, h6, h7, h8⟩
  · have : l = [] := List.eq_nil_of_length_eq_zero h1
    subst this
    exact run_convert_bytes_nil w 49 5 Tryz.underlying49 Tryz.underlying5 0 0 9 Tryz.underlying9
  · subst h1
    refine run_convert_bytes_back w 49 9 5 ⟨g, 0, none⟩ cap l Tryz.underlying49 Tryz.underlying5 Tryz.underlying9 fun j hj => ?_
    rw [addr_add]
    have hc : cur[j]? = some (.int .u8 (l[j].toNat : Int)) := by
      have h9 : (cur.toList.take (l.length * 1))[j]? = (Lib.byteCells l)[j]? := by rw [h8]
      rw [List.getElem?_take_of_lt (by omega)] at h9
      simpa [Lib.byteCells, hj] using h9
    simp [World.cell?, h4, hc]

theorem byteCells_more (l : List UInt8) (b : UInt8) : Lib.byteCells (l ++ [b]) = Lib.byteCells l ++ [.int .u8 (b.toNat : Int)] := by simp [Lib.byteCells]

theorem add0 (b j : Nat) : (⟨b, 0, none⟩ : Addr).add j = ⟨b, j, none⟩ := by unfold Addr.add; split <;> simp_all

/-- '[]byte(s)': a new block with the bytes. -/
theorem conv_bytes (w : World) (s : ByteArray) : ∃ cap W, Sem.run Tryz.prog (convert 9 49 (.string s)) w = .ok (.slice (some ⟨w.heap.size, 0, none⟩) s.size cap) W ∧
    Below w.heap.size w W ∧ W.heap.size = w.heap.size + 1 ∧ ∀ j u, (Lib.byteCells s.data.toList)[j]? = some u → W.cell? ((⟨w.heap.size, 0, none⟩ : Addr).add j) = some u := by
  refine ⟨_, _, run_bytes_of_string w 9 49 5 s Tryz.underlying9 Tryz.underlying49 Tryz.underlying5, (Below.refl _ _).drew.alloc (Nat.le_refl _) _, by simp, ?_⟩
  intro j u hj
  have hlt : j < s.data.size := by
    have := (List.getElem?_eq_some_iff.1 hj).1
    simpa [Lib.byteCells] using this
  rw [add0]
  refine (World.cell?_alloc_mark w.drew _ _ _ j).trans ?_
  rw [bytesRow_at _ _ _ hlt, ← hj]
  simp only [Lib.byteCells, List.getElem?_map, Array.getElem?_toList, Array.getElem?_eq_getElem hlt, Option.map_some]

theorem byteCells_one {l : List UInt8} : ∀ u ∈ Lib.byteCells l, u.oneCell' = true := by
  intro u hu
  simp [Lib.byteCells] at hu
  obtain ⟨b, _, rfl⟩ := hu
  rfl

end Go.Proofs.YtkngdlbedelgnaaGreatDoor.Sg

namespace Go.Proofs.YtkngdlbedelgnaaGreatDoor.Sg
open Go.ChangeShapes Go.WideShapes Go.ChangeAt Go.RowKit

/-- A slice of ints that begins at an address holds just zs. -/
def Ints (w : World) (a : Option Addr) (zs : List Int) : Prop :=
  zs = [] ∨ ∃ b off, a = some ⟨b, off, none⟩ ∧ b < w.heap.size ∧ ∀ i, i < zs.length → w.cell? ⟨b, off + i, none⟩ = some (.int .i64 (zs.getD i 0))

theorem info_int : (Tryz.prog.info? 3).map (fun i => (i.zero, i.size, i.bytes)) = some (some (.int .i64 0), 1, 8) := by kernel_rfl

end Go.Proofs.YtkngdlbedelgnaaGreatDoor.Sg

namespace Go.Proofs.YtkngdlbedelgnaaGreatDoor.Sg
open Go.ChangeShapes Go.WideShapes Go.ChangeAt Go.RowKit

/-- The bytes of signs, one behind the other. -/
def sgBytes (zs : List Int) : List UInt8 := zs.flatMap fun z => (putS z).data.toList
def textS (zs : List Int) : ByteArray := ⟨(sgBytes zs).toArray⟩

theorem sgBytes_take (zs : List Int) (k : Nat) (hk : k < zs.length) : sgBytes (zs.take (k + 1)) = sgBytes (zs.take k) ++ (putS (zs.getD k 0)).data.toList := by
  unfold sgBytes
  rw [List.take_succ_eq_append_getElem hk, List.flatMap_append]
  simp [hk]

theorem sgBytes_length (zs : List Int) : (sgBytes zs).length ≤ 4 * zs.length := by
  induction zs with
  | nil => simp [sgBytes]
  | cons z zs ih =>
    have := putS_size z
    have e : (putS z).data.toList.length = (putS z).size := Array.length_toList
    have h2 : sgBytes (z :: zs) = (putS z).data.toList ++ sgBytes zs := by simp [sgBytes]
    rw [h2, List.length_append, List.length_cons]
    omega

/-- 'string(b)' of bytes that the call owns. -/
theorem back_bytes {w : World} {base n : Nat} {v : Value} {l : List UInt8} (h : w.ownsRow base 5 1 v n (Lib.byteCells l)) : Sem.run Tryz.prog (convert 49 9 v) w = .ok (.string ⟨l.toArray⟩) w := by
  obtain ⟨h1, h2⟩ := h
  rw [Lib.byteCells_length, Nat.mul_one] at h1
  rcases h2 with ⟨rfl, rfl⟩ | ⟨g, cap, cur, rfl, h3, h4, h5, h6, h7, h8⟩
  · have : l = [] := List.eq_nil_of_length_eq_zero h1
    subst this
    exact run_convert_bytes_nil w 49 5 Tryz.underlying49 Tryz.underlying5 0 0 9 Tryz.underlying9
  · subst h1
    refine run_convert_bytes_back w 49 9 5 ⟨g, 0, none⟩ cap l Tryz.underlying49 Tryz.underlying5 Tryz.underlying9 fun j hj => ?_
    rw [add0]
    have hc : cur[j]? = some (.int .u8 (l[j].toNat : Int)) := by
      have h9 : (cur.toList.take (l.length * 1))[j]? = (Lib.byteCells l)[j]? := by rw [h8]
      rw [List.getElem?_take_of_lt (by omega)] at h9
      simpa [Lib.byteCells, hj] using h9
    simp [World.cell?, h4, hc]

theorem info_u8 : (Tryz.prog.info? 5).map (fun i => (i.zero, i.size, i.bytes)) = some (some (.int .u8 0), 1, 1) := by kernel_rfl

set_option maxHeartbeats 1000000 in
theorem specSignText (zs : List Int) (a : Option Addr) (ca : Nat) (w : World) (ha : Ints w a zs) (hn : zs.length ≤ 17592186044416) :
    Calls Tryz.prog 120 #[.slice a zs.length ca] w fun e w' => e = .returned (.string (textS zs)) ∧ Below w.heap.size w w' := by
  obtain ⟨i0, hi0, hz0, hz1, hz2⟩ := info_parts info_u8
  have Hi : Hid (Tryz.prog.info? 5 = some i0) := hi0
  have Hz0 : Hid (i0.zero = some (.int .u8 0)) := hz0
  have Hz1 : Hid (i0.size = 1) := hz1
  have Hz2 : Hid (i0.bytes = 1) := hz2
  clear hi0 hz0 hz1 hz2
  generalize hlen : zs.length = n at *
  have Hlen : Hid (zs.length = n) := hlen
  clear hlen
  go_enter Tryz.func120, Tryz.ntmps120
  go_wp2
  go_loopw [3, 4] (fun v i wr => ∃ k : Nat, k ≤ n ∧ i = .int .i64 k ∧ wr.ownsRow w.heap.size 5 1 v (sgBytes (zs.take k)).length (Lib.byteCells (sgBytes (zs.take k))) ∧ Below w.heap.size w wr) (fun _ i _ => n - (intOf i).toNat)
  case atStart =>
    refine ⟨0, Nat.zero_le _, rfl, ⟨rfl, .inr ⟨w.heap.size, 0, #[], rfl, Nat.le_refl _, ?_, Nat.le_refl _, Nat.zero_le _, rfl, rfl⟩⟩, (Below.refl _ _).alloc (Nat.le_refl _) _⟩
    show (w.heap.push _)[w.heap.size]? = _
    simp
  case round =>
    obtain ⟨k, hk, rfl, hown, hbel⟩ := hrel
    by_cases hlt : k < n
    · rcases ha with ha | ⟨ba, oa, rfl, hba, hca⟩
      · have := Hlen.out
        rw [ha] at this
        simp at this
        omega
      have hca' := hca k (by rw [Hlen.out]; exact hlt)
      have h1 : wr.cell? ⟨ba, oa + k, none⟩ = some (.int .i64 (zs.getD k 0)) := (hbel.cell (by exact hba)).trans hca'
      have hst := sgBytes_take zs k (by rw [Hlen.out]; exact hlt)
      have hle := sgBytes_length (zs.take k)
      have hle2 : (zs.take k).length ≤ k := List.length_take_le _ _
      clear hca hca'
      have hps := putS_size (zs.getD k 0)
      generalize hz : zs.getD k 0 = z at *
      clear hz
      have Hst : Hid (sgBytes (zs.take (k + 1)) = sgBytes (zs.take k) ++ (putS z).data.toList) := hst
      clear hst
      generalize hacc : sgBytes (zs.take k) = acc at *
      clear hacc
      go_wp2_with fail
      refine (specPutSign z _).mono ?_
      rintro e w1 ⟨rfl, hb1⟩
      generalize hs : putS z = s at *
      clear hs
      obtain ⟨cap, W, hrun, hbW, hszW, hcW⟩ := conv_bytes w1 s
      have hownW : W.ownsRow w.heap.size 5 1 _ acc.length (Lib.byteCells acc) := owns_below (owns_below hown (Nat.le_refl _) hb1) (Nat.le_refl _) hbW
      have hbelW : Below w.heap.size w W := (hbel.trans (hb1.mono hbel.size)).trans (hbW.mono (Nat.le_trans hbel.size hb1.size))
      have HcW : Hid (∀ j u, (Lib.byteCells s.data.toList)[j]? = some u → W.cell? ((⟨w1.heap.size, 0, none⟩ : Addr).add j) = some u) := hcW
      clear hcW hbW hb1 hown hbel
      go_wp2_with (at_builtin; refine wpList_append_own _ rfl (.tmp 12) (.tmp 18) 49 rfl w.heap.size 5 i0 (.int .u8 0) 1 1 Tryz.underlying49 Hi.out Hz0.out Hz1.out Hz2.out rfl (by decide) _ acc.length (Lib.byteCells acc) rfl hownW ⟨w1.heap.size, 0, none⟩ s.size cap (Lib.byteCells s.data.toList) rfl ?c1 HcW.out byteCells_one ?c3 ?c4 hbelW.size ?_)
      case c1 => rw [Lib.byteCells_length, Nat.mul_one]; exact Array.length_toList
      case c3 => unfold maxLen; omega
      case c4 => omega
      intro v' w2 hown' hgrow _
      have hbel2 : Below w.heap.size w w2 := hbelW.grown hgrow hbelW.size (by
        intro r hr
        obtain ⟨_, h⟩ := hownW
        rcases h with ⟨h, _⟩ | ⟨g, _, _, h, hg, _⟩
        · rw [h] at hr
          simp [Value.ownBlock] at hr
        · rw [h] at hr
          simp [Value.ownBlock] at hr
          omega)
      have hown2 : w2.ownsRow w.heap.size 5 1 v' (sgBytes (zs.take (k + 1))).length (Lib.byteCells (sgBytes (zs.take (k + 1)))) := by
        rw [Hst.out]
        have e1 : (acc ++ s.data.toList).length = acc.length + s.size := by rw [List.length_append]; exact congrArg _ Array.length_toList
        have e2 : Lib.byteCells (acc ++ s.data.toList) = Lib.byteCells acc ++ Lib.byteCells s.data.toList := by simp [Lib.byteCells]
        rw [e1, e2]
        exact hown'
      clear hown' hgrow hownW hbelW hrun
      go_wp2
      go_roundw
      case rel => exact ⟨k + 1, by omega, by go_num, hown2, hbel2⟩
      case measure => simp [intOf]; omega
    · have hkn : k = n := by omega
      subst hkn
      have hall : zs.take k = zs := List.take_of_length_le (by rw [Hlen.out]; exact Nat.le_refl _)
      rw [hall] at hown
      have hbk := back_bytes hown
      clear hown hall
      go_wp2
      go_ret
      exact ⟨rfl, hbel⟩

end Go.Proofs.YtkngdlbedelgnaaGreatDoor.Sg

namespace Go.Proofs.YtkngdlbedelgnaaGreatDoor.Sg

/-- The byte at a place, as a number. -/
def bN (s : ByteArray) (i : Nat) : Nat := (s.get! i).toNat

theorem bN_lt (s : ByteArray) (i : Nat) : bN s i < 256 := UInt8.toNat_lt _
theorem bN_eq (s : ByteArray) (i : Nat) (h : i < s.size) : (s[i]'h).toNat = bN s i := by
  unfold bN
  rw [show s.get! i = s[i]'h from by simp [ByteArray.get!, ByteArray.getElem_eq_getElem_data, ByteArray.size_data, h]]

/-- A number lies between two. -/
def inB (x lo hi : Int) : Bool := decide (lo ≤ x ∧ x ≤ hi)
theorem inB_yes {x lo hi : Int} (h : lo ≤ x ∧ x ≤ hi) : inB x lo hi = true := decide_eq_true h
theorem inB_no {x lo hi : Int} (h : ¬ (lo ≤ x ∧ x ≤ hi)) : inB x lo hi = false := decide_eq_false h

/-- How many bytes a sign has that begins with a byte; 0: none does. -/
def manyN (b : Nat) : Nat := if b < 128 then 1 else if b < 194 then 0 else if b < 224 then 2 else if b < 240 then 3 else if b < 245 then 4 else 0
def loN (a : Nat) : Nat := if a = 224 then 160 else if a = 240 then 144 else 128
def hiN (a : Nat) : Nat := if a = 237 then 159 else if a = 244 then 143 else 191

/-- Byte k of a sign that begins with b0 fits. -/
def fits (b0 k b : Nat) : Bool := if k = 1 then decide (loN b0 ≤ b ∧ b ≤ hiN b0) else decide (128 ≤ b ∧ b ≤ 191)

/-- Reading on from byte k, with what was read so far. -/
def getR (s : ByteArray) (i M : Nat) : Nat → Nat → Nat → Nat × Nat
  | 0, _, acc => (acc, M)
  | f + 1, k, acc => if k < M then (if i + k < s.size ∧ fits (bN s i) k (bN s (i + k)) = true then getR s i M f (k + 1) (acc * 64 + bN s (i + k) % 64) else (65533, k)) else (acc, M)

/-- The sign at place i of s, and how many bytes it takes. -/
def getS (s : ByteArray) (i : Nat) : Nat × Nat :=
  if manyN (bN s i) < 2 then (if manyN (bN s i) = 1 then (bN s i, 1) else (65533, 1))
  else getR s i (manyN (bN s i)) (manyN (bN s i) - 1) 1 (bN s i % (128 / 2 ^ manyN (bN s i)))

/-- How many bytes are the beginning of a sign. -/
def begR (s : ByteArray) (i M : Nat) : Nat → Nat → Nat
  | 0, k => k
  | f + 1, k => if k < M ∧ i + k < s.size ∧ fits (bN s i) k (bN s (i + k)) = true then begR s i M f (k + 1) else k

theorem many_cases (b : Nat) (hb : b < 256) : (b < 128 ∧ manyN b = 1) ∨ (((128 ≤ b ∧ b < 194) ∨ 245 ≤ b) ∧ manyN b = 0) ∨ (194 ≤ b ∧ b < 224 ∧ manyN b = 2) ∨ (224 ≤ b ∧ b < 240 ∧ manyN b = 3) ∨ (240 ≤ b ∧ b < 245 ∧ manyN b = 4) := by
  unfold manyN
  repeat' split
  all_goals omega

/-- One or more bytes are taken, and none behind the text's end. -/
theorem getR_many (s : ByteArray) (i M : Nat) : ∀ (f k acc : Nat), 1 ≤ k → k ≤ M → i + k ≤ s.size → M ≤ k + f → 1 ≤ (getR s i M f k acc).2 ∧ i + (getR s i M f k acc).2 ≤ s.size
  | 0, k, acc, h1, h2, h3, h4 => by
    simp only [getR]
    omega
  | f + 1, k, acc, h1, h2, h3, h4 => by
    simp only [getR]
    split
    · split
      · exact getR_many s i M f (k + 1) _ (by omega) (by omega) (by omega) (by omega)
      · simp only
        omega
    · simp only
      omega

theorem getS_many (s : ByteArray) (i : Nat) (h : i < s.size) : 1 ≤ (getS s i).2 ∧ i + (getS s i).2 ≤ s.size := by
  unfold getS
  split
  · split
    · simp only
      omega
    · simp only
      omega
  · exact getR_many s i _ _ _ _ (Nat.le_refl _) (by omega) (by omega) (by omega)

theorem dec2 (n b0 b1 b2 b3 : Nat) (hb : 194 ≤ b0) (hb' : b0 < 224) (h1 : b1 < 256) : Lib.decodeN n b0 b1 b2 b3 = if 1 < n ∧ loN b0 ≤ b1 ∧ b1 ≤ hiN b0 then (b0 % 32 * 64 + b1 % 64, 2) else (65533, 1) := by
  have l0 : loN b0 = 128 := by unfold loN; rw [if_neg (by omega), if_neg (by omega)]
  have l1 : hiN b0 = 191 := by unfold hiN; rw [if_neg (by omega), if_neg (by omega)]
  rw [l0, l1]
  unfold Lib.decodeN
  rw [if_neg (by omega)]
  by_cases c : 1 < n ∧ 128 ≤ b1 ∧ b1 ≤ 191
  · rw [if_pos c, if_pos (by omega), if_pos (by omega)]
  · rw [if_neg c, if_neg (by omega), if_neg (by omega), if_neg (by omega)]

theorem dec3 (n b0 b1 b2 b3 : Nat) (hb : 224 ≤ b0) (hb' : b0 < 240) (h1 : b1 < 256) (h2 : b2 < 256) :
    Lib.decodeN n b0 b1 b2 b3 = if (1 < n ∧ loN b0 ≤ b1 ∧ b1 ≤ hiN b0) ∧ (2 < n ∧ 128 ≤ b2 ∧ b2 ≤ 191) then ((b0 % 16 * 64 + b1 % 64) * 64 + b2 % 64, 3) else (65533, 1) := by
  have l : (b0 = 224 ∧ loN b0 = 160 ∧ hiN b0 = 191) ∨ (b0 = 237 ∧ loN b0 = 128 ∧ hiN b0 = 159) ∨ (b0 ≠ 224 ∧ b0 ≠ 237 ∧ loN b0 = 128 ∧ hiN b0 = 191) := by
    unfold loN hiN
    repeat' split
    all_goals omega
  unfold Lib.decodeN
  rw [if_neg (by omega), if_neg (by omega)]
  by_cases c : (1 < n ∧ loN b0 ≤ b1 ∧ b1 ≤ hiN b0) ∧ (2 < n ∧ 128 ≤ b2 ∧ b2 ≤ 191)
  · rw [if_pos c, if_pos (by omega), if_pos (by omega)]
    congr 1
    omega
  · rw [if_neg c]
    by_cases d : b0 / 16 = 14 ∧ (1 < n ∧ b1 / 64 = 2) ∧ (2 < n ∧ b2 / 64 = 2)
    · rw [if_pos d, if_neg (by omega)]
    · rw [if_neg d, if_neg (by omega)]

theorem dec4 (n b0 b1 b2 b3 : Nat) (hb : 240 ≤ b0) (hb' : b0 < 245) (h1 : b1 < 256) (h2 : b2 < 256) (h3 : b3 < 256) :
    Lib.decodeN n b0 b1 b2 b3 = if (1 < n ∧ loN b0 ≤ b1 ∧ b1 ≤ hiN b0) ∧ (2 < n ∧ 128 ≤ b2 ∧ b2 ≤ 191) ∧ (3 < n ∧ 128 ≤ b3 ∧ b3 ≤ 191) then (((b0 % 8 * 64 + b1 % 64) * 64 + b2 % 64) * 64 + b3 % 64, 4) else (65533, 1) := by
  have l : (b0 = 240 ∧ loN b0 = 144 ∧ hiN b0 = 191) ∨ (b0 = 244 ∧ loN b0 = 128 ∧ hiN b0 = 143) ∨ (b0 ≠ 240 ∧ b0 ≠ 244 ∧ loN b0 = 128 ∧ hiN b0 = 191) := by
    unfold loN hiN
    repeat' split
    all_goals omega
  unfold Lib.decodeN
  rw [if_neg (by omega), if_neg (by omega), if_neg (by omega)]
  by_cases c : (1 < n ∧ loN b0 ≤ b1 ∧ b1 ≤ hiN b0) ∧ (2 < n ∧ 128 ≤ b2 ∧ b2 ≤ 191) ∧ (3 < n ∧ 128 ≤ b3 ∧ b3 ≤ 191)
  · rw [if_pos c, if_pos (by omega), if_pos (by omega)]
    congr 1
    omega
  · rw [if_neg c]
    by_cases d : b0 / 8 = 30 ∧ (1 < n ∧ b1 / 64 = 2) ∧ (2 < n ∧ b2 / 64 = 2) ∧ (3 < n ∧ b3 / 64 = 2)
    · rw [if_pos d, if_neg (by omega)]
    · rw [if_neg d]

theorem fits_one (b0 b : Nat) : (fits b0 1 b = true) = (loN b0 ≤ b ∧ b ≤ hiN b0) := by simp [fits]
theorem fits_two (b0 b : Nat) : (fits b0 2 b = true) = (128 ≤ b ∧ b ≤ 191) := by simp [fits]
theorem fits_three (b0 b : Nat) : (fits b0 3 b = true) = (128 ≤ b ∧ b ≤ 191) := by simp [fits]

theorem nest4 (A B C : Prop) [Decidable A] [Decidable B] [Decidable C] (v : Nat) :
    (if A then if B then if C then (v, 4) else (65533, 3) else (65533, 2) else (65533, 1)) =
      if (if A ∧ B ∧ C then (v, 4) else (65533, 1)) = (65533, 1) then (65533, if A then if B then if C then 4 else 3 else 2 else 1) else if A ∧ B ∧ C then (v, 4) else (65533, 1) := by
  by_cases a : A <;> by_cases b : B <;> by_cases c : C <;> simp [a, b, c]

/-- Go's own decoder, and the whole beginning where it finds no sign. -/
theorem getS_decode (s : ByteArray) (i : Nat) (h : i < s.size) : getS s i = if (Utf8.decode s i) = (65533, 1) then (65533, begR s i (max 1 (manyN (bN s i))) 3 1) else Utf8.decode s i := by
  rw [Lib.decode_at]
  have h0 := bN_lt s i
  have h1 := bN_lt s (i + 1)
  have h2 := bN_lt s (i + 2)
  have h3 := bN_lt s (i + 3)
  show _ = if Lib.decodeN (s.size - i) (bN s i) (bN s (i + 1)) (bN s (i + 2)) (bN s (i + 3)) = (65533, 1) then _ else Lib.decodeN (s.size - i) (bN s i) (bN s (i + 1)) (bN s (i + 2)) (bN s (i + 3))
  have n1 : (1 < s.size - i) = (i + 1 < s.size) := propext ⟨fun _ => by omega, fun _ => by omega⟩
  have n2 : (2 < s.size - i) = (i + 2 < s.size) := propext ⟨fun _ => by omega, fun _ => by omega⟩
  have n3 : (3 < s.size - i) = (i + 3 < s.size) := propext ⟨fun _ => by omega, fun _ => by omega⟩
  rcases many_cases (bN s i) h0 with ⟨hb, hm⟩ | ⟨hb, hm⟩ | ⟨hb, hb', hm⟩ | ⟨hb, hb', hm⟩ | ⟨hb, hb', hm⟩
  · have hd : ∀ n b1 b2 b3, Lib.decodeN n (bN s i) b1 b2 b3 = (bN s i, 1) := fun n b1 b2 b3 => by
      unfold Lib.decodeN
      rw [if_pos hb]
    rw [hd, if_neg (by simp; omega)]
    unfold getS
    simp [hm]
  · have hd : Lib.decodeN (s.size - i) (bN s i) (bN s (i + 1)) (bN s (i + 2)) (bN s (i + 3)) = (65533, 1) := by
      unfold Lib.decodeN
      rw [if_neg (by omega)]
      repeat' split
      all_goals first | rfl | (exfalso; omega)
    rw [hd, if_pos rfl]
    unfold getS begR
    simp [hm]
  · rw [dec2 _ _ _ _ _ hb hb' h1]
    simp only [n1]
    unfold getS
    rw [hm]
    simp only [getR, begR, Nat.reduceLT, Nat.reduceSub, if_false, if_true, fits_one, Nat.reduceAdd, Nat.reduceLeDiff, Nat.max_eq_right, true_and, false_and, Nat.reducePow, Nat.reduceDiv]
    by_cases c1 : i + 1 < s.size ∧ loN (bN s i) ≤ bN s (i + 1) ∧ bN s (i + 1) ≤ hiN (bN s i)
    · simp only [if_pos c1]
      simp
    · simp only [if_neg c1, if_true]
  · rw [dec3 _ _ _ _ _ hb hb' h1 h2]
    simp only [n1, n2]
    unfold getS
    rw [hm]
    simp only [getR, begR, Nat.reduceLT, Nat.reduceSub, if_false, if_true, fits_one, fits_two, Nat.reduceAdd, Nat.reduceLeDiff, Nat.max_eq_right, true_and, false_and, Nat.reducePow, Nat.reduceDiv]
    by_cases c1 : i + 1 < s.size ∧ loN (bN s i) ≤ bN s (i + 1) ∧ bN s (i + 1) ≤ hiN (bN s i)
    · by_cases c2 : i + 2 < s.size ∧ 128 ≤ bN s (i + 2) ∧ bN s (i + 2) ≤ 191
      · simp only [if_pos c1, if_pos c2, if_pos (And.intro c1 c2)]
        simp
      · have c3 : ¬ ((i + 1 < s.size ∧ loN (bN s i) ≤ bN s (i + 1) ∧ bN s (i + 1) ≤ hiN (bN s i)) ∧ i + 2 < s.size ∧ 128 ≤ bN s (i + 2) ∧ bN s (i + 2) ≤ 191) := fun x => c2 x.2
        simp only [if_pos c1, if_neg c2, if_neg c3, if_true]
    · have c3 : ¬ ((i + 1 < s.size ∧ loN (bN s i) ≤ bN s (i + 1) ∧ bN s (i + 1) ≤ hiN (bN s i)) ∧ i + 2 < s.size ∧ 128 ≤ bN s (i + 2) ∧ bN s (i + 2) ≤ 191) := fun x => c1 x.1
      simp only [if_neg c1, if_neg c3, if_true]
  · rw [dec4 _ _ _ _ _ hb hb' h1 h2 h3]
    simp only [n1, n2, n3]
    unfold getS
    rw [hm]
    simp only [getR, begR, Nat.reduceLT, Nat.reduceSub, if_false, if_true, fits_one, fits_two, fits_three, Nat.reduceAdd, Nat.reduceLeDiff, Nat.max_eq_right, true_and, Nat.reducePow, Nat.reduceDiv]
    exact nest4 _ _ _ _

theorem decode_le (s : ByteArray) (i : Nat) : (Utf8.decode s i).1 ≤ 1114111 := by
  rw [Lib.decode_at]
  have h0 : (s.get! i).toNat < 256 := UInt8.toNat_lt _
  generalize (s.get! i).toNat = b0 at *
  generalize (s.get! (i + 1)).toNat = b1
  generalize (s.get! (i + 2)).toNat = b2
  generalize (s.get! (i + 3)).toNat = b3
  unfold Lib.decodeN
  repeat' split
  all_goals (simp only; omega)

end Go.Proofs.YtkngdlbedelgnaaGreatDoor.Sg
