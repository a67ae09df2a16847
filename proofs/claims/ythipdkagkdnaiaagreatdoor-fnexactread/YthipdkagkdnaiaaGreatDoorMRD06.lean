/- The error that is told of what is refused; told, that makes nothing of it. A string of one byte made of a slice of it. Contracts of PutSign, of the program and of the model: both give the bytes of a sign, or of 65533 for what is none. Bytes that a call owns, in a slice that grows. Slices of ints: what they hold, in memory that came in or that a call owns. Contracts of SignText, of the program and of the model: both give the bytes of the signs, one behind the other. Plain functions of signs: what a sign read at a place is. No program in it. Plain functions: the signs of a text, one behind the other. No program in it. Contracts of the model's GetSign and of what it calls. -/
import Derived.Test.YthipdkagkdnaiaaGreatDoorErIs
import Derived.Test.YthipdkagkdnaiaaGreatDoorGOwn
import Derived.Deep.QuietTactic
import Derived.Test.YthipdkagkdnaiaaGreatDoorSgOk
import Derived.Laws.BytesArg
import Derived.Below
import Derived.Lib.RuneBytes
import Derived.OwnWalk
import Derived.Laws.IdiomStrings
import Derived.Laws.AppendOwn
import Derived.BigQuiet
import Derived.Deep.OwnRows
import Derived.Lib.DecodeN
import Derived.Laws.Entries
import Derived.Laws.Bits128
namespace Go.Proofs.YthipdkagkdnaiaaGreatDoor.Sg
open Go.ChangeShapes Go.WideShapes Go.ChangeAt Go.RowKit

/-- An error of errors.New's make. -/
abbrev errV (a : Addr) : Value := .iface 197 (.pointer (some a))
/-- The variable holds that error. -/
def ErrA (a : Addr) (w : World) : Prop := w.cell? ⟨0, 0, none⟩ = some (errV a)
theorem ErrA.below {a : Addr} {w w' : World} (h : ErrA a w) (hb : Below w.heap.size w w') : ErrA a w' := keep_cell hb h

end Go.Proofs.YthipdkagkdnaiaaGreatDoor.Sg

namespace Go.Proofs.YthipdkagkdnaiaaGreatDoor.Sg
open Go.ChangeShapes Go.WideShapes Go.ChangeAt Go.RowKit

theorem cell_new (w : World) (vs : Array Value) (t : TypeId) (i : Nat) : (w.alloc (.cells vs t)).cell? ⟨w.heap.size, 0 + i, none⟩ = vs[i]? := by
  rw [Nat.zero_add]
  exact World.cell?_alloc_mark w vs t (0, 0) i

theorem conv1 (a : Int) (w : World) : Sem.run Tryz.prog (convert 78 9 (.slice (some ⟨w.heap.size, 0, none⟩) 1 1)) (w.alloc (.cells #[.int .u8 a] 5)) = .ok (.string (strOfNums [a])) (w.alloc (.cells #[.int .u8 a] 5)) :=
  run_convert_bytes_arg _ 78 5 Tryz.underlying78 Tryz.underlying5 _ 0 1 1 [a] rfl (fun i hi => by
    rw [cell_new]
    match i, hi with
    | 0, _ => rfl) 9 Tryz.underlying9

end Go.Proofs.YthipdkagkdnaiaaGreatDoor.Sg

namespace Go.Proofs.YthipdkagkdnaiaaGreatDoor.Sg
open Go.ChangeShapes Go.WideShapes Go.ChangeAt Go.RowKit

/-- The bytes of a sign, as a string. -/
def putS (n : Int) : ByteArray := strOfNums (Lib.encodeRuneZ n)

theorem putS_size (z : Int) : 1 ≤ (putS z).size ∧ (putS z).size ≤ 4 := by
  have := Lib.encodeRuneZ_length z
  have e : (putS z).size = (Lib.encodeRuneZ z).length := by simp [putS, strOfNums, ByteArray.size]
  omega

theorem i64_and63 (n : Int) : bits .and .i64 n 63 = n % 64 := by
  have h63 : (BitVec.ofInt 64 63).toNat = 2 ^ 6 - 1 := by decide
  have key : (BitVec.ofInt 64 n &&& BitVec.ofInt 64 63).toNat = (n % ((2 ^ 64 : Nat) : Int)).toNat % 2 ^ 6 := by
    rw [BitVec.toNat_and, BitVec.toNat_ofInt, h63, Nat.and_two_pow_sub_one_eq_mod]
  show IntKind.i64.wrap ((BitVec.ofInt 64 n &&& BitVec.ofInt 64 63).toNat : Nat) = n % 64
  rw [key, IntKind.wrap_i64]
  omega

theorem conv2 (a b : Int) (w : World) : Sem.run Tryz.prog (convert 78 9 (.slice (some ⟨w.heap.size, 0, none⟩) 2 2)) (w.alloc (.cells #[.int .u8 a, .int .u8 b] 5)) = .ok (.string (strOfNums [a, b])) (w.alloc (.cells #[.int .u8 a, .int .u8 b] 5)) :=
  run_convert_bytes_arg _ 78 5 Tryz.underlying78 Tryz.underlying5 _ 0 2 2 [a, b] rfl (fun i hi => by
    rw [cell_new]
    match i, hi with
    | 0, _ => rfl
    | 1, _ => rfl) 9 Tryz.underlying9

theorem conv3 (a b c : Int) (w : World) : Sem.run Tryz.prog (convert 78 9 (.slice (some ⟨w.heap.size, 0, none⟩) 3 3)) (w.alloc (.cells #[.int .u8 a, .int .u8 b, .int .u8 c] 5)) = .ok (.string (strOfNums [a, b, c])) (w.alloc (.cells #[.int .u8 a, .int .u8 b, .int .u8 c] 5)) :=
  run_convert_bytes_arg _ 78 5 Tryz.underlying78 Tryz.underlying5 _ 0 3 3 [a, b, c] rfl (fun i hi => by
    rw [cell_new]
    match i, hi with
    | 0, _ => rfl
    | 1, _ => rfl
    | 2, _ => rfl) 9 Tryz.underlying9

theorem conv4 (a b c d : Int) (w : World) : Sem.run Tryz.prog (convert 78 9 (.slice (some ⟨w.heap.size, 0, none⟩) 4 4)) (w.alloc (.cells #[.int .u8 a, .int .u8 b, .int .u8 c, .int .u8 d] 5)) = .ok (.string (strOfNums [a, b, c, d])) (w.alloc (.cells #[.int .u8 a, .int .u8 b, .int .u8 c, .int .u8 d] 5)) :=
  run_convert_bytes_arg _ 78 5 Tryz.underlying78 Tryz.underlying5 _ 0 4 4 [a, b, c, d] rfl (fun i hi => by
    rw [cell_new]
    match i, hi with
    | 0, _ => rfl
    | 1, _ => rfl
    | 2, _ => rfl
    | 3, _ => rfl) 9 Tryz.underlying9

/-- The model's own coder and the arithmetic one. -/
theorem encode_eq (n : Int) : Utf8.encode n = putS n := by
  unfold putS strOfNums
  by_cases hv : Utf8.valid n = true
  · have hv' : (0 ≤ n ∧ n < 55296) ∨ (57344 ≤ n ∧ n ≤ 1114111) := by simpa [Utf8.valid] using hv
    unfold Utf8.encode
    rw [if_pos hv]
    obtain ⟨m, rfl⟩ := Int.eq_ofNat_of_zero_le (show 0 ≤ n by omega)
    rw [Int.toNat_natCast]
    by_cases h1 : m < 128
    · rw [if_pos h1, Lib.encodeRuneZ_one (by omega) (by omega)]
      simp
    · rw [if_neg h1]
      by_cases h2 : m < 2048
      · rw [if_pos h2, Lib.encodeRuneZ_two (by omega) (by omega)]
        have e1 : (192 + (m : Int) / 64).toNat = 192 + m / 64 := by omega
        have e2 : (128 + (m : Int) % 64).toNat = 128 + m % 64 := by omega
        simp [e1, e2]
      · rw [if_neg h2]
        by_cases h3 : m < 65536
        · rw [if_pos h3, Lib.encodeRuneZ_three (by omega)]
          have e1 : (224 + (m : Int) / 4096).toNat = 224 + m / 4096 := by omega
          have e2 : (128 + (m : Int) / 64 % 64).toNat = 128 + m / 64 % 64 := by omega
          have e3 : (128 + (m : Int) % 64).toNat = 128 + m % 64 := by omega
          simp [e1, e2, e3]
        · rw [if_neg h3, Lib.encodeRuneZ_four (by omega) (by omega)]
          have e1 : (240 + (m : Int) / 262144).toNat = 240 + m / 262144 := by omega
          have e2 : (128 + (m : Int) / 4096 % 64).toNat = 128 + m / 4096 % 64 := by omega
          have e3 : (128 + (m : Int) / 64 % 64).toNat = 128 + m / 64 % 64 := by omega
          have e4 : (128 + (m : Int) % 64).toNat = 128 + m % 64 := by omega
          simp [e1, e2, e3, e4]
  · have hv' : ¬ ((0 ≤ n ∧ n < 55296) ∨ (57344 ≤ n ∧ n ≤ 1114111)) := by simpa [Utf8.valid] using hv
    unfold Utf8.encode
    rw [if_neg hv, Lib.encodeRuneZ_bad (by omega)]
    rfl

theorem putS_bad {n : Int} (h : okB n = false) : putS n = putS 65533 := by
  have := okB_not h
  unfold putS
  rw [Lib.encodeRuneZ_bad (by omega), Lib.encodeRuneZ_three (by omega)]
  rfl

theorem ret_str {a b : ByteArray} (h : a = b) : Ending.returned (.string a) = .returned (.string b) := by rw [h]

set_option maxHeartbeats 1000000 in
theorem implPutSign (n : Int) (w : World) :
    Calls Tryz.prog 114 #[.int .i64 n] w fun e w' => e = .returned (.string (putS n)) ∧ w' = w := by
  cases ho : okB n
  · have hp := putS_bad ho
    have Hp : Hid (putS n = putS 65533) := hp
    clear hp
    have Ho : Hid (okB n = false) := ho
    clear ho
    go_enter Tryz.func114, Tryz.ntmps114
    go_wp2_with (go_at_call 135; refine (implSignOk _ _).mono ?_; rintro e w' ⟨rfl, rfl⟩; rw [Ho.out])
    go_ret
    exact ⟨ret_str (by rw [Hp.out]; rfl), rfl⟩
  · have hb := okB_of ho
    have h0 : 0 ≤ n := hb.1
    have h1 : n ≤ 1114111 := hb.2.1
    clear hb
    have Ho : Hid (okB n = true) := ho
    clear ho
    go_enter Tryz.func114, Tryz.ntmps114
    go_wp2_with (go_at_call 135; refine (implSignOk _ _).mono ?_; rintro e w' ⟨rfl, rfl⟩; rw [Ho.out])
    go_ret
    exact ⟨ret_str (encode_eq n), rfl⟩

set_option maxHeartbeats 1000000 in
theorem specPutSign (n : Int) (w : World) :
    Calls Tryz.prog 65 #[.int .i64 n] w fun e w' => e = .returned (.string (putS n)) ∧ Below w.heap.size w w' := by
  have c1 := conv1
  have c2 := conv2
  have c3 := conv3
  have c4 := conv4
  have a63 := i64_and63
  cases ho : okB n
  · have hp := putS_bad ho
    have Hp : Hid (putS n = putS 65533) := hp
    clear hp
    have Ho : Hid (okB n = false) := ho
    clear ho
    go_enter Tryz.func65, Tryz.ntmps65
    go_wp2_with (go_at_call 91; refine (specSignOk _ _).mono ?_; rintro e w' ⟨rfl, rfl⟩; rw [Ho.out])
    go_ret
    exact ⟨ret_str (by rw [Hp.out]; rfl), (Below.refl _ _).alloc (Nat.le_refl _) _⟩
  · have hb := okB_of ho
    have h0 : 0 ≤ n := hb.1
    have h1 : n ≤ 1114111 := hb.2.1
    have h2 := hb.2.2
    clear hb
    have Ho : Hid (okB n = true) := ho
    clear ho
    by_cases g1 : n < 128
    · clear h2
      go_enter Tryz.func65, Tryz.ntmps65
      go_wp2_with (go_at_call 91; refine (specSignOk _ _).mono ?_; rintro e w' ⟨rfl, rfl⟩; rw [Ho.out])
      go_ret
      exact ⟨ret_str (by unfold putS; rw [Lib.encodeRuneZ_one (by omega) (by omega)]), (Below.refl _ _).alloc (Nat.le_refl _) _⟩
    · by_cases g2 : n < 2048
      · clear h2
        go_enter Tryz.func65, Tryz.ntmps65
        go_wp2_with (go_at_call 91; refine (specSignOk _ _).mono ?_; rintro e w' ⟨rfl, rfl⟩; rw [Ho.out])
        go_ret
        exact ⟨ret_str (by unfold putS; rw [Lib.encodeRuneZ_two (by omega) (by omega)]), (Below.refl _ _).alloc (Nat.le_refl _) _⟩
      · by_cases g3 : n < 65536
        · have H2 : Hid (n < 55296 ∨ 57343 < n) := h2
          clear h2
          go_enter Tryz.func65, Tryz.ntmps65
          go_wp2_with (go_at_call 91; refine (specSignOk _ _).mono ?_; rintro e w' ⟨rfl, rfl⟩; rw [Ho.out])
          go_ret
          have h2 := H2.out
          exact ⟨ret_str (by unfold putS; rw [Lib.encodeRuneZ_three (by omega)]), (Below.refl _ _).alloc (Nat.le_refl _) _⟩
        · clear h2
          go_enter Tryz.func65, Tryz.ntmps65
          go_wp2_with (go_at_call 91; refine (specSignOk _ _).mono ?_; rintro e w' ⟨rfl, rfl⟩; rw [Ho.out])
          go_ret
          exact ⟨ret_str (by unfold putS; rw [Lib.encodeRuneZ_four (by omega) (by omega)]), (Below.refl _ _).alloc (Nat.le_refl _) _⟩
end Go.Proofs.YthipdkagkdnaiaaGreatDoor.Sg

namespace Go.Proofs.YthipdkagkdnaiaaGreatDoor.Sg
open Go.ChangeShapes Go.WideShapes Go.ChangeAt Go.RowKit

theorem info_byte : (Tryz.prog.info? 5).map (fun i => (i.zero, i.size, i.bytes)) = some (some (.int .u8 0), 1, 1) := by kernel_rfl

theorem addr_add (b j : Nat) : (⟨b, 0, none⟩ : Addr).add j = ⟨b, j, none⟩ := by unfold Addr.add; split <;> simp_all

theorem own_grown {w w2 : World} {B : Nat} {e : TypeId} {v : Value} {n : Nat} {xs : List Value} {B0 : Nat} {w0 : World} (hown : w.ownsRow B e 1 v n xs) (hb : Below B0 w0 w) (hB : B0 ≤ B) (hg : w.grownBy w2 v.ownBlock) (hsz : B0 ≤ w.heap.size) : Below B0 w0 w2 :=
  hb.grown hg hsz (by
    intro r hr
    obtain ⟨_, h⟩ := hown
    rcases h with ⟨h, _⟩ | ⟨g, _, _, h, hg, _⟩
    · rw [h] at hr
      simp [Value.ownBlock] at hr
    · rw [h] at hr
      simp [Value.ownBlock] at hr
      omega)

/-- 'string(b)' of bytes that the call owns. -/
theorem own_back {w : World} {base n : Nat} {v : Value} {l : List UInt8} (h : w.ownsRow base 5 1 v n (Lib.byteCells l)) : Sem.run Tryz.prog (convert 78 9 v) w = .ok (.string ⟨l.toArray⟩) w := by
  obtain ⟨h1, h2⟩ := h
  rw [Lib.byteCells_length, Nat.mul_one] at h1
  rcases h2 with ⟨rfl, rfl⟩ | ⟨g, cap, cur, rfl, h3, h4, h5, h6, h7, h8⟩
  · have : l = [] := List.eq_nil_of_length_eq_zero h1
    subst this
    exact run_convert_bytes_nil w 78 5 Tryz.underlying78 Tryz.underlying5 0 0 9 Tryz.underlying9
  · subst h1
    refine run_convert_bytes_back w 78 9 5 ⟨g, 0, none⟩ cap l Tryz.underlying78 Tryz.underlying5 Tryz.underlying9 fun j hj => ?_
    rw [addr_add]
    have hc : cur[j]? = some (.int .u8 (l[j].toNat : Int)) := by
      have h9 : (cur.toList.take (l.length * 1))[j]? = (Lib.byteCells l)[j]? := by rw [h8]
      rw [List.getElem?_take_of_lt (by omega)] at h9
      simpa [Lib.byteCells, hj] using h9
    simp [World.cell?, h4, hc]

theorem add0 (b j : Nat) : (⟨b, 0, none⟩ : Addr).add j = ⟨b, j, none⟩ := by unfold Addr.add; split <;> simp_all

/-- '[]byte(s)': a new block with the bytes. -/
theorem conv_bytes (w : World) (s : ByteArray) : ∃ cap W, Sem.run Tryz.prog (convert 9 78 (.string s)) w = .ok (.slice (some ⟨w.heap.size, 0, none⟩) s.size cap) W ∧
    Below w.heap.size w W ∧ W.heap.size = w.heap.size + 1 ∧ ∀ j u, (Lib.byteCells s.data.toList)[j]? = some u → W.cell? ((⟨w.heap.size, 0, none⟩ : Addr).add j) = some u := by
  refine ⟨_, _, run_bytes_of_string w 9 78 5 s Tryz.underlying9 Tryz.underlying78 Tryz.underlying5, (Below.refl _ _).drew.alloc (Nat.le_refl _) _, by simp, ?_⟩
  intro j u hj
  have hlt : j < s.data.size := by
    have := (List.getElem?_eq_some_iff.1 hj).1
    simpa [Lib.byteCells] using this
  rw [add0]
  refine (World.cell?_alloc_mark w.drew _ _ _ j).trans ?_
  rw [bytesRow_at _ _ _ hlt, ← hj]
  simp only [Lib.byteCells, List.getElem?_map, Array.getElem?_toList, Array.getElem?_eq_getElem hlt, Option.map_some]

theorem byteCells_one {l : List UInt8} : ∀ u ∈ Lib.byteCells l, u.oneCell' = true := by
  intro u hu
  simp [Lib.byteCells] at hu
  obtain ⟨b, _, rfl⟩ := hu
  rfl

end Go.Proofs.YthipdkagkdnaiaaGreatDoor.Sg

namespace Go.Proofs.YthipdkagkdnaiaaGreatDoor.Sg
open Go.ChangeShapes Go.WideShapes Go.ChangeAt Go.RowKit

/-- A slice of ints that begins at an address holds just zs. -/
def Ints (w : World) (a : Option Addr) (zs : List Int) : Prop :=
  zs = [] ∨ ∃ b off, a = some ⟨b, off, none⟩ ∧ b < w.heap.size ∧ ∀ i, i < zs.length → w.cell? ⟨b, off + i, none⟩ = some (.int .i64 (zs.getD i 0))

theorem info_int : (Tryz.prog.info? 3).map (fun i => (i.zero, i.size, i.bytes)) = some (some (.int .i64 0), 1, 8) := by kernel_rfl

end Go.Proofs.YthipdkagkdnaiaaGreatDoor.Sg

namespace Go.Proofs.YthipdkagkdnaiaaGreatDoor.Sg
open Go.ChangeShapes Go.WideShapes Go.ChangeAt Go.RowKit

/-- The bytes of signs, one behind the other. -/
def sgBytes (zs : List Int) : List UInt8 := zs.flatMap fun z => (putS z).data.toList
def textS (zs : List Int) : ByteArray := ⟨(sgBytes zs).toArray⟩

theorem sgBytes_take (zs : List Int) (k : Nat) (hk : k < zs.length) : sgBytes (zs.take (k + 1)) = sgBytes (zs.take k) ++ (putS (zs.getD k 0)).data.toList := by
  unfold sgBytes
  rw [List.take_succ_eq_append_getElem hk, List.flatMap_append]
  simp [hk]

theorem sgBytes_length (zs : List Int) : (sgBytes zs).length ≤ 4 * zs.length := by
  induction zs with
  | nil => simp [sgBytes]
  | cons z zs ih =>
    have := putS_size z
    have e : (putS z).data.toList.length = (putS z).size := Array.length_toList
    have h2 : sgBytes (z :: zs) = (putS z).data.toList ++ sgBytes zs := by simp [sgBytes]
    rw [h2, List.length_append, List.length_cons]
    omega

/-- 'string(b)' of bytes that the call owns. -/
theorem back_bytes {w : World} {base n : Nat} {v : Value} {l : List UInt8} (h : w.ownsRow base 5 1 v n (Lib.byteCells l)) : Sem.run Tryz.prog (convert 78 9 v) w = .ok (.string ⟨l.toArray⟩) w := by
  obtain ⟨h1, h2⟩ := h
  rw [Lib.byteCells_length, Nat.mul_one] at h1
  rcases h2 with ⟨rfl, rfl⟩ | ⟨g, cap, cur, rfl, h3, h4, h5, h6, h7, h8⟩
  · have : l = [] := List.eq_nil_of_length_eq_zero h1
    subst this
    exact run_convert_bytes_nil w 78 5 Tryz.underlying78 Tryz.underlying5 0 0 9 Tryz.underlying9
  · subst h1
    refine run_convert_bytes_back w 78 9 5 ⟨g, 0, none⟩ cap l Tryz.underlying78 Tryz.underlying5 Tryz.underlying9 fun j hj => ?_
    rw [add0]
    have hc : cur[j]? = some (.int .u8 (l[j].toNat : Int)) := by
      have h9 : (cur.toList.take (l.length * 1))[j]? = (Lib.byteCells l)[j]? := by rw [h8]
      rw [List.getElem?_take_of_lt (by omega)] at h9
      simpa [Lib.byteCells, hj] using h9
    simp [World.cell?, h4, hc]

theorem info_u8 : (Tryz.prog.info? 5).map (fun i => (i.zero, i.size, i.bytes)) = some (some (.int .u8 0), 1, 1) := by kernel_rfl

set_option maxHeartbeats 1000000 in
theorem specSignText (zs : List Int) (a : Option Addr) (ca : Nat) (w : World) (ha : Ints w a zs) (hn : zs.length ≤ 17592186044416) :
    Calls Tryz.prog 132 #[.slice a zs.length ca] w fun e w' => e = .returned (.string (textS zs)) ∧ Below w.heap.size w w' := by
  obtain ⟨i0, hi0, hz0, hz1, hz2⟩ := info_parts info_u8
  have Hi : Hid (Tryz.prog.info? 5 = some i0) := hi0
  have Hz0 : Hid (i0.zero = some (.int .u8 0)) := hz0
  have Hz1 : Hid (i0.size = 1) := hz1
  have Hz2 : Hid (i0.bytes = 1) := hz2
  clear hi0 hz0 hz1 hz2
  generalize hlen : zs.length = n at *
  have Hlen : Hid (zs.length = n) := hlen
  clear hlen
  go_enter Tryz.func132, Tryz.ntmps132
  go_wp2
  go_loopw [3, 4] (fun v i wr => ∃ k : Nat, k ≤ n ∧ i = .int .i64 k ∧ wr.ownsRow w.heap.size 5 1 v (sgBytes (zs.take k)).length (Lib.byteCells (sgBytes (zs.take k))) ∧ Below w.heap.size w wr) (fun _ i _ => n - (intOf i).toNat)
  case atStart =>
    refine ⟨0, Nat.zero_le _, rfl, ⟨rfl, .inr ⟨w.heap.size, 0, #[], rfl, Nat.le_refl _, ?_, Nat.le_refl _, Nat.zero_le _, rfl, rfl⟩⟩, (Below.refl _ _).alloc (Nat.le_refl _) _⟩
    show (w.heap.push _)[w.heap.size]? = _
    simp
  case round =>
    obtain ⟨k, hk, rfl, hown, hbel⟩ := hrel
    by_cases hlt : k < n
    · rcases ha with ha | ⟨ba, oa, rfl, hba, hca⟩
      · have := Hlen.out
        rw [ha] at this
        simp at this
        omega
      have hca' := hca k (by rw [Hlen.out]; exact hlt)
      have h1 : wr.cell? ⟨ba, oa + k, none⟩ = some (.int .i64 (zs.getD k 0)) := (hbel.cell (by exact hba)).trans hca'
      have hst := sgBytes_take zs k (by rw [Hlen.out]; exact hlt)
      have hle := sgBytes_length (zs.take k)
      have hle2 : (zs.take k).length ≤ k := List.length_take_le _ _
      clear hca hca'
      have hps := putS_size (zs.getD k 0)
      generalize hz : zs.getD k 0 = z at *
      clear hz
      have Hst : Hid (sgBytes (zs.take (k + 1)) = sgBytes (zs.take k) ++ (putS z).data.toList) := hst
      clear hst
      generalize hacc : sgBytes (zs.take k) = acc at *
      clear hacc
      go_wp2_with fail
      refine (specPutSign z _).mono ?_
      rintro e w1 ⟨rfl, hb1⟩
      generalize hs : putS z = s at *
      clear hs
      obtain ⟨cap, W, hrun, hbW, hszW, hcW⟩ := conv_bytes w1 s
      have hownW : W.ownsRow w.heap.size 5 1 _ acc.length (Lib.byteCells acc) := owns_below (owns_below hown (Nat.le_refl _) hb1) (Nat.le_refl _) hbW
      have hbelW : Below w.heap.size w W := (hbel.trans (hb1.mono hbel.size)).trans (hbW.mono (Nat.le_trans hbel.size hb1.size))
      have HcW : Hid (∀ j u, (Lib.byteCells s.data.toList)[j]? = some u → W.cell? ((⟨w1.heap.size, 0, none⟩ : Addr).add j) = some u) := hcW
      clear hcW hbW hb1 hown hbel
      go_wp2_with (at_builtin; refine wpList_append_own _ rfl (.tmp 12) (.tmp 18) 78 rfl w.heap.size 5 i0 (.int .u8 0) 1 1 Tryz.underlying78 Hi.out Hz0.out Hz1.out Hz2.out rfl (by decide) _ acc.length (Lib.byteCells acc) rfl hownW ⟨w1.heap.size, 0, none⟩ s.size cap (Lib.byteCells s.data.toList) rfl ?c1 HcW.out byteCells_one ?c3 ?c4 hbelW.size ?_)
      case c1 => rw [Lib.byteCells_length, Nat.mul_one]; exact Array.length_toList
      case c3 => unfold maxLen; omega
      case c4 => omega
      intro v' w2 hown' hgrow _
      have hbel2 : Below w.heap.size w w2 := hbelW.grown hgrow hbelW.size (by
        intro r hr
        obtain ⟨_, h⟩ := hownW
        rcases h with ⟨h, _⟩ | ⟨g, _, _, h, hg, _⟩
        · rw [h] at hr
          simp [Value.ownBlock] at hr
        · rw [h] at hr
          simp [Value.ownBlock] at hr
          omega)
      have hown2 : w2.ownsRow w.heap.size 5 1 v' (sgBytes (zs.take (k + 1))).length (Lib.byteCells (sgBytes (zs.take (k + 1)))) := by
        rw [Hst.out]
        have e1 : (acc ++ s.data.toList).length = acc.length + s.size := by rw [List.length_append]; exact congrArg _ Array.length_toList
        have e2 : Lib.byteCells (acc ++ s.data.toList) = Lib.byteCells acc ++ Lib.byteCells s.data.toList := by simp [Lib.byteCells]
        rw [e1, e2]
        exact hown'
      clear hown' hgrow hownW hbelW hrun
      go_wp2
      go_roundw
      case rel => exact ⟨k + 1, by omega, by go_num, hown2, hbel2⟩
      case measure => simp [intOf]; omega
    · have hkn : k = n := by omega
      subst hkn
      have hall : zs.take k = zs := List.take_of_length_le (by rw [Hlen.out]; exact Nat.le_refl _)
      rw [hall] at hown
      have hbk := back_bytes hown
      clear hown hall
      go_wp2
      go_ret
      exact ⟨rfl, hbel⟩

end Go.Proofs.YthipdkagkdnaiaaGreatDoor.Sg

namespace Go.Proofs.YthipdkagkdnaiaaGreatDoor.Sg

/-- The byte at a place, as a number. -/
def bN (s : ByteArray) (i : Nat) : Nat := (s.get! i).toNat

theorem bN_lt (s : ByteArray) (i : Nat) : bN s i < 256 := UInt8.toNat_lt _
theorem bN_eq (s : ByteArray) (i : Nat) (h : i < s.size) : (s[i]'h).toNat = bN s i := by
  unfold bN
  rw [show s.get! i = s[i]'h from by simp [ByteArray.get!, ByteArray.getElem_eq_getElem_data, ByteArray.size_data, h]]

/-- A number lies between two. -/
def inB (x lo hi : Int) : Bool := decide (lo ≤ x ∧ x ≤ hi)
theorem inB_yes {x lo hi : Int} (h : lo ≤ x ∧ x ≤ hi) : inB x lo hi = true := decide_eq_true h
theorem inB_no {x lo hi : Int} (h : ¬ (lo ≤ x ∧ x ≤ hi)) : inB x lo hi = false := decide_eq_false h

/-- How many bytes a sign has that begins with a byte; 0: none does. -/
def manyN (b : Nat) : Nat := if b < 128 then 1 else if b < 194 then 0 else if b < 224 then 2 else if b < 240 then 3 else if b < 245 then 4 else 0
def loN (a : Nat) : Nat := if a = 224 then 160 else if a = 240 then 144 else 128
def hiN (a : Nat) : Nat := if a = 237 then 159 else if a = 244 then 143 else 191

/-- Byte k of a sign that begins with b0 fits. -/
def fits (b0 k b : Nat) : Bool := if k = 1 then decide (loN b0 ≤ b ∧ b ≤ hiN b0) else decide (128 ≤ b ∧ b ≤ 191)

/-- Reading on from byte k, with what was read so far. -/
def getR (s : ByteArray) (i M : Nat) : Nat → Nat → Nat → Nat × Nat
  | 0, _, acc => (acc, M)
  | f + 1, k, acc => if k < M then (if i + k < s.size ∧ fits (bN s i) k (bN s (i + k)) = true then getR s i M f (k + 1) (acc * 64 + bN s (i + k) % 64) else (65533, k)) else (acc, M)

/-- The sign at place i of s, and how many bytes it takes. -/
def getS (s : ByteArray) (i : Nat) : Nat × Nat :=
  if manyN (bN s i) < 2 then (if manyN (bN s i) = 1 then (bN s i, 1) else (65533, 1))
  else getR s i (manyN (bN s i)) (manyN (bN s i) - 1) 1 (bN s i % (128 / 2 ^ manyN (bN s i)))

/-- How many bytes are the beginning of a sign. -/
def begR (s : ByteArray) (i M : Nat) : Nat → Nat → Nat
  | 0, k => k
  | f + 1, k => if k < M ∧ i + k < s.size ∧ fits (bN s i) k (bN s (i + k)) = true then begR s i M f (k + 1) else k

theorem many_cases (b : Nat) (hb : b < 256) : (b < 128 ∧ manyN b = 1) ∨ (((128 ≤ b ∧ b < 194) ∨ 245 ≤ b) ∧ manyN b = 0) ∨ (194 ≤ b ∧ b < 224 ∧ manyN b = 2) ∨ (224 ≤ b ∧ b < 240 ∧ manyN b = 3) ∨ (240 ≤ b ∧ b < 245 ∧ manyN b = 4) := by
  unfold manyN
  repeat' split
  all_goals omega

/-- One or more bytes are taken, and none behind the text's end. -/
theorem getR_many (s : ByteArray) (i M : Nat) : ∀ (f k acc : Nat), 1 ≤ k → k ≤ M → i + k ≤ s.size → M ≤ k + f → 1 ≤ (getR s i M f k acc).2 ∧ i + (getR s i M f k acc).2 ≤ s.size
  | 0, k, acc, h1, h2, h3, h4 => by
    simp only [getR]
    omega
  | f + 1, k, acc, h1, h2, h3, h4 => by
    simp only [getR]
    split
    · split
      · exact getR_many s i M f (k + 1) _ (by omega) (by omega) (by omega) (by omega)
      · simp only
        omega
    · simp only
      omega

theorem getS_many (s : ByteArray) (i : Nat) (h : i < s.size) : 1 ≤ (getS s i).2 ∧ i + (getS s i).2 ≤ s.size := by
  unfold getS
  split
  · split
    · simp only
      omega
    · simp only
      omega
  · exact getR_many s i _ _ _ _ (Nat.le_refl _) (by omega) (by omega) (by omega)

theorem dec2 (n b0 b1 b2 b3 : Nat) (hb : 194 ≤ b0) (hb' : b0 < 224) (h1 : b1 < 256) : Lib.decodeN n b0 b1 b2 b3 = if 1 < n ∧ loN b0 ≤ b1 ∧ b1 ≤ hiN b0 then (b0 % 32 * 64 + b1 % 64, 2) else (65533, 1) := by
  have l0 : loN b0 = 128 := by unfold loN; rw [if_neg (by omega), if_neg (by omega)]
  have l1 : hiN b0 = 191 := by unfold hiN; rw [if_neg (by omega), if_neg (by omega)]
  rw [l0, l1]
  unfold Lib.decodeN
  rw [if_neg (by omega)]
  by_cases c : 1 < n ∧ 128 ≤ b1 ∧ b1 ≤ 191
  · rw [if_pos c, if_pos (by omega), if_pos (by omega)]
  · rw [if_neg c, if_neg (by omega), if_neg (by omega), if_neg (by omega)]

theorem dec3 (n b0 b1 b2 b3 : Nat) (hb : 224 ≤ b0) (hb' : b0 < 240) (h1 : b1 < 256) (h2 : b2 < 256) :
    Lib.decodeN n b0 b1 b2 b3 = if (1 < n ∧ loN b0 ≤ b1 ∧ b1 ≤ hiN b0) ∧ (2 < n ∧ 128 ≤ b2 ∧ b2 ≤ 191) then ((b0 % 16 * 64 + b1 % 64) * 64 + b2 % 64, 3) else (65533, 1) := by
  have l : (b0 = 224 ∧ loN b0 = 160 ∧ hiN b0 = 191) ∨ (b0 = 237 ∧ loN b0 = 128 ∧ hiN b0 = 159) ∨ (b0 ≠ 224 ∧ b0 ≠ 237 ∧ loN b0 = 128 ∧ hiN b0 = 191) := by
    unfold loN hiN
    repeat' split
    all_goals omega
  unfold Lib.decodeN
  rw [if_neg (by omega), if_neg (by omega)]
  by_cases c : (1 < n ∧ loN b0 ≤ b1 ∧ b1 ≤ hiN b0) ∧ (2 < n ∧ 128 ≤ b2 ∧ b2 ≤ 191)
  · rw [if_pos c, if_pos (by omega), if_pos (by omega)]
    congr 1
    omega
  · rw [if_neg c]
    by_cases d : b0 / 16 = 14 ∧ (1 < n ∧ b1 / 64 = 2) ∧ (2 < n ∧ b2 / 64 = 2)
    · rw [if_pos d, if_neg (by omega)]
    · rw [if_neg d, if_neg (by omega)]

theorem dec4 (n b0 b1 b2 b3 : Nat) (hb : 240 ≤ b0) (hb' : b0 < 245) (h1 : b1 < 256) (h2 : b2 < 256) (h3 : b3 < 256) :
    Lib.decodeN n b0 b1 b2 b3 = if (1 < n ∧ loN b0 ≤ b1 ∧ b1 ≤ hiN b0) ∧ (2 < n ∧ 128 ≤ b2 ∧ b2 ≤ 191) ∧ (3 < n ∧ 128 ≤ b3 ∧ b3 ≤ 191) then (((b0 % 8 * 64 + b1 % 64) * 64 + b2 % 64) * 64 + b3 % 64, 4) else (65533, 1) := by
  have l : (b0 = 240 ∧ loN b0 = 144 ∧ hiN b0 = 191) ∨ (b0 = 244 ∧ loN b0 = 128 ∧ hiN b0 = 143) ∨ (b0 ≠ 240 ∧ b0 ≠ 244 ∧ loN b0 = 128 ∧ hiN b0 = 191) := by
    unfold loN hiN
    repeat' split
    all_goals omega
  unfold Lib.decodeN
  rw [if_neg (by omega), if_neg (by omega), if_neg (by omega)]
  by_cases c : (1 < n ∧ loN b0 ≤ b1 ∧ b1 ≤ hiN b0) ∧ (2 < n ∧ 128 ≤ b2 ∧ b2 ≤ 191) ∧ (3 < n ∧ 128 ≤ b3 ∧ b3 ≤ 191)
  · rw [if_pos c, if_pos (by omega), if_pos (by omega)]
    congr 1
    omega
  · rw [if_neg c]
    by_cases d : b0 / 8 = 30 ∧ (1 < n ∧ b1 / 64 = 2) ∧ (2 < n ∧ b2 / 64 = 2) ∧ (3 < n ∧ b3 / 64 = 2)
    · rw [if_pos d, if_neg (by omega)]
    · rw [if_neg d]

theorem fits_one (b0 b : Nat) : (fits b0 1 b = true) = (loN b0 ≤ b ∧ b ≤ hiN b0) := by simp [fits]
theorem fits_two (b0 b : Nat) : (fits b0 2 b = true) = (128 ≤ b ∧ b ≤ 191) := by simp [fits]
theorem fits_three (b0 b : Nat) : (fits b0 3 b = true) = (128 ≤ b ∧ b ≤ 191) := by simp [fits]

theorem nest4 (A B C : Prop) [Decidable A] [Decidable B] [Decidable C] (v : Nat) :
    (if A then if B then if C then (v, 4) else (65533, 3) else (65533, 2) else (65533, 1)) =
      if (if A ∧ B ∧ C then (v, 4) else (65533, 1)) = (65533, 1) then (65533, if A then if B then if C then 4 else 3 else 2 else 1) else if A ∧ B ∧ C then (v, 4) else (65533, 1) := by
  by_cases a : A <;> by_cases b : B <;> by_cases c : C <;> simp [a, b, c]

/-- Go's own decoder, and the whole beginning where it finds no sign. -/
theorem getS_decode (s : ByteArray) (i : Nat) (h : i < s.size) : getS s i = if (Utf8.decode s i) = (65533, 1) then (65533, begR s i (max 1 (manyN (bN s i))) 3 1) else Utf8.decode s i := by
  rw [Lib.decode_at]
  have h0 := bN_lt s i
  have h1 := bN_lt s (i + 1)
  have h2 := bN_lt s (i + 2)
  have h3 := bN_lt s (i + 3)
  show _ = if Lib.decodeN (s.size - i) (bN s i) (bN s (i + 1)) (bN s (i + 2)) (bN s (i + 3)) = (65533, 1) then _ else Lib.decodeN (s.size - i) (bN s i) (bN s (i + 1)) (bN s (i + 2)) (bN s (i + 3))
  have n1 : (1 < s.size - i) = (i + 1 < s.size) := propext ⟨fun _ => by omega, fun _ => by omega⟩
  have n2 : (2 < s.size - i) = (i + 2 < s.size) := propext ⟨fun _ => by omega, fun _ => by omega⟩
  have n3 : (3 < s.size - i) = (i + 3 < s.size) := propext ⟨fun _ => by omega, fun _ => by omega⟩
  rcases many_cases (bN s i) h0 with ⟨hb, hm⟩ | ⟨hb, hm⟩ | ⟨hb, hb', hm⟩ | ⟨hb, hb', hm⟩ | ⟨hb, hb', hm⟩
  · have hd : ∀ n b1 b2 b3, Lib.decodeN n (bN s i) b1 b2 b3 = (bN s i, 1) := fun n b1 b2 b3 => by
      unfold Lib.decodeN
      rw [if_pos hb]
    rw [hd, if_neg (by simp; omega)]
    unfold getS
    simp [hm]
  · have hd : Lib.decodeN (s.size - i) (bN s i) (bN s (i + 1)) (bN s (i + 2)) (bN s (i + 3)) = (65533, 1) := by
      unfold Lib.decodeN
      rw [if_neg (by omega)]
      repeat' split
      all_goals first | rfl | (exfalso; omega)
    rw [hd, if_pos rfl]
    unfold getS begR
    simp [hm]
  · rw [dec2 _ _ _ _ _ hb hb' h1]
    simp only [n1]
    unfold getS
    rw [hm]
    simp only [getR, begR, Nat.reduceLT, Nat.reduceSub, if_false, if_true, fits_one, Nat.reduceAdd, Nat.reduceLeDiff, Nat.max_eq_right, true_and, false_and, Nat.reducePow, Nat.reduceDiv]
    by_cases c1 : i + 1 < s.size ∧ loN (bN s i) ≤ bN s (i + 1) ∧ bN s (i + 1) ≤ hiN (bN s i)
    · simp only [if_pos c1]
      simp
    · simp only [if_neg c1, if_true]
  · rw [dec3 _ _ _ _ _ hb hb' h1 h2]
    simp only [n1, n2]
    unfold getS
    rw [hm]
    simp only [getR, begR, Nat.reduceLT, Nat.reduceSub, if_false, if_true, fits_one, fits_two, Nat.reduceAdd, Nat.reduceLeDiff, Nat.max_eq_right, true_and, false_and, Nat.reducePow, Nat.reduceDiv]
    by_cases c1 : i + 1 < s.size ∧ loN (bN s i) ≤ bN s (i + 1) ∧ bN s (i + 1) ≤ hiN (bN s i)
    · by_cases c2 : i + 2 < s.size ∧ 128 ≤ bN s (i + 2) ∧ bN s (i + 2) ≤ 191
      · simp only [if_pos c1, if_pos c2, if_pos (And.intro c1 c2)]
        simp
      · have c3 : ¬ ((i + 1 < s.size ∧ loN (bN s i) ≤ bN s (i + 1) ∧ bN s (i + 1) ≤ hiN (bN s i)) ∧ i + 2 < s.size ∧ 128 ≤ bN s (i + 2) ∧ bN s (i + 2) ≤ 191) := fun x => c2 x.2
        simp only [if_pos c1, if_neg c2, if_neg c3, if_true]
    · have c3 : ¬ ((i + 1 < s.size ∧ loN (bN s i) ≤ bN s (i + 1) ∧ bN s (i + 1) ≤ hiN (bN s i)) ∧ i + 2 < s.size ∧ 128 ≤ bN s (i + 2) ∧ bN s (i + 2) ≤ 191) := fun x => c1 x.1
      simp only [if_neg c1, if_neg c3, if_true]
  · rw [dec4 _ _ _ _ _ hb hb' h1 h2 h3]
    simp only [n1, n2, n3]
    unfold getS
    rw [hm]
    simp only [getR, begR, Nat.reduceLT, Nat.reduceSub, if_false, if_true, fits_one, fits_two, fits_three, Nat.reduceAdd, Nat.reduceLeDiff, Nat.max_eq_right, true_and, Nat.reducePow, Nat.reduceDiv]
    exact nest4 _ _ _ _

theorem decode_le (s : ByteArray) (i : Nat) : (Utf8.decode s i).1 ≤ 1114111 := by
  rw [Lib.decode_at]
  have h0 : (s.get! i).toNat < 256 := UInt8.toNat_lt _
  generalize (s.get! i).toNat = b0 at *
  generalize (s.get! (i + 1)).toNat = b1
  generalize (s.get! (i + 2)).toNat = b2
  generalize (s.get! (i + 3)).toNat = b3
  unfold Lib.decodeN
  repeat' split
  all_goals (simp only; omega)

end Go.Proofs.YthipdkagkdnaiaaGreatDoor.Sg

namespace Go.Proofs.YthipdkagkdnaiaaGreatDoor.Sg

/-- The signs from a place on, by at most so many. -/
def signsFrom (s : ByteArray) : Nat → Nat → List Int
  | 0, _ => []
  | f + 1, pos => if pos < s.size then ((getS s pos).1 : Int) :: signsFrom s f (pos + (getS s pos).2) else []

def signsL (s : ByteArray) : List Int := signsFrom s s.size 0

theorem signsFrom_end (s : ByteArray) (f pos : Nat) (h : ¬ pos < s.size) : signsFrom s f pos = [] := by
  cases f with
  | zero => rfl
  | succ f => rw [signsFrom, if_neg h]

/-- More fuel than there are bytes changes nothing. -/
theorem signsFrom_fuel (s : ByteArray) : ∀ (f g pos : Nat), s.size ≤ pos + f → s.size ≤ pos + g → signsFrom s f pos = signsFrom s g pos
  | 0, g, pos, h, _ => by
    rw [signsFrom_end s g pos (by omega), signsFrom_end s 0 pos (by omega)]
  | f + 1, 0, pos, _, h => by
    rw [signsFrom_end s 0 pos (by omega), signsFrom_end s (f + 1) pos (by omega)]
  | f + 1, g + 1, pos, h, h' => by
    by_cases hp : pos < s.size
    · have hm := getS_many s pos hp
      rw [signsFrom, signsFrom, if_pos hp, if_pos hp, signsFrom_fuel s f g _ (by omega) (by omega)]
    · rw [signsFrom_end s _ _ hp, signsFrom_end s _ _ hp]

/-- The signs from a place on. -/
def signsAt (s : ByteArray) (pos : Nat) : List Int := signsFrom s s.size pos

theorem signsAt_zero (s : ByteArray) : signsAt s 0 = signsL s := rfl
theorem signsAt_end (s : ByteArray) (pos : Nat) (h : ¬ pos < s.size) : signsAt s pos = [] := signsFrom_end s _ _ h
theorem signsAt_step (s : ByteArray) (pos : Nat) (h : pos < s.size) : signsAt s pos = ((getS s pos).1 : Int) :: signsAt s (pos + (getS s pos).2) := by
  have hm := getS_many s pos h
  unfold signsAt
  rw [signsFrom_fuel s s.size (s.size + 1) pos (by omega) (by omega)]
  conv => lhs; rw [signsFrom, if_pos h]

/-- No more signs than bytes. -/
theorem signsFrom_length (s : ByteArray) : ∀ (f pos : Nat), (signsFrom s f pos).length ≤ s.size - pos
  | 0, pos => by simp [signsFrom]
  | f + 1, pos => by
    by_cases hp : pos < s.size
    · have hm := getS_many s pos hp
      have ih := signsFrom_length s f (pos + (getS s pos).2)
      rw [signsFrom, if_pos hp, List.length_cons]
      omega
    · rw [signsFrom_end s _ _ hp]
      simp

theorem signsL_length (s : ByteArray) : (signsL s).length ≤ s.size := signsFrom_length s _ _

/-- What is read is a sign's number. -/
theorem getS_le (s : ByteArray) (i : Nat) (h : i < s.size) : (getS s i).1 ≤ 1114111 := by
  rw [getS_decode s i h]
  split
  · simp
  · exact decode_le s i

/-- Bytes within the beginning of a sign come behind another. -/
theorem begR_span (s : ByteArray) (i M : Nat) : ∀ (f k : Nat), 1 ≤ k → ∀ j, k ≤ j → j < begR s i M f k → i + j < s.size ∧ 128 ≤ bN s (i + j) ∧ bN s (i + j) ≤ 191
  | 0, k, _, j, h1, h2 => by
    simp only [begR] at h2
    omega
  | f + 1, k, hk, j, h1, h2 => by
    rw [begR] at h2
    split at h2
    · rename_i hc
      by_cases e : j = k
      · subst e
        refine ⟨hc.2.1, ?_⟩
        have hf := hc.2.2
        unfold fits at hf
        have l0 : 128 ≤ loN (bN s i) := by unfold loN; split; omega; split <;> omega
        have l1 : hiN (bN s i) ≤ 191 := by unfold hiN; split; omega; split <;> omega
        split at hf
        · rw [decide_eq_true_eq] at hf
          omega
        · rw [decide_eq_true_eq] at hf
          exact hf
      · exact begR_span s i M f (k + 1) (by omega) j (by omega) h2
    · omega

theorem begR_pos (s : ByteArray) (i M : Nat) : ∀ (f k : Nat), k ≤ begR s i M f k
  | 0, k => Nat.le_refl _
  | f + 1, k => by
    rw [begR]
    split
    · exact Nat.le_trans (Nat.le_succ k) (begR_pos s i M f (k + 1))
    · exact Nat.le_refl _

/-- Where such a byte stands Go's decoder takes it alone. -/
theorem decode_behind (s : ByteArray) (i : Nat) (h1 : 128 ≤ bN s i) (h2 : bN s i ≤ 191) : Utf8.decode s i = (65533, 1) := by
  rw [Lib.decode_at]
  unfold bN at h1 h2
  unfold Lib.decodeN
  rw [if_neg (by omega), if_neg (by omega), if_neg (by omega), if_neg (by omega)]

theorem decode_pos (s : ByteArray) (i : Nat) : 1 ≤ (Utf8.decode s i).2 := by
  rw [Lib.decode_at]
  unfold Lib.decodeN
  repeat' split
  all_goals simp

/-- Signs at a place where Go's decoder finds one. -/
theorem getS_good (s : ByteArray) (i : Nat) (h : i < s.size) (hd : (Utf8.decode s i).1 ≠ 65533) : getS s i = Utf8.decode s i := by
  rw [getS_decode s i h, if_neg (fun e => hd (by rw [e]))]

/-- Signs at a place where it tells 65533: that sign itself, or a beginning. -/
theorem getS_bad (s : ByteArray) (i : Nat) (h : i < s.size) (hd : (Utf8.decode s i).1 = 65533) :
    (getS s i).1 = 65533 ∧ (Utf8.decode s i).2 ≤ (getS s i).2 ∧ ∀ j, i + (Utf8.decode s i).2 ≤ j → j < i + (getS s i).2 → 128 ≤ bN s j ∧ bN s j ≤ 191 := by
  rw [getS_decode s i h]
  by_cases e : Utf8.decode s i = (65533, 1)
  · rw [if_pos e, e]
    refine ⟨rfl, begR_pos _ _ _ _ _, fun j h1 h2 => ?_⟩
    obtain ⟨t, rfl⟩ : ∃ t, j = i + t := ⟨j - i, by omega⟩
    exact (begR_span s i (max 1 (manyN (bN s i))) 3 1 (Nat.le_refl _) t (by simp only at h1; omega) (by simp only at h2; omega)).2
  · rw [if_neg e]
    exact ⟨hd, Nat.le_refl _, fun j h1 h2 => by omega⟩

end Go.Proofs.YthipdkagkdnaiaaGreatDoor.Sg

namespace Go.Proofs.YthipdkagkdnaiaaGreatDoor.Sg
open Go.ChangeShapes Go.WideShapes Go.ChangeAt Go.RowKit

set_option maxHeartbeats 1000000 in
theorem l1In_any (x lo hi : Int) (w : World) :
    Calls Tryz.prog 69 #[.int .i64 x, .int .i64 lo, .int .i64 hi] w fun e w' => e = .returned (.bool (inB x lo hi)) ∧ w' = w := by
  by_cases h1 : lo ≤ x
  · by_cases h2 : x ≤ hi
    · have ho : inB x lo hi = true := inB_yes ⟨h1, h2⟩
      rw [ho]
      go_enter Tryz.func69, Tryz.ntmps69
      go_wp2
      go_ret
      exact ⟨rfl, rfl⟩
    · have ho : inB x lo hi = false := inB_no (by omega)
      rw [ho]
      go_enter Tryz.func69, Tryz.ntmps69
      go_wp2
      go_ret
      exact ⟨rfl, rfl⟩
  · have ho : inB x lo hi = false := inB_no (by omega)
    rw [ho]
    have hd : decide (lo ≤ x) = false := by simpa using h1
    go_enter Tryz.func69, Tryz.ntmps69
    go_wp2
    go_ret
    exact ⟨rfl, rfl⟩

set_option maxHeartbeats 2000000 in
theorem l1Many_any (b : Nat) (w : World) (hb : b < 256) :
    Calls Tryz.prog 87 #[.int .i64 (b : Int)] w fun e w' => e = .returned (.int .i64 (manyN b : Int)) ∧ w' = w := by
  rcases many_cases b hb with ⟨h, hm⟩ | ⟨h, hm⟩ | ⟨h, h', hm⟩ | ⟨h, h', hm⟩ | ⟨h, h', hm⟩
  · rw [hm]
    clear hm
    have h0 : (b : Int) < 128 := by omega
    go_enter Tryz.func87, Tryz.ntmps87
    go_wp2_with fail
    go_ret
    exact ⟨rfl, rfl⟩
  · rw [hm]
    clear hm
    have i1 : inB (b : Int) 194 223 = false := inB_no (by omega)
    have i2 : inB (b : Int) 224 239 = false := inB_no (by omega)
    have i3 : inB (b : Int) 240 244 = false := inB_no (by omega)
    have h0 : ¬ ((b : Int) < 128) := by omega
    go_enter Tryz.func87, Tryz.ntmps87
    go_wp2_with (go_at_call 69; refine (l1In_any _ _ _ _).mono ?_; rintro e w' ⟨rfl, rfl⟩)
    go_ret
    exact ⟨rfl, rfl⟩
  · rw [hm]
    clear hm
    have i1 : inB (b : Int) 194 223 = true := inB_yes (by omega)
    have h0 : ¬ ((b : Int) < 128) := by omega
    go_enter Tryz.func87, Tryz.ntmps87
    go_wp2_with (go_at_call 69; refine (l1In_any _ _ _ _).mono ?_; rintro e w' ⟨rfl, rfl⟩)
    go_ret
    exact ⟨rfl, rfl⟩
  · rw [hm]
    clear hm
    have i1 : inB (b : Int) 194 223 = false := inB_no (by omega)
    have i2 : inB (b : Int) 224 239 = true := inB_yes (by omega)
    have h0 : ¬ ((b : Int) < 128) := by omega
    go_enter Tryz.func87, Tryz.ntmps87
    go_wp2_with (go_at_call 69; refine (l1In_any _ _ _ _).mono ?_; rintro e w' ⟨rfl, rfl⟩)
    go_ret
    exact ⟨rfl, rfl⟩
  · rw [hm]
    clear hm
    have i1 : inB (b : Int) 194 223 = false := inB_no (by omega)
    have i2 : inB (b : Int) 224 239 = false := inB_no (by omega)
    have i3 : inB (b : Int) 240 244 = true := inB_yes (by omega)
    have h0 : ¬ ((b : Int) < 128) := by omega
    go_enter Tryz.func87, Tryz.ntmps87
    go_wp2_with (go_at_call 69; refine (l1In_any _ _ _ _).mono ?_; rintro e w' ⟨rfl, rfl⟩)
    go_ret
    exact ⟨rfl, rfl⟩

theorem span_cases (a : Nat) : (a = 224 ∧ loN a = 160 ∧ hiN a = 191) ∨ (a = 237 ∧ loN a = 128 ∧ hiN a = 159) ∨ (a = 240 ∧ loN a = 144 ∧ hiN a = 191) ∨ (a = 244 ∧ loN a = 128 ∧ hiN a = 143) ∨
    (((a : Int) == 224) = false ∧ ((a : Int) == 237) = false ∧ ((a : Int) == 240) = false ∧ ((a : Int) == 244) = false ∧ loN a = 128 ∧ hiN a = 191) := by
  have e : ∀ k : Int, ((a : Int) == k) = false ↔ (a : Int) ≠ k := fun k => beq_eq_false_iff_ne
  simp only [e]
  unfold loN hiN
  repeat' split
  all_goals omega

set_option maxHeartbeats 2000000 in
theorem l1Second_any (a b : Nat) (w : World) :
    Calls Tryz.prog 88 #[.int .i64 (a : Int), .int .i64 (b : Int)] w fun e w' => e = .returned (.bool (fits a 1 b)) ∧ w' = w := by
  have hf : fits a 1 b = inB (b : Int) (loN a : Int) (hiN a : Int) := by
    unfold fits inB
    rw [if_pos rfl]
    exact decide_eq_decide.2 (by omega)
  rw [hf]
  clear hf
  rcases span_cases a with ⟨rfl, h1, h2⟩ | ⟨rfl, h1, h2⟩ | ⟨rfl, h1, h2⟩ | ⟨rfl, h1, h2⟩ | ⟨g1, g2, g3, g4, h1, h2⟩
  all_goals
    rw [h1, h2]
    clear h1 h2
    go_enter Tryz.func88, Tryz.ntmps88
    go_wp2_with (go_at_call 69; refine (l1In_any _ _ _ _).mono ?_; rintro e w' ⟨rfl, rfl⟩)
    go_ret
    exact ⟨rfl, rfl⟩

end Go.Proofs.YthipdkagkdnaiaaGreatDoor.Sg
