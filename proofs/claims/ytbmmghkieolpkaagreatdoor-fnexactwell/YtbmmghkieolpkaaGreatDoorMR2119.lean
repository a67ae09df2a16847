/- Contracts of SignText, of the program and of the model: both give the bytes of the signs, one behind the other. Plain functions of signs: what a sign read at a place is. No program in it. Plain functions: the signs of a text, one behind the other. No program in it. Contracts of the model's GetSign and of what it calls. The model's GetSign at every text and place. The library's contracts at this dump, laid by its own tool, those that are used. -/
import Derived.Test.YtbmmghkieolpkaaGreatDoorMR2106
import Derived.Laws.IdiomStrings
import Derived.Laws.AppendOwn
import Derived.Lib.DecodeN
import Derived.Laws.Entries
import Derived.Test.YtbmmghkieolpkaaGreatDoorSgOk
import Derived.Laws.Bits128
import Derived.Shelf.Strings.Builder1
import Derived.Shelf.Small.Bits
import Derived.Shelf.Small.Strs
import Derived.Shelf.Small.Wraps
import Derived.Shelf.Strings.BuilderF
import Derived.Shelf.Strings.BuilderK
import Derived.Shelf.Strconv.Itoa0
import Derived.Shelf.Strings.Search1
import Derived.Shelf.Strings.Search2
import Derived.Shelf.Strings.Search3
import Derived.Shelf.Strings.Cut
import Derived.Shelf.LaysM
import Derived.Shelf.Strings.Shaped
import Derived.Shelf.Sort.Plain
import Derived.Shelf.Strings.Prefix
import Derived.Shelf.Unicode.Decode
import Derived.Shelf.Unicode.DecodeSlow
import Derived.Shelf.Unicode.DecodeAny
import Derived.Shelf.Slices.CompactS
import Derived.Shelf.Slices.In.SortNone
import Derived.Test.YtbmmghkieolpkaaGreatDoorProg
namespace Go.Proofs.YtbmmghkieolpkaaGreatDoor.Sg
open Go.ChangeShapes Go.WideShapes Go.ChangeAt Go.RowKit

/-- The bytes of signs, one behind the other. -/
def sgBytes (zs : List Int) : List UInt8 := zs.flatMap fun z => (putS z).data.toList
def textS (zs : List Int) : ByteArray := ⟨(sgBytes zs).toArray⟩

theorem sgBytes_take (zs : List Int) (k : Nat) (hk : k < zs.length) : sgBytes (zs.take (k + 1)) = sgBytes (zs.take k) ++ (putS (zs.getD k 0)).data.toList := by
  unfold sgBytes
  rw [List.take_succ_eq_append_getElem hk, List.flatMap_append]
  simp [hk]

theorem sgBytes_length (zs : List Int) : (sgBytes zs).length ≤ 4 * zs.length := by
  induction zs with
  | nil => simp [sgBytes]
  | cons z zs ih =>
    have := putS_size z
    have e : (putS z).data.toList.length = (putS z).size := Array.length_toList
    have h2 : sgBytes (z :: zs) = (putS z).data.toList ++ sgBytes zs := by simp [sgBytes]
    rw [h2, List.length_append, List.length_cons]
    omega

/-- 'string(b)' of bytes that the call owns. -/
theorem back_bytes {w : World} {base n : Nat} {v : Value} {l : List UInt8} (h : w.ownsRow base 5 1 v n (Lib.byteCells l)) : Sem.run Tryz.prog (convert 78 9 v) w = .ok (.string ⟨l.toArray⟩) w := by
  obtain ⟨h1, h2⟩ := h
  rw [Lib.byteCells_length, Nat.mul_one] at h1
  rcases h2 with ⟨rfl, rfl⟩ | ⟨g, cap, cur, rfl, h3, h4, h5, h6, h7, h8⟩
  · have : l = [] := List.eq_nil_of_length_eq_zero h1
    subst this
    exact run_convert_bytes_nil w 78 5 Tryz.underlying78 Tryz.underlying5 0 0 9 Tryz.underlying9
  · subst h1
    refine run_convert_bytes_back w 78 9 5 ⟨g, 0, none⟩ cap l Tryz.underlying78 Tryz.underlying5 Tryz.underlying9 fun j hj => ?_
    rw [add0]
    have hc : cur[j]? = some (.int .u8 (l[j].toNat : Int)) := by
      have h9 : (cur.toList.take (l.length * 1))[j]? = (Lib.byteCells l)[j]? := by rw [h8]
      rw [List.getElem?_take_of_lt (by omega)] at h9
      simpa [Lib.byteCells, hj] using h9
    simp [World.cell?, h4, hc]

theorem info_u8 : (Tryz.prog.info? 5).map (fun i => (i.zero, i.size, i.bytes)) = some (some (.int .u8 0), 1, 1) := by kernel_rfl

set_option maxHeartbeats 1000000 in
theorem specSignText (zs : List Int) (a : Option Addr) (ca : Nat) (w : World) (ha : Ints w a zs) (hn : zs.length ≤ 17592186044416) :
    Calls Tryz.prog 132 #[.slice a zs.length ca] w fun e w' => e = .returned (.string (textS zs)) ∧ Below w.heap.size w w' := by
  obtain ⟨i0, hi0, hz0, hz1, hz2⟩ := info_parts info_u8
  have Hi : Hid (Tryz.prog.info? 5 = some i0) := hi0
  have Hz0 : Hid (i0.zero = some (.int .u8 0)) := hz0
  have Hz1 : Hid (i0.size = 1) := hz1
  have Hz2 : Hid (i0.bytes = 1) := hz2
  clear hi0 hz0 hz1 hz2
  generalize hlen : zs.length = n at *
  have Hlen : Hid (zs.length = n) := hlen
  clear hlen
  go_enter Tryz.func132, Tryz.ntmps132
  go_wp2
  go_loopw [3, 4] (fun v i wr => ∃ k : Nat, k ≤ n ∧ i = .int .i64 k ∧ wr.ownsRow w.heap.size 5 1 v (sgBytes (zs.take k)).length (Lib.byteCells (sgBytes (zs.take k))) ∧ Below w.heap.size w wr) (fun _ i _ => n - (intOf i).toNat)
  case atStart =>
    refine ⟨0, Nat.zero_le _, rfl, ⟨rfl, .inr ⟨w.heap.size, 0, #[], rfl, Nat.le_refl _, ?_, Nat.le_refl _, Nat.zero_le _, rfl, rfl⟩⟩, (Below.refl _ _).alloc (Nat.le_refl _) _⟩
    show (w.heap.push _)[w.heap.size]? = _
    simp
  case round =>
    obtain ⟨k, hk, rfl, hown, hbel⟩ := hrel
    by_cases hlt : k < n
    · rcases ha with ha | ⟨ba, oa, rfl, hba, hca⟩
      · have := Hlen.out
        rw [ha] at this
        simp at this
        omega
      have hca' := hca k (by rw [Hlen.out]; exact hlt)
      have h1 : wr.cell? ⟨ba, oa + k, none⟩ = some (.int .i64 (zs.getD k 0)) := (hbel.cell (by exact hba)).trans hca'
      have hst := sgBytes_take zs k (by rw [Hlen.out]; exact hlt)
      have hle := sgBytes_length (zs.take k)
      have hle2 : (zs.take k).length ≤ k := List.length_take_le _ _
      clear hca hca'
      have hps := putS_size (zs.getD k 0)
      generalize hz : zs.getD k 0 = z at *
      clear hz
      have Hst : Hid (sgBytes (zs.take (k + 1)) = sgBytes (zs.take k) ++ (putS z).data.toList) := hst
      clear hst
      generalize hacc : sgBytes (zs.take k) = acc at *
      clear hacc
      go_wp2_with fail
      refine (specPutSign z _).mono ?_
      rintro e w1 ⟨rfl, hb1⟩
      generalize hs : putS z = s at *
      clear hs
      obtain ⟨cap, W, hrun, hbW, hszW, hcW⟩ := conv_bytes w1 s
      have hownW : W.ownsRow w.heap.size 5 1 _ acc.length (Lib.byteCells acc) := owns_below (owns_below hown (Nat.le_refl _) hb1) (Nat.le_refl _) hbW
      have hbelW : Below w.heap.size w W := (hbel.trans (hb1.mono hbel.size)).trans (hbW.mono (Nat.le_trans hbel.size hb1.size))
      have HcW : Hid (∀ j u, (Lib.byteCells s.data.toList)[j]? = some u → W.cell? ((⟨w1.heap.size, 0, none⟩ : Addr).add j) = some u) := hcW
      clear hcW hbW hb1 hown hbel
      go_wp2_with (at_builtin; refine wpList_append_own _ rfl (.tmp 12) (.tmp 18) 78 rfl w.heap.size 5 i0 (.int .u8 0) 1 1 Tryz.underlying78 Hi.out Hz0.out Hz1.out Hz2.out rfl (by decide) _ acc.length (Lib.byteCells acc) rfl hownW ⟨w1.heap.size, 0, none⟩ s.size cap (Lib.byteCells s.data.toList) rfl ?c1 HcW.out byteCells_one ?c3 ?c4 hbelW.size ?_)
      case c1 => rw [Lib.byteCells_length, Nat.mul_one]; exact Array.length_toList
      case c3 => unfold maxLen; omega
      case c4 => omega
      intro v' w2 hown' hgrow _
      have hbel2 : Below w.heap.size w w2 := hbelW.grown hgrow hbelW.size (by
        intro r hr
        obtain ⟨_, h⟩ := hownW
        rcases h with ⟨h, _⟩ | ⟨g, _, _, h, hg, _⟩
        · rw [h] at hr
          simp [Value.ownBlock] at hr
        · rw [h] at hr
          simp [Value.ownBlock] at hr
          omega)
      have hown2 : w2.ownsRow w.heap.size 5 1 v' (sgBytes (zs.take (k + 1))).length (Lib.byteCells (sgBytes (zs.take (k + 1)))) := by
        rw [Hst.out]
        have e1 : (acc ++ s.data.toList).length = acc.length + s.size := by rw [List.length_append]; exact congrArg _ Array.length_toList
        have e2 : Lib.byteCells (acc ++ s.data.toList) = Lib.byteCells acc ++ Lib.byteCells s.data.toList := by simp [Lib.byteCells]
        rw [e1, e2]
        exact hown'
      clear hown' hgrow hownW hbelW hrun
      go_wp2
      go_roundw
      case rel => exact ⟨k + 1, by omega, by go_num, hown2, hbel2⟩
      case measure => simp [intOf]; omega
    · have hkn : k = n := by omega
      subst hkn
      have hall : zs.take k = zs := List.take_of_length_le (by rw [Hlen.out]; exact Nat.le_refl _)
      rw [hall] at hown
      have hbk := back_bytes hown
      clear hown hall
      go_wp2
      go_ret
      exact ⟨rfl, hbel⟩

end Go.Proofs.YtbmmghkieolpkaaGreatDoor.Sg

namespace Go.Proofs.YtbmmghkieolpkaaGreatDoor.Sg

/-- The byte at a place, as a number. -/
def bN (s : ByteArray) (i : Nat) : Nat := (s.get! i).toNat

theorem bN_lt (s : ByteArray) (i : Nat) : bN s i < 256 := UInt8.toNat_lt _
theorem bN_eq (s : ByteArray) (i : Nat) (h : i < s.size) : (s[i]'h).toNat = bN s i := by
  unfold bN
  rw [show s.get! i = s[i]'h from by simp [ByteArray.get!, ByteArray.getElem_eq_getElem_data, ByteArray.size_data, h]]

/-- A number lies between two. -/
def inB (x lo hi : Int) : Bool := decide (lo ≤ x ∧ x ≤ hi)
theorem inB_yes {x lo hi : Int} (h : lo ≤ x ∧ x ≤ hi) : inB x lo hi = true := decide_eq_true h
theorem inB_no {x lo hi : Int} (h : ¬ (lo ≤ x ∧ x ≤ hi)) : inB x lo hi = false := decide_eq_false h

/-- How many bytes a sign has that begins with a byte; 0: none does. -/
def manyN (b : Nat) : Nat := if b < 128 then 1 else if b < 194 then 0 else if b < 224 then 2 else if b < 240 then 3 else if b < 245 then 4 else 0
def loN (a : Nat) : Nat := if a = 224 then 160 else if a = 240 then 144 else 128
def hiN (a : Nat) : Nat := if a = 237 then 159 else if a = 244 then 143 else 191

/-- Byte k of a sign that begins with b0 fits. -/
def fits (b0 k b : Nat) : Bool := if k = 1 then decide (loN b0 ≤ b ∧ b ≤ hiN b0) else decide (128 ≤ b ∧ b ≤ 191)

/-- Reading on from byte k, with what was read so far. -/
def getR (s : ByteArray) (i M : Nat) : Nat → Nat → Nat → Nat × Nat
  | 0, _, acc => (acc, M)
  | f + 1, k, acc => if k < M then (if i + k < s.size ∧ fits (bN s i) k (bN s (i + k)) = true then getR s i M f (k + 1) (acc * 64 + bN s (i + k) % 64) else (65533, k)) else (acc, M)

/-- The sign at place i of s, and how many bytes it takes. -/
def getS (s : ByteArray) (i : Nat) : Nat × Nat :=
  if manyN (bN s i) < 2 then (if manyN (bN s i) = 1 then (bN s i, 1) else (65533, 1))
  else getR s i (manyN (bN s i)) (manyN (bN s i) - 1) 1 (bN s i % (128 / 2 ^ manyN (bN s i)))

/-- How many bytes are the beginning of a sign. -/
def begR (s : ByteArray) (i M : Nat) : Nat → Nat → Nat
  | 0, k => k
  | f + 1, k => if k < M ∧ i + k < s.size ∧ fits (bN s i) k (bN s (i + k)) = true then begR s i M f (k + 1) else k

theorem many_cases (b : Nat) (hb : b < 256) : (b < 128 ∧ manyN b = 1) ∨ (((128 ≤ b ∧ b < 194) ∨ 245 ≤ b) ∧ manyN b = 0) ∨ (194 ≤ b ∧ b < 224 ∧ manyN b = 2) ∨ (224 ≤ b ∧ b < 240 ∧ manyN b = 3) ∨ (240 ≤ b ∧ b < 245 ∧ manyN b = 4) := by
  unfold manyN
  repeat' split
  all_goals omega

/-- One or more bytes are taken, and none behind the text's end. -/
theorem getR_many (s : ByteArray) (i M : Nat) : ∀ (f k acc : Nat), 1 ≤ k → k ≤ M → i + k ≤ s.size → M ≤ k + f → 1 ≤ (getR s i M f k acc).2 ∧ i + (getR s i M f k acc).2 ≤ s.size
  | 0, k, acc, h1, h2, h3, h4 => by
    simp only [getR]
    omega
  | f + 1, k, acc, h1, h2, h3, h4 => by
    simp only [getR]
    split
    · split
      · exact getR_many s i M f (k + 1) _ (by omega) (by omega) (by omega) (by omega)
      · simp only
        omega
    · simp only
      omega

theorem getS_many (s : ByteArray) (i : Nat) (h : i < s.size) : 1 ≤ (getS s i).2 ∧ i + (getS s i).2 ≤ s.size := by
  unfold getS
  split
  · split
    · simp only
      omega
    · simp only
      omega
  · exact getR_many s i _ _ _ _ (Nat.le_refl _) (by omega) (by omega) (by omega)

theorem dec2 (n b0 b1 b2 b3 : Nat) (hb : 194 ≤ b0) (hb' : b0 < 224) (h1 : b1 < 256) : Lib.decodeN n b0 b1 b2 b3 = if 1 < n ∧ loN b0 ≤ b1 ∧ b1 ≤ hiN b0 then (b0 % 32 * 64 + b1 % 64, 2) else (65533, 1) := by
  have l0 : loN b0 = 128 := by unfold loN; rw [if_neg (by omega), if_neg (by omega)]
  have l1 : hiN b0 = 191 := by unfold hiN; rw [if_neg (by omega), if_neg (by omega)]
  rw [l0, l1]
  unfold Lib.decodeN
  rw [if_neg (by omega)]
  by_cases c : 1 < n ∧ 128 ≤ b1 ∧ b1 ≤ 191
  · rw [if_pos c, if_pos (by omega), if_pos (by omega)]
  · rw [if_neg c, if_neg (by omega), if_neg (by omega), if_neg (by omega)]

theorem dec3 (n b0 b1 b2 b3 : Nat) (hb : 224 ≤ b0) (hb' : b0 < 240) (h1 : b1 < 256) (h2 : b2 < 256) :
    Lib.decodeN n b0 b1 b2 b3 = if (1 < n ∧ loN b0 ≤ b1 ∧ b1 ≤ hiN b0) ∧ (2 < n ∧ 128 ≤ b2 ∧ b2 ≤ 191) then ((b0 % 16 * 64 + b1 % 64) * 64 + b2 % 64, 3) else (65533, 1) := by
  have l : (b0 = 224 ∧ loN b0 = 160 ∧ hiN b0 = 191) ∨ (b0 = 237 ∧ loN b0 = 128 ∧ hiN b0 = 159) ∨ (b0 ≠ 224 ∧ b0 ≠ 237 ∧ loN b0 = 128 ∧ hiN b0 = 191) := by
    unfold loN hiN
    repeat' split
    all_goals omega
  unfold Lib.decodeN
  rw [if_neg (by omega), if_neg (by omega)]
  by_cases c : (1 < n ∧ loN b0 ≤ b1 ∧ b1 ≤ hiN b0) ∧ (2 < n ∧ 128 ≤ b2 ∧ b2 ≤ 191)
  · rw [if_pos c, if_pos (by omega), if_pos (by omega)]
    congr 1
    omega
  · rw [if_neg c]
    by_cases d : b0 / 16 = 14 ∧ (1 < n ∧ b1 / 64 = 2) ∧ (2 < n ∧ b2 / 64 = 2)
    · rw [if_pos d, if_neg (by omega)]
    · rw [if_neg d, if_neg (by omega)]

theorem dec4 (n b0 b1 b2 b3 : Nat) (hb : 240 ≤ b0) (hb' : b0 < 245) (h1 : b1 < 256) (h2 : b2 < 256) (h3 : b3 < 256) :
    Lib.decodeN n b0 b1 b2 b3 = if (1 < n ∧ loN b0 ≤ b1 ∧ b1 ≤ hiN b0) ∧ (2 < n ∧ 128 ≤ b2 ∧ b2 ≤ 191) ∧ (3 < n ∧ 128 ≤ b3 ∧ b3 ≤ 191) then (((b0 % 8 * 64 + b1 % 64) * 64 + b2 % 64) * 64 + b3 % 64, 4) else (65533, 1) := by
  have l : (b0 = 240 ∧ loN b0 = 144 ∧ hiN b0 = 191) ∨ (b0 = 244 ∧ loN b0 = 128 ∧ hiN b0 = 143) ∨ (b0 ≠ 240 ∧ b0 ≠ 244 ∧ loN b0 = 128 ∧ hiN b0 = 191) := by
    unfold loN hiN
    repeat' split
    all_goals omega
  unfold Lib.decodeN
  rw [if_neg (by omega), if_neg (by omega), if_neg (by omega)]
  by_cases c : (1 < n ∧ loN b0 ≤ b1 ∧ b1 ≤ hiN b0) ∧ (2 < n ∧ 128 ≤ b2 ∧ b2 ≤ 191) ∧ (3 < n ∧ 128 ≤ b3 ∧ b3 ≤ 191)
  · rw [if_pos c, if_pos (by omega), if_pos (by omega)]
    congr 1
    omega
  · rw [if_neg c]
    by_cases d : b0 / 8 = 30 ∧ (1 < n ∧ b1 / 64 = 2) ∧ (2 < n ∧ b2 / 64 = 2) ∧ (3 < n ∧ b3 / 64 = 2)
    · rw [if_pos d, if_neg (by omega)]
    · rw [if_neg d]

theorem fits_one (b0 b : Nat) : (fits b0 1 b = true) = (loN b0 ≤ b ∧ b ≤ hiN b0) := by simp [fits]
theorem fits_two (b0 b : Nat) : (fits b0 2 b = true) = (128 ≤ b ∧ b ≤ 191) := by simp [fits]
theorem fits_three (b0 b : Nat) : (fits b0 3 b = true) = (128 ≤ b ∧ b ≤ 191) := by simp [fits]

theorem nest4 (A B C : Prop) [Decidable A] [Decidable B] [Decidable C] (v : Nat) :
    (if A then if B then if C then (v, 4) else (65533, 3) else (65533, 2) else (65533, 1)) =
      if (if A ∧ B ∧ C then (v, 4) else (65533, 1)) = (65533, 1) then (65533, if A then if B then if C then 4 else 3 else 2 else 1) else if A ∧ B ∧ C then (v, 4) else (65533, 1) := by
  by_cases a : A <;> by_cases b : B <;> by_cases c : C <;> simp [a, b, c]

/-- Go's own decoder, and the whole beginning where it finds no sign. -/
theorem getS_decode (s : ByteArray) (i : Nat) (h : i < s.size) : getS s i = if (Utf8.decode s i) = (65533, 1) then (65533, begR s i (max 1 (manyN (bN s i))) 3 1) else Utf8.decode s i := by
  rw [Lib.decode_at]
  have h0 := bN_lt s i
  have h1 := bN_lt s (i + 1)
  have h2 := bN_lt s (i + 2)
  have h3 := bN_lt s (i + 3)
  show _ = if Lib.decodeN (s.size - i) (bN s i) (bN s (i + 1)) (bN s (i + 2)) (bN s (i + 3)) = (65533, 1) then _ else Lib.decodeN (s.size - i) (bN s i) (bN s (i + 1)) (bN s (i + 2)) (bN s (i + 3))
  have n1 : (1 < s.size - i) = (i + 1 < s.size) := propext ⟨fun _ => by omega, fun _ => by omega⟩
  have n2 : (2 < s.size - i) = (i + 2 < s.size) := propext ⟨fun _ => by omega, fun _ => by omega⟩
  have n3 : (3 < s.size - i) = (i + 3 < s.size) := propext ⟨fun _ => by omega, fun _ => by omega⟩
  rcases many_cases (bN s i) h0 with ⟨hb, hm⟩ | ⟨hb, hm⟩ | ⟨hb, hb', hm⟩ | ⟨hb, hb', hm⟩ | ⟨hb, hb', hm⟩
  · have hd : ∀ n b1 b2 b3, Lib.decodeN n (bN s i) b1 b2 b3 = (bN s i, 1) := fun n b1 b2 b3 => by
      unfold Lib.decodeN
      rw [if_pos hb]
    rw [hd, if_neg (by simp; omega)]
    unfold getS
    simp [hm]
  · have hd : Lib.decodeN (s.size - i) (bN s i) (bN s (i + 1)) (bN s (i + 2)) (bN s (i + 3)) = (65533, 1) := by
      unfold Lib.decodeN
      rw [if_neg (by omega)]
      repeat' split
      all_goals first | rfl | (exfalso; omega)
    rw [hd, if_pos rfl]
    unfold getS begR
    simp [hm]
  · rw [dec2 _ _ _ _ _ hb hb' h1]
    simp only [n1]
    unfold getS
    rw [hm]
    simp only [getR, begR, Nat.reduceLT, Nat.reduceSub, if_false, if_true, fits_one, Nat.reduceAdd, Nat.reduceLeDiff, Nat.max_eq_right, true_and, false_and, Nat.reducePow, Nat.reduceDiv]
    by_cases c1 : i + 1 < s.size ∧ loN (bN s i) ≤ bN s (i + 1) ∧ bN s (i + 1) ≤ hiN (bN s i)
    · simp only [if_pos c1]
      simp
    · simp only [if_neg c1, if_true]
  · rw [dec3 _ _ _ _ _ hb hb' h1 h2]
    simp only [n1, n2]
    unfold getS
    rw [hm]
    simp only [getR, begR, Nat.reduceLT, Nat.reduceSub, if_false, if_true, fits_one, fits_two, Nat.reduceAdd, Nat.reduceLeDiff, Nat.max_eq_right, true_and, false_and, Nat.reducePow, Nat.reduceDiv]
    by_cases c1 : i + 1 < s.size ∧ loN (bN s i) ≤ bN s (i + 1) ∧ bN s (i + 1) ≤ hiN (bN s i)
    · by_cases c2 : i + 2 < s.size ∧ 128 ≤ bN s (i + 2) ∧ bN s (i + 2) ≤ 191
      · simp only [if_pos c1, if_pos c2, if_pos (And.intro c1 c2)]
        simp
      · have c3 : ¬ ((i + 1 < s.size ∧ loN (bN s i) ≤ bN s (i + 1) ∧ bN s (i + 1) ≤ hiN (bN s i)) ∧ i + 2 < s.size ∧ 128 ≤ bN s (i + 2) ∧ bN s (i + 2) ≤ 191) := fun x => c2 x.2
        simp only [if_pos c1, if_neg c2, if_neg c3, if_true]
    · have c3 : ¬ ((i + 1 < s.size ∧ loN (bN s i) ≤ bN s (i + 1) ∧ bN s (i + 1) ≤ hiN (bN s i)) ∧ i + 2 < s.size ∧ 128 ≤ bN s (i + 2) ∧ bN s (i + 2) ≤ 191) := fun x => c1 x.1
      simp only [if_neg c1, if_neg c3, if_true]
  · rw [dec4 _ _ _ _ _ hb hb' h1 h2 h3]
    simp only [n1, n2, n3]
    unfold getS
    rw [hm]
    simp only [getR, begR, Nat.reduceLT, Nat.reduceSub, if_false, if_true, fits_one, fits_two, fits_three, Nat.reduceAdd, Nat.reduceLeDiff, Nat.max_eq_right, true_and, Nat.reducePow, Nat.reduceDiv]
    exact nest4 _ _ _ _

theorem decode_le (s : ByteArray) (i : Nat) : (Utf8.decode s i).1 ≤ 1114111 := by
  rw [Lib.decode_at]
  have h0 : (s.get! i).toNat < 256 := UInt8.toNat_lt _
  generalize (s.get! i).toNat = b0 at *
  generalize (s.get! (i + 1)).toNat = b1
  generalize (s.get! (i + 2)).toNat = b2
  generalize (s.get! (i + 3)).toNat = b3
  unfold Lib.decodeN
  repeat' split
  all_goals (simp only; omega)

end Go.Proofs.YtbmmghkieolpkaaGreatDoor.Sg

namespace Go.Proofs.YtbmmghkieolpkaaGreatDoor.Sg

/-- The signs from a place on, by at most so many. -/
def signsFrom (s : ByteArray) : Nat → Nat → List Int
  | 0, _ => []
  | f + 1, pos => if pos < s.size then ((getS s pos).1 : Int) :: signsFrom s f (pos + (getS s pos).2) else []

def signsL (s : ByteArray) : List Int := signsFrom s s.size 0

theorem signsFrom_end (s : ByteArray) (f pos : Nat) (h : ¬ pos < s.size) : signsFrom s f pos = [] := by
  cases f with
  | zero => rfl
  | succ f => rw [signsFrom, if_neg h]

/-- More fuel than there are bytes changes nothing. -/
theorem signsFrom_fuel (s : ByteArray) : ∀ (f g pos : Nat), s.size ≤ pos + f → s.size ≤ pos + g → signsFrom s f pos = signsFrom s g pos
  | 0, g, pos, h, _ => by
    rw [signsFrom_end s g pos (by omega), signsFrom_end s 0 pos (by omega)]
  | f + 1, 0, pos, _, h => by
    rw [signsFrom_end s 0 pos (by omega), signsFrom_end s (f + 1) pos (by omega)]
  | f + 1, g + 1, pos, h, h' => by
    by_cases hp : pos < s.size
    · have hm := getS_many s pos hp
      rw [signsFrom, signsFrom, if_pos hp, if_pos hp, signsFrom_fuel s f g _ (by omega) (by omega)]
    · rw [signsFrom_end s _ _ hp, signsFrom_end s _ _ hp]

/-- The signs from a place on. -/
def signsAt (s : ByteArray) (pos : Nat) : List Int := signsFrom s s.size pos

theorem signsAt_zero (s : ByteArray) : signsAt s 0 = signsL s := rfl
theorem signsAt_end (s : ByteArray) (pos : Nat) (h : ¬ pos < s.size) : signsAt s pos = [] := signsFrom_end s _ _ h
theorem signsAt_step (s : ByteArray) (pos : Nat) (h : pos < s.size) : signsAt s pos = ((getS s pos).1 : Int) :: signsAt s (pos + (getS s pos).2) := by
  have hm := getS_many s pos h
  unfold signsAt
  rw [signsFrom_fuel s s.size (s.size + 1) pos (by omega) (by omega)]
  conv => lhs; rw [signsFrom, if_pos h]

/-- No more signs than bytes. -/
theorem signsFrom_length (s : ByteArray) : ∀ (f pos : Nat), (signsFrom s f pos).length ≤ s.size - pos
  | 0, pos => by simp [signsFrom]
  | f + 1, pos => by
    by_cases hp : pos < s.size
    · have hm := getS_many s pos hp
      have ih := signsFrom_length s f (pos + (getS s pos).2)
      rw [signsFrom, if_pos hp, List.length_cons]
      omega
    · rw [signsFrom_end s _ _ hp]
      simp

theorem signsL_length (s : ByteArray) : (signsL s).length ≤ s.size := signsFrom_length s _ _

/-- What is read is a sign's number. -/
theorem getS_le (s : ByteArray) (i : Nat) (h : i < s.size) : (getS s i).1 ≤ 1114111 := by
  rw [getS_decode s i h]
  split
  · simp
  · exact decode_le s i

/-- Bytes within the beginning of a sign come behind another. -/
theorem begR_span (s : ByteArray) (i M : Nat) : ∀ (f k : Nat), 1 ≤ k → ∀ j, k ≤ j → j < begR s i M f k → i + j < s.size ∧ 128 ≤ bN s (i + j) ∧ bN s (i + j) ≤ 191
  | 0, k, _, j, h1, h2 => by
    simp only [begR] at h2
    omega
  | f + 1, k, hk, j, h1, h2 => by
    rw [begR] at h2
    split at h2
    · rename_i hc
      by_cases e : j = k
      · subst e
        refine ⟨hc.2.1, ?_⟩
        have hf := hc.2.2
        unfold fits at hf
        have l0 : 128 ≤ loN (bN s i) := by unfold loN; split; omega; split <;> omega
        have l1 : hiN (bN s i) ≤ 191 := by unfold hiN; split; omega; split <;> omega
        split at hf
        · rw [decide_eq_true_eq] at hf
          omega
        · rw [decide_eq_true_eq] at hf
          exact hf
      · exact begR_span s i M f (k + 1) (by omega) j (by omega) h2
    · omega

theorem begR_pos (s : ByteArray) (i M : Nat) : ∀ (f k : Nat), k ≤ begR s i M f k
  | 0, k => Nat.le_refl _
  | f + 1, k => by
    rw [begR]
    split
    · exact Nat.le_trans (Nat.le_succ k) (begR_pos s i M f (k + 1))
    · exact Nat.le_refl _

/-- Where such a byte stands Go's decoder takes it alone. -/
theorem decode_behind (s : ByteArray) (i : Nat) (h1 : 128 ≤ bN s i) (h2 : bN s i ≤ 191) : Utf8.decode s i = (65533, 1) := by
  rw [Lib.decode_at]
  unfold bN at h1 h2
  unfold Lib.decodeN
  rw [if_neg (by omega), if_neg (by omega), if_neg (by omega), if_neg (by omega)]

theorem decode_pos (s : ByteArray) (i : Nat) : 1 ≤ (Utf8.decode s i).2 := by
  rw [Lib.decode_at]
  unfold Lib.decodeN
  repeat' split
  all_goals simp

/-- Signs at a place where Go's decoder finds one. -/
theorem getS_good (s : ByteArray) (i : Nat) (h : i < s.size) (hd : (Utf8.decode s i).1 ≠ 65533) : getS s i = Utf8.decode s i := by
  rw [getS_decode s i h, if_neg (fun e => hd (by rw [e]))]

/-- Signs at a place where it tells 65533: that sign itself, or a beginning. -/
theorem getS_bad (s : ByteArray) (i : Nat) (h : i < s.size) (hd : (Utf8.decode s i).1 = 65533) :
    (getS s i).1 = 65533 ∧ (Utf8.decode s i).2 ≤ (getS s i).2 ∧ ∀ j, i + (Utf8.decode s i).2 ≤ j → j < i + (getS s i).2 → 128 ≤ bN s j ∧ bN s j ≤ 191 := by
  rw [getS_decode s i h]
  by_cases e : Utf8.decode s i = (65533, 1)
  · rw [if_pos e, e]
    refine ⟨rfl, begR_pos _ _ _ _ _, fun j h1 h2 => ?_⟩
    obtain ⟨t, rfl⟩ : ∃ t, j = i + t := ⟨j - i, by omega⟩
    exact (begR_span s i (max 1 (manyN (bN s i))) 3 1 (Nat.le_refl _) t (by simp only at h1; omega) (by simp only at h2; omega)).2
  · rw [if_neg e]
    exact ⟨hd, Nat.le_refl _, fun j h1 h2 => by omega⟩

end Go.Proofs.YtbmmghkieolpkaaGreatDoor.Sg

namespace Go.Proofs.YtbmmghkieolpkaaGreatDoor.Sg
open Go.ChangeShapes Go.WideShapes Go.ChangeAt Go.RowKit

set_option maxHeartbeats 1000000 in
theorem l1In_any (x lo hi : Int) (w : World) :
    Calls Tryz.prog 69 #[.int .i64 x, .int .i64 lo, .int .i64 hi] w fun e w' => e = .returned (.bool (inB x lo hi)) ∧ w' = w := by
  by_cases h1 : lo ≤ x
  · by_cases h2 : x ≤ hi
    · have ho : inB x lo hi = true := inB_yes ⟨h1, h2⟩
      rw [ho]
      go_enter Tryz.func69, Tryz.ntmps69
      go_wp2
      go_ret
      exact ⟨rfl, rfl⟩
    · have ho : inB x lo hi = false := inB_no (by omega)
      rw [ho]
      go_enter Tryz.func69, Tryz.ntmps69
      go_wp2
      go_ret
      exact ⟨rfl, rfl⟩
  · have ho : inB x lo hi = false := inB_no (by omega)
    rw [ho]
    have hd : decide (lo ≤ x) = false := by simpa using h1
    go_enter Tryz.func69, Tryz.ntmps69
    go_wp2
    go_ret
    exact ⟨rfl, rfl⟩

theorem ret_int {k : IntKind} {a b : Int} (h : a = b) : Ending.returned (.int k a) = .returned (.int k b) := by rw [h]

set_option maxHeartbeats 2000000 in
theorem l1Many_any (b : Nat) (w : World) (hb : b < 256) :
    Calls Tryz.prog 87 #[.int .i64 (b : Int)] w fun e w' => e = .returned (.int .i64 (manyN b : Int)) ∧ w' = w := by
  rcases many_cases b hb with ⟨h, hm⟩ | ⟨h, hm⟩ | ⟨h, h', hm⟩ | ⟨h, h', hm⟩ | ⟨h, h', hm⟩
  · rw [hm]
    clear hm
    have h0 : (b : Int) < 128 := by omega
    go_enter Tryz.func87, Tryz.ntmps87
    go_wp2_with fail
    go_ret
    exact ⟨rfl, rfl⟩
  · rw [hm]
    clear hm
    have i1 : inB (b : Int) 194 223 = false := inB_no (by omega)
    have i2 : inB (b : Int) 224 239 = false := inB_no (by omega)
    have i3 : inB (b : Int) 240 244 = false := inB_no (by omega)
    have h0 : ¬ ((b : Int) < 128) := by omega
    go_enter Tryz.func87, Tryz.ntmps87
    go_wp2_with (go_at_call 69; refine (l1In_any _ _ _ _).mono ?_; rintro e w' ⟨rfl, rfl⟩)
    go_ret
    exact ⟨rfl, rfl⟩
  · rw [hm]
    clear hm
    have i1 : inB (b : Int) 194 223 = true := inB_yes (by omega)
    have h0 : ¬ ((b : Int) < 128) := by omega
    go_enter Tryz.func87, Tryz.ntmps87
    go_wp2_with (go_at_call 69; refine (l1In_any _ _ _ _).mono ?_; rintro e w' ⟨rfl, rfl⟩)
    go_ret
    exact ⟨rfl, rfl⟩
  · rw [hm]
    clear hm
    have i1 : inB (b : Int) 194 223 = false := inB_no (by omega)
    have i2 : inB (b : Int) 224 239 = true := inB_yes (by omega)
    have h0 : ¬ ((b : Int) < 128) := by omega
    go_enter Tryz.func87, Tryz.ntmps87
    go_wp2_with (go_at_call 69; refine (l1In_any _ _ _ _).mono ?_; rintro e w' ⟨rfl, rfl⟩)
    go_ret
    exact ⟨rfl, rfl⟩
  · rw [hm]
    clear hm
    have i1 : inB (b : Int) 194 223 = false := inB_no (by omega)
    have i2 : inB (b : Int) 224 239 = false := inB_no (by omega)
    have i3 : inB (b : Int) 240 244 = true := inB_yes (by omega)
    have h0 : ¬ ((b : Int) < 128) := by omega
    go_enter Tryz.func87, Tryz.ntmps87
    go_wp2_with (go_at_call 69; refine (l1In_any _ _ _ _).mono ?_; rintro e w' ⟨rfl, rfl⟩)
    go_ret
    exact ⟨rfl, rfl⟩

theorem span_cases (a : Nat) : (a = 224 ∧ loN a = 160 ∧ hiN a = 191) ∨ (a = 237 ∧ loN a = 128 ∧ hiN a = 159) ∨ (a = 240 ∧ loN a = 144 ∧ hiN a = 191) ∨ (a = 244 ∧ loN a = 128 ∧ hiN a = 143) ∨
    (((a : Int) == 224) = false ∧ ((a : Int) == 237) = false ∧ ((a : Int) == 240) = false ∧ ((a : Int) == 244) = false ∧ loN a = 128 ∧ hiN a = 191) := by
  have e : ∀ k : Int, ((a : Int) == k) = false ↔ (a : Int) ≠ k := fun k => beq_eq_false_iff_ne
  simp only [e]
  unfold loN hiN
  repeat' split
  all_goals omega

set_option maxHeartbeats 2000000 in
theorem l1Second_any (a b : Nat) (w : World) :
    Calls Tryz.prog 88 #[.int .i64 (a : Int), .int .i64 (b : Int)] w fun e w' => e = .returned (.bool (fits a 1 b)) ∧ w' = w := by
  have hf : fits a 1 b = inB (b : Int) (loN a : Int) (hiN a : Int) := by
    unfold fits inB
    rw [if_pos rfl]
    exact decide_eq_decide.2 (by omega)
  rw [hf]
  clear hf
  rcases span_cases a with ⟨rfl, h1, h2⟩ | ⟨rfl, h1, h2⟩ | ⟨rfl, h1, h2⟩ | ⟨rfl, h1, h2⟩ | ⟨g1, g2, g3, g4, h1, h2⟩
  all_goals
    rw [h1, h2]
    clear h1 h2
    go_enter Tryz.func88, Tryz.ntmps88
    go_wp2_with (go_at_call 69; refine (l1In_any _ _ _ _).mono ?_; rintro e w' ⟨rfl, rfl⟩)
    go_ret
    exact ⟨rfl, rfl⟩

end Go.Proofs.YtbmmghkieolpkaaGreatDoor.Sg

namespace Go.Proofs.YtbmmghkieolpkaaGreatDoor.Sg
open Go.ChangeShapes Go.WideShapes Go.ChangeAt Go.RowKit

set_option maxHeartbeats 1000000 in
theorem specGet_out (s : ByteArray) (at' : Int) (w : World) (h : at' < 0 ∨ (s.size : Int) ≤ at') :
    Calls Tryz.prog 62 #[.string s, .int .i64 at'] w fun e w' => e = .returned (.tuple #[.int .i64 0, .int .i64 0]) ∧ w' = w := by
  by_cases h0 : at' < 0
  · clear h
    go_enter Tryz.func62, Tryz.ntmps62
    go_wp2_with fail
    go_ret2
    exact ⟨rfl, rfl⟩
  · have h1 : (s.size : Int) ≤ at' := by omega
    have hd : decide (at' < 0) = false := by simpa using h0
    clear h
    go_enter Tryz.func62, Tryz.ntmps62
    go_wp2_with fail
    go_ret2
    exact ⟨rfl, rfl⟩

theorem mask_many (b M : Nat) (h2 : 2 ≤ M) (h4 : M ≤ 4) : bits .and .i64 (b : Int) (127 / 2 ^ M) = ((b % (128 / 2 ^ M) : Nat) : Int) := by
  have h : M = 2 ∨ M = 3 ∨ M = 4 := by omega
  rcases h with rfl | rfl | rfl
  · exact (i64_low b 5 (by decide) 31 (by decide)).trans (by simp)
  · exact (i64_low b 4 (by decide) 15 (by decide)).trans (by simp)
  · exact (i64_low b 3 (by decide) 7 (by decide)).trans (by simp)

theorem i64_63 (n : Int) : bits .and .i64 n 63 = n % 64 := (i64_low n 6 (by decide) 63 (by decide)).trans (by simp)

theorem fits_in (b0 b : Nat) (h : fits b0 1 b = true) : inB (b : Int) 128 191 = true := by
  have h' : loN b0 ≤ b ∧ b ≤ hiN b0 := by simpa [fits] using h
  have h1 : 128 ≤ loN b0 := by unfold loN; split; omega; split <;> omega
  have h2 : hiN b0 ≤ 191 := by unfold hiN; split; omega; split <;> omega
  exact inB_yes (by omega)

theorem fits_more (b0 j b : Nat) (hj : j ≠ 1) : fits b0 j b = inB (b : Int) 128 191 := by
  unfold fits inB
  rw [if_neg hj]
  exact decide_eq_decide.2 (by omega)

/-- How great what was read so far can be. -/
def accOk (j acc : Nat) : Prop := (j = 1 ∧ acc < 128) ∨ (j = 2 ∧ acc < 8192) ∨ (j = 3 ∧ acc < 524288) ∨ (j = 4 ∧ acc < 33554432)

set_option maxHeartbeats 4000000 in
set_option maxRecDepth 100000 in
theorem specGet_in (s : ByteArray) (i : Nat) (w : World) (hi : i < s.size) (hs : s.size ≤ 4611686018427387904) :
    Calls Tryz.prog 62 #[.string s, .int .i64 (i : Int)] w fun e w' => e = .returned (.tuple #[.int .i64 ((getS s i).1 : Int), .int .i64 ((getS s i).2 : Int)]) ∧ w' = w := by
  have hd : decide ((i : Int) < 0) = false := by simp
  have hd2 : decide ((s.size : Int) ≤ (i : Int)) = false := by simp; omega
  have hb := bN_lt s i
  have hbn := bN_eq s
  generalize hM : manyN (bN s i) = M
  have HM : Hid (manyN (bN s i) = M) := hM
  clear hM
  go_enter Tryz.func62, Tryz.ntmps62
  go_wp2_with fail
  refine (l1Many_any (bN s i) _ hb).mono ?_
  rintro e w' ⟨rfl, rfl⟩
  rw [HM.out]
  rcases many_cases (bN s i) hb with ⟨h, hm⟩ | ⟨h, hm⟩ | h
  · have hM : M = 1 := HM.out.symm.trans hm
    subst hM
    have hg : getS s i = (bN s i, 1) := by unfold getS; rw [hm]; rfl
    have Hg : Hid (getS s i = (bN s i, 1)) := hg
    clear hg hm
    go_wp2_with fail
    go_ret2
    rw [Hg.out]
    exact ⟨rfl, rfl⟩
  · have hM : M = 0 := HM.out.symm.trans hm
    subst hM
    have hg : getS s i = (65533, 1) := by unfold getS; rw [hm]; rfl
    have Hg : Hid (getS s i = (65533, 1)) := hg
    clear hg hm h
    go_wp2_with fail
    go_ret2
    rw [Hg.out]
    exact ⟨rfl, rfl⟩
  · have hM2 : 2 ≤ M := by have := HM.out; omega
    have hM4 : M ≤ 4 := by have := HM.out; omega
    have hg0 : getR s i M (M - 1) 1 (bN s i % (128 / 2 ^ M)) = getS s i := by
      unfold getS
      rw [HM.out, if_neg (by omega)]
    have hacc0 : bN s i % (128 / 2 ^ M) < 128 := by
      have h3 : M = 2 ∨ M = 3 ∨ M = 4 := by omega
      rcases h3 with rfl | rfl | rfl <;> simp <;> omega
    have hmk := mask_many (bN s i) M hM2 hM4
    have a63 := i64_63
    have hM2' : ((M : Int) < 2) = False := by simp; omega
    generalize hA0 : bN s i % (128 / 2 ^ M) = acc0 at *
    clear hA0 h
    have Hg0 : Hid (getR s i M (M - 1) 1 acc0 = getS s i) := hg0
    clear hg0
    go_wp2_with fail
    go_loop [8, 9] (fun v k => ∃ j acc : Nat, 1 ≤ j ∧ j ≤ M ∧ k = .int .i64 j ∧ v = .int .i64 acc ∧ accOk j acc ∧ Hid (getR s i M (M - j) j acc = getS s i)) (fun _ k => M - (intOf k).toNat)
    case atStart => exact ⟨1, acc0, Nat.le_refl _, by omega, rfl, rfl, .inl ⟨rfl, hacc0⟩, Hg0⟩
    case round =>
      obtain ⟨j, acc, hj1, hjM, rfl, rfl, hacc, Hg⟩ := hrel
      clear hmk hM2' Hg0 hacc0
      have Hacc : Hid (accOk j acc) := hacc
      have hab : acc < 33554432 := by
        rcases hacc with h | h | h | h <;> omega
      clear hacc
      by_cases hlt : j < M
      · by_cases hin : i + j < s.size
        · have hin' : ((i : Int) + (j : Int)) < (s.size : Int) := by omega
          have hbj := bN_lt s (i + j)
          cases hf : fits (bN s i) j (bN s (i + j))
          · have hg : getS s i = (65533, j) := by
              rw [← Hg.out, show M - j = (M - j - 1) + 1 by omega]
              simp only [getR]
              rw [if_pos hlt, if_neg (by simp [hf])]
            have Hr : Hid (getS s i = (65533, j)) := hg
            have Hf : Hid (fits (bN s i) j (bN s (i + j)) = false) := hf
            clear hg hf
            by_cases hj : j = 1
            · subst hj
              go_wp2_with fail
              refine (l1Second_any (bN s i) (bN s (i + 1)) _).mono ?_
              rintro e w' ⟨rfl, rfl⟩
              rw [Hf.out]
              go_wp2_with fail
              go_ret2
              rw [Hr.out]
              exact ⟨rfl, rfl⟩
            · have hj1' : ((j : Int) == 1) = false := by rw [beq_eq_false_iff_ne]; omega
              have hfm := fits_more (bN s i) j (bN s (i + j)) hj
              have Hfm : Hid (inB (bN s (i + j) : Int) 128 191 = false) := hfm.symm.trans Hf.out
              clear hfm
              go_wp2_with fail
              refine (l1In_any (bN s (i + j) : Int) 128 191 _).mono ?_
              rintro e w' ⟨rfl, rfl⟩
              rw [Hfm.out]
              go_wp2_with fail
              go_ret2
              rw [Hr.out]
              exact ⟨rfl, rfl⟩
          · have hg : getR s i M (M - (j + 1)) (j + 1) (acc * 64 + bN s (i + j) % 64) = getS s i := by
              rw [← Hg.out, show M - j = (M - (j + 1)) + 1 by omega]
              simp only [getR]
              rw [if_pos hlt, if_pos ⟨hin, hf⟩]
            have Hr : Hid (getR s i M (M - (j + 1)) (j + 1) (acc * 64 + bN s (i + j) % 64) = getS s i) := hg
            have Hf : Hid (fits (bN s i) j (bN s (i + j)) = true) := hf
            clear hg hf Hg
            have Hacc2 : Hid (accOk (j + 1) (acc * 64 + bN s (i + j) % 64)) := by
              have := Hacc.out
              unfold accOk at *
              show _ ∨ _
              omega
            by_cases hj : j = 1
            · subst hj
              have Hfi := fits_in _ _ Hf.out
              have HFi : Hid (inB (bN s (i + 1) : Int) 128 191 = true) := Hfi
              clear Hfi
              go_wp2_with fail
              refine (l1Second_any (bN s i) (bN s (i + 1)) _).mono ?_
              rintro e w' ⟨rfl, rfl⟩
              rw [Hf.out]
              go_wp2_with fail
              refine (l1In_any (bN s (i + 1) : Int) 128 191 _).mono ?_
              rintro e w' ⟨rfl, rfl⟩
              rw [HFi.out]
              go_wp2_with fail
              go_round
              case rel => exact ⟨2, acc * 64 + bN s (i + 1) % 64, by omega, by omega, by go_num, by go_num, Hacc2.out, Hr⟩
              case measure => simp [intOf]; omega
            · have hj1' : ((j : Int) == 1) = false := by rw [beq_eq_false_iff_ne]; omega
              have hfm := fits_more (bN s i) j (bN s (i + j)) hj
              have Hfm : Hid (inB (bN s (i + j) : Int) 128 191 = true) := hfm.symm.trans Hf.out
              clear hfm
              go_wp2_with fail
              refine (l1In_any (bN s (i + j) : Int) 128 191 _).mono ?_
              rintro e w' ⟨rfl, rfl⟩
              rw [Hfm.out]
              go_wp2_with fail
              go_round
              case rel => exact ⟨j + 1, acc * 64 + bN s (i + j) % 64, by omega, by omega, by go_num, by go_num, Hacc2.out, Hr⟩
              case measure => simp [intOf]; omega
        · have hin' : decide ((s.size : Int) ≤ (i : Int) + (j : Int)) = true := by simp; omega
          have hg : getS s i = (65533, j) := by
            rw [← Hg.out, show M - j = (M - j - 1) + 1 by omega]
            simp only [getR]
            rw [if_pos hlt, if_neg (by omega)]
          have Hr : Hid (getS s i = (65533, j)) := hg
          clear hg
          go_wp2_with fail
          go_ret2
          rw [Hr.out]
          exact ⟨rfl, rfl⟩
      · have hg : getS s i = (acc, M) := by
          rw [← Hg.out, show M - j = 0 by omega]
          simp only [getR]
        have Hr : Hid (getS s i = (acc, M)) := hg
        clear hg
        go_wp2_with fail
        go_ret2
        rw [Hr.out]
        exact ⟨rfl, rfl⟩

end Go.Proofs.YtbmmghkieolpkaaGreatDoor.Sg

namespace Go.Proofs
open Go.Shelf
def Tryz.lays169_ren : Go.Shelf.Ren := ⟨fun | 169 => 110 | n => n, fun | 70 => 128 | 9 => 9 | 0 => 0 | 72 => 130 | 37 => 78 | 127 => 142 | 3 => 3 | 5 => 5 | n => n, fun | n => n⟩
theorem Tryz.lays169 : Go.Proofs.Lays.n169 Tryz.prog Tryz.lays169_ren := {
  mixed := by kernel_rfl
  f169 := Tryz.func110.trans (congrArg some (by kernel_rfl))
  t0 := Tryz.underlying0
  a0 := Tryz.isAgg0
  z0 := Tryz.sizeOf0
  v0 := Tryz.zeroValue0
  t3 := Tryz.underlying3
  a3 := Tryz.isAgg3
  z3 := Tryz.sizeOf3
  v3 := Tryz.zeroValue3
  t9 := Tryz.underlying9
  a9 := Tryz.isAgg9
  z9 := Tryz.sizeOf9
  v9 := Tryz.zeroValue9
  t37 := Tryz.underlying78
  a37 := Tryz.isAgg78
  z37 := Tryz.sizeOf78
  v37 := Tryz.zeroValue78
  t70 := Tryz.underlying128
  a70 := Tryz.isAgg128
  z70 := Tryz.sizeOf128
  v70 := Tryz.zeroValue128
  t72 := Tryz.underlying130
  a72 := Tryz.isAgg130
  z72 := Tryz.sizeOf130
  v72 := Tryz.zeroValue130
  t127 := Tryz.underlying142
  a127 := Tryz.isAgg142
  z127 := Tryz.sizeOf142
  v127 := Tryz.zeroValue142 }
theorem Tryz.Builder_Extra_169 : Builder.Extra Tryz.prog Tryz.lays169_ren := {
  sizeBuilder := by kernel_rfl
  liesBuilder := by kernel_rfl
  t5 := Tryz.underlying5
  a5 := Tryz.isAgg5
  z5 := Tryz.sizeOf5
  v5 := Tryz.zeroValue5
  infoByte := by kernel_rfl
  cellsByte := by kernel_rfl
  sizeByte := by kernel_rfl
  neB5 := by decide }
def Tryz.lays137_ren : Go.Shelf.Ren := ⟨fun | 137 => 156 | 217 => 169 | 266 => 177 | n => n, fun | 9 => 9 | 5 => 5 | 3 => 3 | n => n, fun | n => n⟩
theorem Tryz.lays137 : Go.Proofs.Lays.n137 Tryz.prog Tryz.lays137_ren := {
  mixed := by kernel_rfl
  f137 := Tryz.func156.trans (congrArg some (by kernel_rfl))
  f217 := Tryz.func169.trans (congrArg some (by kernel_rfl))
  f266 := Tryz.func177.trans (congrArg some (by kernel_rfl))
  t3 := Tryz.underlying3
  a3 := Tryz.isAgg3
  z3 := Tryz.sizeOf3
  v3 := Tryz.zeroValue3
  t5 := Tryz.underlying5
  a5 := Tryz.isAgg5
  z5 := Tryz.sizeOf5
  v5 := Tryz.zeroValue5
  t9 := Tryz.underlying9
  a9 := Tryz.isAgg9
  z9 := Tryz.sizeOf9
  v9 := Tryz.zeroValue9 }
open Go.RowKit in
theorem Tryz.strings_IndexByte (s : ByteArray) (c : Int) (w : World) :
    Calls Tryz.prog 156 #[.string s, .int .u8 c] w fun e w' => e = .returned (.int .i64 (Lib.indexByte s.data.toList c.toNat.toUInt8)) ∧ w' = w := Any.strings_IndexByte Tryz.lays137 s c w
def Tryz.lays103_ren : Go.Shelf.Ren := ⟨fun | 103 => 103 | 210 => 122 | 206 => 82 | n => n, fun | 9 => 9 | 4 => 4 | 24 => 124 | 3 => 3 | n => n, fun | n => n⟩
theorem Tryz.lays103 : Go.Proofs.Lays.n103 Tryz.prog Tryz.lays103_ren := {
  mixed := by kernel_rfl
  f103 := Tryz.func103.trans (congrArg some (by kernel_rfl))
  f206 := Tryz.func82.trans (congrArg some (by kernel_rfl))
  f210 := Tryz.func122.trans (congrArg some (by kernel_rfl))
  t3 := Tryz.underlying3
  a3 := Tryz.isAgg3
  z3 := Tryz.sizeOf3
  v3 := Tryz.zeroValue3
  t4 := Tryz.underlying4
  a4 := Tryz.isAgg4
  z4 := Tryz.sizeOf4
  v4 := Tryz.zeroValue4
  t9 := Tryz.underlying9
  a9 := Tryz.isAgg9
  z9 := Tryz.sizeOf9
  v9 := Tryz.zeroValue9
  t24 := Tryz.underlying124
  a24 := Tryz.isAgg124
  z24 := Tryz.sizeOf124
  v24 := Tryz.zeroValue124 }
open Go.RowKit in
theorem Tryz.strings_CutPrefix (s p : ByteArray) (w : World) :
    Calls Tryz.prog 103 #[.string s, .string p] w fun e w' => e = .returned (.tuple #[.string ⟨(Lib.trimPrefix s.data.toList p.data.toList).toArray⟩, .bool (Lib.hasPrefix s.data.toList p.data.toList)]) ∧ w' = w := Any.strings_CutPrefix Tryz.lays103 s p w
open Go.RowKit in
theorem Tryz.Builder_String_any_k (B b : Nat) (l : List UInt8) (w : World) (h : Lib.IsBuilderF 130 5 B b (Lib.byteCells l) w) (hBw : B ≤ w.heap.size) :
    Calls Tryz.prog 110 #[.pointer (some ⟨b, 0, none⟩)] w fun e w' => e = .returned (.string ⟨l.toArray⟩) ∧ (Lib.IsBuilderF 130 5 B b (Lib.byteCells l) w' ∧ Below B w w' ∧ Lib.OthersKept 5 (some b) w w') := Any.Builder_String_any_k Tryz.lays169 Tryz.Builder_Extra_169 B b l w h hBw
def Tryz.lays144_ren : Go.Shelf.Ren := ⟨fun | 144 => 107 | 143 => 127 | 219 => 150 | 217 => 169 | 225 => 170 | 224 => 171 | 267 => 172 | 266 => 177 | 314 => 178 | n => n, fun | 9 => 9 | 4 => 4 | 3 => 3 | 5 => 5 | 46 => 110 | 146 => 195 | 51 => 170 | n => n, fun | 1 => 1 | n => n⟩
theorem Tryz.lays144 : Go.Proofs.Lays.n144 Tryz.prog Tryz.lays144_ren := {
  mixed := by kernel_rfl
  f143 := Tryz.func127.trans (congrArg some (by kernel_rfl))
  f144 := Tryz.func107.trans (congrArg some (by kernel_rfl))
  f217 := Tryz.func169.trans (congrArg some (by kernel_rfl))
  f219 := Tryz.func150.trans (congrArg some (by kernel_rfl))
  f224 := Tryz.func171.trans (congrArg some (by kernel_rfl))
  f225 := Tryz.func170.trans (congrArg some (by kernel_rfl))
  f266 := Tryz.func177.trans (congrArg some (by kernel_rfl))
  f267 := Tryz.func172.trans (congrArg some (by kernel_rfl))
  f314 := Tryz.func178.trans (congrArg some (by kernel_rfl))
  t3 := Tryz.underlying3
  a3 := Tryz.isAgg3
  z3 := Tryz.sizeOf3
  v3 := Tryz.zeroValue3
  t4 := Tryz.underlying4
  a4 := Tryz.isAgg4
  z4 := Tryz.sizeOf4
  v4 := Tryz.zeroValue4
  t5 := Tryz.underlying5
  a5 := Tryz.isAgg5
  z5 := Tryz.sizeOf5
  v5 := Tryz.zeroValue5
  t9 := Tryz.underlying9
  a9 := Tryz.isAgg9
  z9 := Tryz.sizeOf9
  v9 := Tryz.zeroValue9
  t46 := Tryz.underlying110
  a46 := Tryz.isAgg110
  z46 := Tryz.sizeOf110
  v46 := Tryz.zeroValue110
  t51 := Tryz.underlying170
  a51 := Tryz.isAgg170
  z51 := Tryz.sizeOf170
  v51 := Tryz.zeroValue170
  t146 := Tryz.underlying195
  a146 := Tryz.isAgg195
  z146 := Tryz.sizeOf195
  v146 := Tryz.zeroValue195
  g1 := by kernel_rfl }
open Go.RowKit Go.Lib in
theorem Tryz.strings_Contains_one (s : ByteArray) (c : UInt8) (w : World) :
    Calls Tryz.prog 107 #[.string s, .string ⟨#[c]⟩] w fun e w' => e = .returned (.bool (decide (0 ≤ Lib.indexByte s.data.toList c))) ∧ w' = w := Any.strings_Contains_one Tryz.lays144 s c w
open Go.RowKit Go.Lib in
theorem Tryz.strings_Contains (s sub : ByteArray) (m : Int) (w : World) (hs : s.size < 4294967281) (hm : w.cell? ⟨1, 0, none⟩ = some (.int .i64 m)) :
    Calls Tryz.prog 107 #[.string s, .string sub] w fun e w' => e = .returned (.bool (Lib.contains s.data.toList sub.data.toList)) ∧ w' = w := Any.strings_Contains Tryz.lays144 s sub m w hs hm
def Tryz.lays145_ren : Go.Shelf.Ren := ⟨fun | 145 => 104 | 220 => 123 | 219 => 150 | 217 => 169 | 225 => 170 | 224 => 171 | 267 => 172 | 266 => 177 | 314 => 178 | n => n, fun | 9 => 9 | 4 => 4 | 59 => 126 | 3 => 3 | 5 => 5 | 46 => 110 | 146 => 195 | 51 => 170 | n => n, fun | 1 => 1 | n => n⟩
theorem Tryz.lays145 : Go.Proofs.Lays.n145 Tryz.prog Tryz.lays145_ren := {
  mixed := by kernel_rfl
  f145 := Tryz.func104.trans (congrArg some (by kernel_rfl))
  f217 := Tryz.func169.trans (congrArg some (by kernel_rfl))
  f219 := Tryz.func150.trans (congrArg some (by kernel_rfl))
  f220 := Tryz.func123.trans (congrArg some (by kernel_rfl))
  f224 := Tryz.func171.trans (congrArg some (by kernel_rfl))
  f225 := Tryz.func170.trans (congrArg some (by kernel_rfl))
  f266 := Tryz.func177.trans (congrArg some (by kernel_rfl))
  f267 := Tryz.func172.trans (congrArg some (by kernel_rfl))
  f314 := Tryz.func178.trans (congrArg some (by kernel_rfl))
  t3 := Tryz.underlying3
  a3 := Tryz.isAgg3
  z3 := Tryz.sizeOf3
  v3 := Tryz.zeroValue3
  t4 := Tryz.underlying4
  a4 := Tryz.isAgg4
  z4 := Tryz.sizeOf4
  v4 := Tryz.zeroValue4
  t5 := Tryz.underlying5
  a5 := Tryz.isAgg5
  z5 := Tryz.sizeOf5
  v5 := Tryz.zeroValue5
  t9 := Tryz.underlying9
  a9 := Tryz.isAgg9
  z9 := Tryz.sizeOf9
  v9 := Tryz.zeroValue9
  t46 := Tryz.underlying110
  a46 := Tryz.isAgg110
  z46 := Tryz.sizeOf110
  v46 := Tryz.zeroValue110
  t51 := Tryz.underlying170
  a51 := Tryz.isAgg170
  z51 := Tryz.sizeOf170
  v51 := Tryz.zeroValue170
  t59 := Tryz.underlying126
  a59 := Tryz.isAgg126
  z59 := Tryz.sizeOf126
  v59 := Tryz.zeroValue126
  t146 := Tryz.underlying195
  a146 := Tryz.isAgg195
  z146 := Tryz.sizeOf195
  v146 := Tryz.zeroValue195
  g1 := by kernel_rfl }
open Go.RowKit Go.Lib in
theorem Tryz.strings_Cut (s sep : ByteArray) (m : Int) (w : World) (hs : s.size < 4294967281) (hm : w.cell? ⟨1, 0, none⟩ = some (.int .i64 m)) :
    Calls Tryz.prog 104 #[.string s, .string sep] w fun e w' => e = .returned (.tuple #[.string ⟨(Lib.cut s.data.toList sep.data.toList).1.toArray⟩, .string ⟨(Lib.cut s.data.toList sep.data.toList).2.1.toArray⟩, .bool (Lib.cut s.data.toList sep.data.toList).2.2]) ∧ ∃ n, w' = w.drewN n := Any.strings_Cut Tryz.lays145 s sep m w hs hm
def Tryz.lays190_ren : Go.Shelf.Ren := ⟨fun | 190 => 101 | 125 => 121 | 258 => 120 | 128 => 148 | 129 => 149 | 302 => 139 | 303 => 140 | 304 => 141 | 305 => 142 | 306 => 143 | 307 => 144 | 308 => 145 | 309 => 146 | 310 => 147 | 333 => 163 | 329 => 164 | 330 => 165 | 334 => 166 | 335 => 167 | 336 => 168 | 344 => 176 | n => n, fun | 31 => 119 | 9 => 9 | 3 => 3 | 46 => 110 | 0 => 0 | 51 => 170 | 53 => 172 | 4 => 4 | 183 => 163 | 182 => 162 | 131 => 167 | 5 => 5 | 218 => 181 | 222 => 185 | 228 => 193 | 229 => 79 | n => n, fun | n => n⟩
theorem Tryz.lays190 : Go.Proofs.Lays.n190 Tryz.prog Tryz.lays190_ren := {
  mixed := by kernel_rfl
  f125 := Tryz.func121.trans (congrArg some (by kernel_rfl))
  f128 := Tryz.func148.trans (congrArg some (by kernel_rfl))
  f129 := Tryz.func149.trans (congrArg some (by kernel_rfl))
  f190 := Tryz.func101.trans (congrArg some (by kernel_rfl))
  f258 := Tryz.func120.trans (congrArg some (by kernel_rfl))
  f302 := Tryz.func139.trans (congrArg some (by kernel_rfl))
  f303 := Tryz.func140.trans (congrArg some (by kernel_rfl))
  f304 := Tryz.func141.trans (congrArg some (by kernel_rfl))
  f305 := Tryz.func142.trans (congrArg some (by kernel_rfl))
  f306 := Tryz.func143.trans (congrArg some (by kernel_rfl))
  f307 := Tryz.func144.trans (congrArg some (by kernel_rfl))
  f308 := Tryz.func145.trans (congrArg some (by kernel_rfl))
  f309 := Tryz.func146.trans (congrArg some (by kernel_rfl))
  f310 := Tryz.func147.trans (congrArg some (by kernel_rfl))
  f329 := Tryz.func164.trans (congrArg some (by kernel_rfl))
  f330 := Tryz.func165.trans (congrArg some (by kernel_rfl))
  f333 := Tryz.func163.trans (congrArg some (by kernel_rfl))
  f334 := Tryz.func166.trans (congrArg some (by kernel_rfl))
  f335 := Tryz.func167.trans (congrArg some (by kernel_rfl))
  f336 := Tryz.func168.trans (congrArg some (by kernel_rfl))
  f344 := Tryz.func176.trans (congrArg some (by kernel_rfl))
  t0 := Tryz.underlying0
  a0 := Tryz.isAgg0
  z0 := Tryz.sizeOf0
  v0 := Tryz.zeroValue0
  t3 := Tryz.underlying3
  a3 := Tryz.isAgg3
  z3 := Tryz.sizeOf3
  v3 := Tryz.zeroValue3
  t4 := Tryz.underlying4
  a4 := Tryz.isAgg4
  z4 := Tryz.sizeOf4
  v4 := Tryz.zeroValue4
  t5 := Tryz.underlying5
  a5 := Tryz.isAgg5
  z5 := Tryz.sizeOf5
  v5 := Tryz.zeroValue5
  t9 := Tryz.underlying9
  a9 := Tryz.isAgg9
  z9 := Tryz.sizeOf9
  v9 := Tryz.zeroValue9
  t31 := Tryz.underlying119
  a31 := Tryz.isAgg119
  z31 := Tryz.sizeOf119
  v31 := Tryz.zeroValue119
  t46 := Tryz.underlying110
  a46 := Tryz.isAgg110
  z46 := Tryz.sizeOf110
  v46 := Tryz.zeroValue110
  t51 := Tryz.underlying170
  a51 := Tryz.isAgg170
  z51 := Tryz.sizeOf170
  v51 := Tryz.zeroValue170
  t53 := Tryz.underlying172
  a53 := Tryz.isAgg172
  z53 := Tryz.sizeOf172
  v53 := Tryz.zeroValue172
  t131 := Tryz.underlying167
  a131 := Tryz.isAgg167
  z131 := Tryz.sizeOf167
  v131 := Tryz.zeroValue167
  t182 := Tryz.underlying162
  a182 := Tryz.isAgg162
  z182 := Tryz.sizeOf162
  v182 := Tryz.zeroValue162
  t183 := Tryz.underlying163
  a183 := Tryz.isAgg163
  z183 := Tryz.sizeOf163
  v183 := Tryz.zeroValue163
  t218 := Tryz.underlying181
  a218 := Tryz.isAgg181
  z218 := Tryz.sizeOf181
  v218 := Tryz.zeroValue181
  t222 := Tryz.underlying185
  a222 := Tryz.isAgg185
  z222 := Tryz.sizeOf185
  v222 := Tryz.zeroValue185
  t228 := Tryz.underlying193
  a228 := Tryz.isAgg193
  z228 := Tryz.sizeOf193
  v228 := Tryz.zeroValue193
  t229 := Tryz.underlying79
  a229 := Tryz.isAgg79
  z229 := Tryz.sizeOf79
  v229 := Tryz.zeroValue79 }
open Go.Sort Go.RowKit in
theorem Tryz.slices_Sort_string (blk off cap : Nat) (ss : List (List UInt8)) (w : World) (hH : Holds encStr w blk off ss.toArray) (hblk : blk < w.heap.size) (hsz : ss.length < 4611686018427387904) :
    Calls Tryz.prog 101 #[.slice (some ⟨blk, off, none⟩) ss.length cap] w fun e w' =>
      e = .returned (.tuple #[]) ∧ ∃ n os, w' = grow (putRow encStr (Sort.ahead w n) blk off (ss.mergeSort fun x y => decide (x ≤ y)).toArray) os := Any.slices_Sort_string Tryz.lays190 blk off cap ss w hH hblk hsz
def Tryz.lays99_ren : Go.Shelf.Ren := ⟨fun | 99 => 55 | 206 => 82 | n => n, fun | 9 => 9 | 4 => 4 | 3 => 3 | n => n, fun | n => n⟩
theorem Tryz.lays99 : Go.Proofs.Lays.n99 Tryz.prog Tryz.lays99_ren := {
  mixed := by kernel_rfl
  f99 := Tryz.func55.trans (congrArg some (by kernel_rfl))
  f206 := Tryz.func82.trans (congrArg some (by kernel_rfl))
  t3 := Tryz.underlying3
  a3 := Tryz.isAgg3
  z3 := Tryz.sizeOf3
  v3 := Tryz.zeroValue3
  t4 := Tryz.underlying4
  a4 := Tryz.isAgg4
  z4 := Tryz.sizeOf4
  v4 := Tryz.zeroValue4
  t9 := Tryz.underlying9
  a9 := Tryz.isAgg9
  z9 := Tryz.sizeOf9
  v9 := Tryz.zeroValue9 }
open Go.RowKit Go.Lib in
theorem Tryz.strings_HasPrefix (s p : ByteArray) (w : World) :
    Calls Tryz.prog 55 #[.string s, .string p] w fun e w' => e = .returned (.bool (Lib.hasPrefix s.data.toList p.data.toList)) ∧ w' = w := Any.strings_HasPrefix Tryz.lays99 s p w
def Tryz.lays100_ren : Go.Shelf.Ren := ⟨fun | 100 => 125 | 207 => 155 | n => n, fun | 9 => 9 | 4 => 4 | 3 => 3 | n => n, fun | n => n⟩
theorem Tryz.lays100 : Go.Proofs.Lays.n100 Tryz.prog Tryz.lays100_ren := {
  mixed := by kernel_rfl
  f100 := Tryz.func125.trans (congrArg some (by kernel_rfl))
  f207 := Tryz.func155.trans (congrArg some (by kernel_rfl))
  t3 := Tryz.underlying3
  a3 := Tryz.isAgg3
  z3 := Tryz.sizeOf3
  v3 := Tryz.zeroValue3
  t4 := Tryz.underlying4
  a4 := Tryz.isAgg4
  z4 := Tryz.sizeOf4
  v4 := Tryz.zeroValue4
  t9 := Tryz.underlying9
  a9 := Tryz.isAgg9
  z9 := Tryz.sizeOf9
  v9 := Tryz.zeroValue9 }
open Go.RowKit Go.Lib in
theorem Tryz.strings_HasSuffix (s p : ByteArray) (w : World) (hs : s.size ≤ 9223372036854775807) :
    Calls Tryz.prog 125 #[.string s, .string p] w fun e w' => e = .returned (.bool (Lib.hasSuffix s.data.toList p.data.toList)) ∧ w' = w := Any.strings_HasSuffix Tryz.lays100 s p w hs
def Tryz.lays197_ren : Go.Shelf.Ren := ⟨fun | 197 => 133 | 260 => 159 | n => n, fun | 9 => 9 | 21 => 21 | 3 => 3 | 4 => 4 | 5 => 5 | 105 => 145 | 119 => 188 | 0 => 0 | 46 => 110 | 139 => 191 | 138 => 190 | n => n, fun | 3 => 2 | 4 => 3 | n => n⟩
theorem Tryz.lays197 : Go.Proofs.Lays.n197 Tryz.prog Tryz.lays197_ren := {
  mixed := by kernel_rfl
  f197 := Tryz.func133.trans (congrArg some (by kernel_rfl))
  f260 := Tryz.func159.trans (congrArg some (by kernel_rfl))
  t0 := Tryz.underlying0
  a0 := Tryz.isAgg0
  z0 := Tryz.sizeOf0
  v0 := Tryz.zeroValue0
  t3 := Tryz.underlying3
  a3 := Tryz.isAgg3
  z3 := Tryz.sizeOf3
  v3 := Tryz.zeroValue3
  t4 := Tryz.underlying4
  a4 := Tryz.isAgg4
  z4 := Tryz.sizeOf4
  v4 := Tryz.zeroValue4
  t5 := Tryz.underlying5
  a5 := Tryz.isAgg5
  z5 := Tryz.sizeOf5
  v5 := Tryz.zeroValue5
  t9 := Tryz.underlying9
  a9 := Tryz.isAgg9
  z9 := Tryz.sizeOf9
  v9 := Tryz.zeroValue9
  t21 := Tryz.underlying21
  a21 := Tryz.isAgg21
  z21 := Tryz.sizeOf21
  v21 := Tryz.zeroValue21
  t46 := Tryz.underlying110
  a46 := Tryz.isAgg110
  z46 := Tryz.sizeOf110
  v46 := Tryz.zeroValue110
  t105 := Tryz.underlying145
  a105 := Tryz.isAgg145
  z105 := Tryz.sizeOf145
  v105 := Tryz.zeroValue145
  t119 := Tryz.underlying188
  a119 := Tryz.isAgg188
  z119 := Tryz.sizeOf188
  t138 := Tryz.underlying190
  a138 := Tryz.isAgg190
  z138 := Tryz.sizeOf190
  v138 := Tryz.zeroValue190
  t139 := Tryz.underlying191
  a139 := Tryz.isAgg191
  z139 := Tryz.sizeOf191
  v139 := Tryz.zeroValue191
  g3 := by kernel_rfl
  g4 := by kernel_rfl }
open Go.RowKit Go.Lib in
theorem Tryz.utf8_DecodeRuneInString (s : ByteArray) (w : World) (hT : Lib.Utf8Tabs 2 3 w) :
    Calls Tryz.prog 133 #[.string s] w fun e w' => e = .returned (.tuple #[.int .i32 (Lib.decodeGo s).1, .int .i64 (Lib.decodeGo s).2]) ∧ Below w.heap.size w w' := Any.utf8_DecodeRuneInString Tryz.lays197 s w hT
def Tryz.lays194_ren : Go.Shelf.Ren := ⟨fun | 194 => 102 | n => n, fun | 31 => 119 | 9 => 9 | 3 => 3 | 4 => 4 | 0 => 0 | n => n, fun | n => n⟩
theorem Tryz.lays194 : Go.Proofs.Lays.n194 Tryz.prog Tryz.lays194_ren := {
  mixed := by kernel_rfl
  f194 := Tryz.func102.trans (congrArg some (by kernel_rfl))
  t0 := Tryz.underlying0
  a0 := Tryz.isAgg0
  z0 := Tryz.sizeOf0
  v0 := Tryz.zeroValue0
  t3 := Tryz.underlying3
  a3 := Tryz.isAgg3
  z3 := Tryz.sizeOf3
  v3 := Tryz.zeroValue3
  t4 := Tryz.underlying4
  a4 := Tryz.isAgg4
  z4 := Tryz.sizeOf4
  v4 := Tryz.zeroValue4
  t9 := Tryz.underlying9
  a9 := Tryz.isAgg9
  z9 := Tryz.sizeOf9
  v9 := Tryz.zeroValue9
  t31 := Tryz.underlying119
  a31 := Tryz.isAgg119
  z31 := Tryz.sizeOf119
  v31 := Tryz.zeroValue119 }
open Go.RowKit Go.Lib Go.Sort in
theorem Tryz.slices_Compact_string (blk off cap : Nat) (zs : List (List UInt8)) (w : World) (hH : Holds encStr w blk off zs.toArray) (hsz : zs.length ≤ 9223372036854775807) (hcap : zs.length ≤ cap) :
    Calls Tryz.prog 102 #[.slice (some ⟨blk, off, none⟩) zs.length cap] w fun e w' => e = .returned (.slice (some ⟨blk, off, none⟩) (Lib.compact zs).length cap) ∧ ∃ q, w' = putRow encStr (Sort.ahead w q) blk off (Lib.compact zs ++ List.replicate (zs.length - (Lib.compact zs).length) []).toArray := Any.slices_Compact_string Tryz.lays194 blk off cap zs w hH hsz hcap
open Go.RowKit Go.Lib Go.Sort in
theorem Tryz.slices_Compact_string_empty (a : Option Addr) (cap : Nat) (w : World) :
    Calls Tryz.prog 102 #[.slice a 0 cap] w fun e w' => e = .returned (.slice a 0 cap) ∧ w' = w := Any.slices_Compact_string_empty Tryz.lays194 a cap w
open Go.RowKit Go.Sort in
theorem Tryz.slices_Sort_string_none (p : Option Addr) (cap : Nat) (w : World) :
    Calls Tryz.prog 101 #[.slice p 0 cap] w fun e w' => e = .returned (.tuple #[]) ∧ w' = w := Any.slices_Sort_string_none Tryz.lays190 p cap w
end Go.Proofs
