/- The program's SignText gives the bytes of the signs, one behind the other. Contracts of Clean and CleanOk, of the program and of the model. Signs that are written are read as they were: plain, no program in it. Plain tests of numbers: the kinds of signs. No program in it. Contracts of IsBlank and IsText, of the program and of the model, and of the model's test of a span. Contracts of IsText, of the program and of the model. -/
import Derived.Test.YtbmmghkieolpkaaGreatDoorMR2119
import Derived.Test.YtbmmghkieolpkaaGreatDoorMR2112
import Derived.ProofKit
import Derived.Test.YtbmmghkieolpkaaGreatDoorSgOk
namespace Go.Proofs.YtbmmghkieolpkaaGreatDoor.Sg
open Go.ChangeShapes Go.WideShapes Go.ChangeAt Go.RowKit

set_option maxHeartbeats 1000000 in
theorem implSignText (zs : List Int) (a : Option Addr) (ca : Nat) (w : World) (ha : Ints w a zs) (hn : zs.length ≤ 17592186044416) :
    Calls Tryz.prog 179 #[.slice a zs.length ca] w fun e w' => e = .returned (.string (textS zs)) ∧ Below w.heap.size w w' := by
  generalize hlen : zs.length = n at *
  have Hlen : Hid (zs.length = n) := hlen
  clear hlen
  go_enter Tryz.func179, Tryz.ntmps179
  go_wp2
  go_loopw [8] (fun i wr => ∃ k : Nat, k ≤ n ∧ i = .int .i64 k ∧ Lib.IsBuilderF 130 5 w.heap.size w.heap.size (Lib.byteCells (sgBytes (zs.take k))) wr ∧ Below w.heap.size w wr) (fun i _ => n - (intOf i).toNat)
  case atStart => exact ⟨0, Nat.zero_le _, rfl, Lib.IsBuilderF.of (Lib.fresh_isBuilder 130 5 w), (Below.refl _ _).alloc (Nat.le_refl _) _⟩
  case round =>
    obtain ⟨k, hk, rfl, hI, hbel⟩ := hrel
    by_cases hlt : k < n
    · rcases ha with ha | ⟨ba, oa, rfl, hba, hca⟩
      · have := Hlen.out
        rw [ha] at this
        simp at this
        omega
      have hca' := hca k (by rw [Hlen.out]; exact hlt)
      have h1 : wr.cell? ⟨ba, oa + k, none⟩ = some (.int .i64 (zs.getD k 0)) := (hbel.cell (by exact hba)).trans hca'
      have hst := sgBytes_take zs k (by rw [Hlen.out]; exact hlt)
      have hle := sgBytes_length (zs.take k)
      have hle2 : (zs.take k).length ≤ k := List.length_take_le _ _
      clear hca hca'
      have hps := putS_size (zs.getD k 0)
      generalize hz : zs.getD k 0 = z at *
      clear hz
      have Hst : Hid (sgBytes (zs.take (k + 1)) = sgBytes (zs.take k) ++ (putS z).data.toList) := hst
      clear hst
      generalize hacc : sgBytes (zs.take k) = acc at *
      clear hacc
      go_wp2_with fail
      refine (implPutSign z _).mono ?_
      rintro e w1 ⟨rfl, rfl⟩
      go_wp2_with fail
      refine (writeString w.heap.size w.heap.size (Lib.byteCells acc) (putS z) _ hI ?_ hbel.size).mono ?_
      · rw [Lib.byteCells_length]
        omega
      rintro e w2 ⟨rfl, hI2, hb2, _⟩
      have hI3 : Lib.IsBuilderF 130 5 w.heap.size w.heap.size (Lib.byteCells (sgBytes (zs.take (k + 1)))) w2 := by
        rw [Hst.out]
        have e2 : Lib.byteCells (acc ++ (putS z).data.toList) = Lib.byteCells acc ++ Lib.strCells (putS z) := by simp [Lib.byteCells, Lib.strCells]
        rw [e2]
        exact .inr hI2
      have hbel2 := hbel.trans hb2
      clear hI hI2 hb2 hbel
      go_wp2
      go_roundw
      case rel => exact ⟨k + 1, by omega, by go_num, hI3, hbel2⟩
      case measure => simp [intOf]; omega
    · have hkn : k = n := by omega
      subst hkn
      have hall : zs.take k = zs := List.take_of_length_le (by rw [Hlen.out]; exact Nat.le_refl _)
      rw [hall] at hI
      clear hall
      go_wp2_with fail
      refine (Tryz.Builder_String_any_k w.heap.size w.heap.size (sgBytes zs) _ hI hbel.size).mono ?_
      rintro e w2 ⟨rfl, _, hb2, _⟩
      go_wp2
      go_ret
      exact ⟨rfl, hbel.trans hb2⟩

end Go.Proofs.YtbmmghkieolpkaaGreatDoor.Sg

namespace Go.Proofs.YtbmmghkieolpkaaGreatDoor.Sg
open Go.ChangeShapes Go.WideShapes Go.ChangeAt Go.RowKit

/-- A text with its signs written anew. -/
def cleanS (s : ByteArray) : ByteArray := textS (signsL s)

set_option maxHeartbeats 1000000 in
theorem specClean (s : ByteArray) (w : World) (hs : s.size ≤ 17592186044416) :
    Calls Tryz.prog 112 #[.string s] w fun e w' => e = .returned (.string (cleanS s)) ∧ Below w.heap.size w w' := by
  have hn := signsL_length s
  go_enter Tryz.func112, Tryz.ntmps112
  go_wp2_with fail
  refine (specSigns s _ hs).mono ?_
  rintro e w1 ⟨a, cap, rfl, o1, b1⟩
  go_wp2_with fail
  refine (specSignText (signsL s) a cap _ o1.ints (by omega)).mono ?_
  rintro e w2 ⟨rfl, b2⟩
  go_wp2_with fail
  go_ret
  exact ⟨rfl, b1.trans (b2.mono b1.size)⟩

set_option maxHeartbeats 1000000 in
theorem implClean (s : ByteArray) (w : World) (hs : s.size ≤ 17592186044416) (hT : Lib.Utf8Tabs 2 3 w) :
    Calls Tryz.prog 173 #[.string s] w fun e w' => e = .returned (.string (cleanS s)) ∧ Below w.heap.size w w' := by
  have hn := signsL_length s
  have HT : Hid (Lib.Utf8Tabs 2 3 w) := hT
  clear hT
  go_enter Tryz.func173, Tryz.ntmps173
  go_wp2_with fail
  refine (implSigns s _ hs HT.out).mono ?_
  rintro e w1 ⟨a, cap, rfl, o1, b1⟩
  go_wp2_with fail
  refine (implSignText (signsL s) a cap _ o1.ints (by omega)).mono ?_
  rintro e w2 ⟨rfl, b2⟩
  go_wp2_with fail
  go_ret
  exact ⟨rfl, b1.trans (b2.mono b1.size)⟩

/-- A text is clean. -/
def cleanB (s : ByteArray) : Bool := (cleanS s).toList == s.toList

set_option maxHeartbeats 1000000 in
theorem specCleanOk (s : ByteArray) (w : World) (hs : s.size ≤ 17592186044416) :
    Calls Tryz.prog 96 #[.string s] w fun e w' => e = .returned (.bool (cleanB s)) ∧ Below w.heap.size w w' := by
  go_enter Tryz.func96, Tryz.ntmps96
  go_wp2_with fail
  refine (specClean s _ hs).mono ?_
  rintro e w1 ⟨rfl, b1⟩
  go_wp2_with fail
  go_ret
  exact ⟨rfl, b1⟩

set_option maxHeartbeats 1000000 in
theorem implCleanOk (s : ByteArray) (w : World) (hs : s.size ≤ 17592186044416) (hT : Lib.Utf8Tabs 2 3 w) :
    Calls Tryz.prog 151 #[.string s] w fun e w' => e = .returned (.bool (cleanB s)) ∧ Below w.heap.size w w' := by
  have HT : Hid (Lib.Utf8Tabs 2 3 w) := hT
  clear hT
  go_enter Tryz.func151, Tryz.ntmps151
  go_wp2_with fail
  refine (implClean s _ hs HT.out).mono ?_
  rintro e w1 ⟨rfl, b1⟩
  go_wp2_with fail
  go_ret
  exact ⟨rfl, b1⟩

end Go.Proofs.YtbmmghkieolpkaaGreatDoor.Sg

namespace Go.Proofs.YtbmmghkieolpkaaGreatDoor.Sg

/-- What is read of a number that was written. -/
def fix (z : Int) : Int := if okB z = true then z else 65533

theorem bN_list (l : List UInt8) (i : Nat) : bN ⟨l.toArray⟩ i = (l.getD i 0).toNat := by
  unfold bN
  show (l.toArray[i]!).toNat = _
  rw [getElem!_def]
  simp only [List.getElem?_toArray, List.getD_eq_getElem?_getD]
  cases l[i]? <;> rfl

theorem size_list (l : List UInt8) : (⟨l.toArray⟩ : ByteArray).size = l.length := by
  show l.toArray.size = l.length
  simp

theorem bN_mid (pre b post : List UInt8) (j : Nat) (h : j < b.length) : bN ⟨(pre ++ (b ++ post)).toArray⟩ (pre.length + j) = (b.getD j 0).toNat := by
  rw [bN_list]
  congr 1
  simp only [List.getD_eq_getElem?_getD]
  rw [List.getElem?_append_right (by omega), show pre.length + j - pre.length = j by omega, List.getElem?_append_left h]

theorem u8_of (x : Int) (_h0 : 0 ≤ x) (h1 : x < 256) : (UInt8.ofNat x.toNat).toNat = x.toNat := by
  simp
  omega

theorem putS_list (z : Int) : (putS z).data.toList = (Lib.encodeRuneZ z).map fun n => UInt8.ofNat n.toNat := by
  simp [putS, strOfNums]

/-- A sign's bytes, wherever they stand, are read as the sign. -/
theorem getS_put (z : Int) (hz : okB z = true) (pre post : List UInt8) :
    getS ⟨(pre ++ ((putS z).data.toList ++ post)).toArray⟩ pre.length = (z.toNat, (putS z).size) := by
  have hb := okB_of hz
  have hlen : (putS z).data.toList.length = (putS z).size := Array.length_toList
  have hps := putS_size z
  have hin : pre.length < (⟨(pre ++ ((putS z).data.toList ++ post)).toArray⟩ : ByteArray).size := by
    rw [size_list]
    simp only [List.length_append]
    omega
  have hsz : (⟨(pre ++ ((putS z).data.toList ++ post)).toArray⟩ : ByteArray).size - pre.length = (putS z).size + post.length := by
    rw [size_list]
    simp only [List.length_append]
    omega
  have hB := fun j h => bN_mid pre (putS z).data.toList post j h
  rw [getS_decode _ _ hin, Lib.decode_at, hsz]
  generalize hs : (⟨(pre ++ ((putS z).data.toList ++ post)).toArray⟩ : ByteArray) = s at *
  have e0 := hB 0 (by omega)
  rw [Nat.add_zero] at e0
  have n1 := bN_lt s (pre.length + 1)
  have n2 := bN_lt s (pre.length + 2)
  have n3 := bN_lt s (pre.length + 3)
  show (if Lib.decodeN _ (bN s pre.length) (bN s (pre.length + 1)) (bN s (pre.length + 2)) (bN s (pre.length + 3)) = (65533, 1) then _ else Lib.decodeN _ (bN s pre.length) (bN s (pre.length + 1)) (bN s (pre.length + 2)) (bN s (pre.length + 3))) = _
  by_cases c1 : z ≤ 127
  · have hl := putS_list z
    rw [Lib.encodeRuneZ_one (by omega) c1] at hl
    rw [hl] at e0 hlen
    simp only [List.map_cons, List.map_nil, List.getD_cons_zero, List.length_cons, List.length_nil] at e0 hlen
    rw [u8_of z (by omega) (by omega)] at e0
    rw [e0, ← hlen]
    have hd : ∀ n b1 b2 b3, Lib.decodeN n z.toNat b1 b2 b3 = (z.toNat, 1) := fun n b1 b2 b3 => by
      unfold Lib.decodeN
      rw [if_pos (by omega)]
    rw [hd, if_neg (by simp; omega)]
  · by_cases c2 : z ≤ 2047
    · have hl := putS_list z
      rw [Lib.encodeRuneZ_two (by omega) c2] at hl
      have e1 := hB 1 (by rw [hl]; simp)
      rw [hl] at e0 e1 hlen
      simp only [List.map_cons, List.map_nil, List.getD_cons_zero, List.getD_cons_succ, List.length_cons, List.length_nil] at e0 e1 hlen
      rw [u8_of _ (by omega) (by omega)] at e0 e1
      rw [dec2 _ _ _ _ _ (by omega) (by omega) n1]
      have l0 : loN (bN s pre.length) = 128 := by unfold loN; rw [if_neg (by omega), if_neg (by omega)]
      have l1 : hiN (bN s pre.length) = 191 := by unfold hiN; rw [if_neg (by omega), if_neg (by omega)]
      rw [l0, l1]
      have hc : 1 < (putS z).size + post.length ∧ 128 ≤ bN s (pre.length + 1) ∧ bN s (pre.length + 1) ≤ 191 := by omega
      simp only [if_pos hc]
      rw [if_neg (by simp)]
      ext
      · simp only
        omega
      · simp only
        omega
    · by_cases c3 : z ≤ 65535
      · have hl := putS_list z
        rw [Lib.encodeRuneZ_three (by omega)] at hl
        have e1 := hB 1 (by rw [hl]; simp)
        have e2 := hB 2 (by rw [hl]; simp)
        rw [hl] at e0 e1 e2 hlen
        simp only [List.map_cons, List.map_nil, List.getD_cons_zero, List.getD_cons_succ, List.length_cons, List.length_nil] at e0 e1 e2 hlen
        rw [u8_of _ (by omega) (by omega)] at e0 e1 e2
        rw [dec3 _ _ _ _ _ (by omega) (by omega) n1 n2]
        have l : (bN s pre.length = 224 ∧ loN (bN s pre.length) = 160 ∧ hiN (bN s pre.length) = 191) ∨ (bN s pre.length = 237 ∧ loN (bN s pre.length) = 128 ∧ hiN (bN s pre.length) = 159) ∨ (bN s pre.length ≠ 224 ∧ bN s pre.length ≠ 237 ∧ loN (bN s pre.length) = 128 ∧ hiN (bN s pre.length) = 191) := by
          unfold loN hiN
          repeat' split
          all_goals omega
        have hc : (1 < (putS z).size + post.length ∧ loN (bN s pre.length) ≤ bN s (pre.length + 1) ∧ bN s (pre.length + 1) ≤ hiN (bN s pre.length)) ∧ (2 < (putS z).size + post.length ∧ 128 ≤ bN s (pre.length + 2) ∧ bN s (pre.length + 2) ≤ 191) := by omega
        simp only [if_pos hc]
        rw [if_neg (by simp)]
        ext
        · simp only
          omega
        · simp only
          omega
      · have hl := putS_list z
        rw [Lib.encodeRuneZ_four (by omega) (by omega)] at hl
        have e1 := hB 1 (by rw [hl]; simp)
        have e2 := hB 2 (by rw [hl]; simp)
        have e3 := hB 3 (by rw [hl]; simp)
        rw [hl] at e0 e1 e2 e3 hlen
        simp only [List.map_cons, List.map_nil, List.getD_cons_zero, List.getD_cons_succ, List.length_cons, List.length_nil] at e0 e1 e2 e3 hlen
        rw [u8_of _ (by omega) (by omega)] at e0 e1 e2 e3
        rw [dec4 _ _ _ _ _ (by omega) (by omega) n1 n2 n3]
        have l : (bN s pre.length = 240 ∧ loN (bN s pre.length) = 144 ∧ hiN (bN s pre.length) = 191) ∨ (bN s pre.length = 244 ∧ loN (bN s pre.length) = 128 ∧ hiN (bN s pre.length) = 143) ∨ (bN s pre.length ≠ 240 ∧ bN s pre.length ≠ 244 ∧ loN (bN s pre.length) = 128 ∧ hiN (bN s pre.length) = 191) := by
          unfold loN hiN
          repeat' split
          all_goals omega
        have hc : (1 < (putS z).size + post.length ∧ loN (bN s pre.length) ≤ bN s (pre.length + 1) ∧ bN s (pre.length + 1) ≤ hiN (bN s pre.length)) ∧ (2 < (putS z).size + post.length ∧ 128 ≤ bN s (pre.length + 2) ∧ bN s (pre.length + 2) ≤ 191) ∧ (3 < (putS z).size + post.length ∧ 128 ≤ bN s (pre.length + 3) ∧ bN s (pre.length + 3) ≤ 191) := by omega
        simp only [if_pos hc]
        rw [if_neg (by simp)]
        ext
        · simp only
          omega
        · simp only
          omega

theorem putS_fix (z : Int) : putS (fix z) = putS z := by
  unfold fix
  cases h : okB z
  · rw [if_neg (by simp)]
    exact (putS_bad h).symm
  · rw [if_pos rfl]

theorem fix_ok (z : Int) : okB (fix z) = true := by
  unfold fix
  cases h : okB z
  · rw [if_neg (by simp)]
    decide
  · rw [if_pos rfl]
    exact h

theorem sgBytes_fix (zs : List Int) : sgBytes (zs.map fix) = sgBytes zs := by
  unfold sgBytes
  rw [List.flatMap_map]
  congr 1
  funext z
  rw [putS_fix]

theorem signsAt_text (zs : List Int) : ∀ pre : List UInt8, signsAt ⟨(pre ++ sgBytes zs).toArray⟩ pre.length = zs.map fix := by
  induction zs with
  | nil =>
    intro pre
    rw [signsAt_end _ _ (by rw [size_list]; simp [sgBytes])]
    rfl
  | cons z zs ih =>
    intro pre
    have hcons : sgBytes (z :: zs) = (putS z).data.toList ++ sgBytes zs := by simp [sgBytes]
    have hps := putS_size z
    have hlen : (putS z).data.toList.length = (putS z).size := Array.length_toList
    have hg := getS_put (fix z) (fix_ok z) pre (sgBytes zs)
    rw [putS_fix] at hg
    rw [hcons]
    have hin : pre.length < (⟨(pre ++ ((putS z).data.toList ++ sgBytes zs)).toArray⟩ : ByteArray).size := by
      rw [size_list]
      simp only [List.length_append]
      omega
    rw [signsAt_step _ _ hin, hg]
    have ih2 := ih (pre ++ (putS z).data.toList)
    rw [List.append_assoc, List.length_append, hlen] at ih2
    rw [ih2]
    have h0 : 0 ≤ fix z := (okB_of (fix_ok z)).1
    simp only [List.map_cons]
    rw [Int.toNat_of_nonneg h0]

/-- Signs that are written are read as they were. -/
theorem signs_text (zs : List Int) : signsL (textS zs) = zs.map fix := signsAt_text zs []

theorem clean_text (zs : List Int) : cleanS (textS zs) = textS zs := by
  unfold cleanS
  rw [signs_text]
  unfold textS
  rw [sgBytes_fix]

theorem cleanB_text (zs : List Int) : cleanB (textS zs) = true := by
  unfold cleanB
  rw [clean_text]
  simp

theorem cleanB_clean (s : ByteArray) : cleanB (cleanS s) = true := cleanB_text _
theorem clean_clean (s : ByteArray) : cleanS (cleanS s) = cleanS s := clean_text _

end Go.Proofs.YtbmmghkieolpkaaGreatDoor.Sg

namespace Go.Proofs.YtbmmghkieolpkaaGreatDoor.Sg

/-- A number lies in a span. -/
def inP (n : Int) (p : Int × Int) : Bool := decide (p.1 ≤ n ∧ n ≤ p.2)
/-- A number lies in one of some spans. -/
def withinB (l : List (Int × Int)) (n : Int) : Bool := l.any (inP n)

def blankB (n : Int) : Bool := decide (n = 9 ∨ n = 10 ∨ n = 12 ∨ n = 13 ∨ n = 32)
def letterL : List (Int × Int) := [(65, 90), (97, 122)]
def letterB (n : Int) : Bool := withinB letterL n
def firstR : List (Int × Int) := [(192, 214), (216, 246), (248, 767), (880, 893), (895, 8191), (8204, 8205), (8304, 8591), (11264, 12271), (12289, 55295), (63744, 64975), (65008, 65533), (65536, 983039)]
def firstL : List (Int × Int) := (95, 95) :: firstR
def firstB (n : Int) : Bool := letterB n || withinB firstL n
def nextR : List (Int × Int) := [(48, 57), (768, 879), (8255, 8256)]
def nextL : List (Int × Int) := [(45, 46), (48, 57), (183, 183), (768, 879), (8255, 8256)]
def nextB (n : Int) : Bool := firstB n || withinB nextL n

/-- The span in which a number lies first; the one of two noughts where it lies in none. -/
def spanS : List (Int × Int) → Int → Int × Int
  | [], _ => (0, 0)
  | p :: l, n => if inP n p then p else spanS l n

theorem spanS_any (l : List (Int × Int)) (n : Int) (h : ∀ p ∈ l, p ≠ (0, 0)) : (!decide (spanS l n = (0, 0))) = withinB l n := by
  induction l with
  | nil => rfl
  | cons p l ih =>
    have ih' := ih fun q hq => h q (List.mem_cons_of_mem _ hq)
    have hp := h p List.mem_cons_self
    unfold spanS withinB
    rw [List.any_cons]
    cases hi : inP n p
    · simp only [Bool.false_or]
      exact ih'
    · simp [hp]

theorem spanS_drop (l : List (Int × Int)) (n : Int) (k : Nat) (hk : k < l.length) : spanS (l.drop k) n = if inP n (l.getD k (0, 0)) then l.getD k (0, 0) else spanS (l.drop (k + 1)) n := by
  rw [List.drop_eq_getElem_cons hk]
  unfold spanS
  simp [hk]
  cases l.drop (k + 1) <;> simp [spanS]

theorem within_drop (l : List (Int × Int)) (n : Int) (k : Nat) (hk : k < l.length) : withinB (l.drop k) n = (inP n (l.getD k (0, 0)) || withinB (l.drop (k + 1)) n) := by
  rw [List.drop_eq_getElem_cons hk]
  unfold withinB
  rw [List.any_cons]
  simp [hk]

theorem first_split (n : Int) : firstB n = (letterB n || decide (n = 95) || withinB firstR n) := by
  unfold firstB firstL
  rw [Bool.or_assoc]
  congr 1
  unfold withinB
  rw [List.any_cons]
  congr 1
  unfold inP
  simp only
  congr 1
  apply propext
  omega

theorem next_split (n : Int) : nextB n = (firstB n || decide (n = 45) || decide (n = 46) || decide (n = 183) || withinB nextR n) := by
  unfold nextB nextL withinB nextR inP
  simp only [List.any_cons, List.any_nil, Bool.or_false, Bool.or_assoc]
  congr 1
  rw [Bool.eq_iff_iff]
  simp only [Bool.or_eq_true, decide_eq_true_eq]
  omega

end Go.Proofs.YtbmmghkieolpkaaGreatDoor.Sg

namespace Go.Proofs.YtbmmghkieolpkaaGreatDoor.Sg
open Go.ChangeShapes Go.WideShapes Go.ChangeAt Go.RowKit

set_option maxHeartbeats 1000000 in
theorem l1In_kd (n lo hi : Int) (w : World) :
    Calls Tryz.prog 69 #[.int .i64 n, .int .i64 lo, .int .i64 hi] w fun e w' => e = .returned (.bool (inP n (lo, hi))) ∧ w' = w := by
  by_cases h1 : lo ≤ n
  · by_cases h2 : n ≤ hi
    · have ho : inP n (lo, hi) = true := decide_eq_true ⟨h1, h2⟩
      rw [ho]
      go_enter Tryz.func69, Tryz.ntmps69
      go_wp2
      go_ret
      exact ⟨rfl, rfl⟩
    · have ho : inP n (lo, hi) = false := decide_eq_false fun h => h2 h.2
      rw [ho]
      go_enter Tryz.func69, Tryz.ntmps69
      go_wp2
      go_ret
      exact ⟨rfl, rfl⟩
  · have ho : inP n (lo, hi) = false := decide_eq_false fun h => h1 h.1
    rw [ho]
    go_enter Tryz.func69, Tryz.ntmps69
    go_wp2
    go_ret
    exact ⟨rfl, rfl⟩

theorem same_below {B : Nat} {a w w' : World} (h : w' = w) (b : Below B a w) : Below B a w' := h ▸ b

theorem six (n : Int) : n = 9 ∨ n = 10 ∨ n = 12 ∨ n = 13 ∨ n = 32 ∨ (n ≠ 9 ∧ n ≠ 10 ∧ n ≠ 12 ∧ n ≠ 13 ∧ n ≠ 32) := by omega


end Go.Proofs.YtbmmghkieolpkaaGreatDoor.Sg

namespace Go.Proofs.YtbmmghkieolpkaaGreatDoor.Sg
open Go.ChangeShapes Go.WideShapes Go.ChangeAt Go.RowKit

def textB (n : Int) : Bool := decide (n = 9 ∨ n = 10 ∨ n = 13 ∨ (okB n = true ∧ 32 ≤ n ∧ n ≠ 65534 ∧ n ≠ 65535))

theorem sixT (n : Int) : n = 9 ∨ n = 10 ∨ n = 13 ∨ n = 65534 ∨ n = 65535 ∨ (n ≠ 9 ∧ n ≠ 10 ∧ n ≠ 13 ∧ n ≠ 65534 ∧ n ≠ 65535) := by omega

set_option maxHeartbeats 1000000 in
theorem implIsText (n : Int) (w : World) :
    Calls Tryz.prog 129 #[.int .i64 n] w fun e w' => e = .returned (.bool (textB n)) ∧ w' = w := by
  rcases sixT n with rfl | rfl | rfl | rfl | rfl | ⟨h1, h2, h3, h4, h5⟩
  iterate 5
    · go_enter Tryz.func129, Tryz.ntmps129
      go_wp2
      go_ret
      exact ⟨rfl, rfl⟩
  have g1 : (n == 9) = false := beq_false_of_ne h1
  have g2 : (n == 10) = false := beq_false_of_ne h2
  have g3 : (n == 13) = false := beq_false_of_ne h3
  have g4 : (n == 65534) = false := beq_false_of_ne h4
  have g5 : (n == 65535) = false := beq_false_of_ne h5
  by_cases h6 : (32 : Int) ≤ n
  · have ho : textB n = okB n := by
      unfold textB
      cases hk : okB n
      · exact decide_eq_false (by simp [h1, h2, h3])
      · exact decide_eq_true (.inr (.inr (.inr ⟨rfl, h6, h4, h5⟩)))
    rw [ho]
    clear h1 h2 h3 h4 h5 ho
    go_enter Tryz.func129, Tryz.ntmps129
    go_wp2_with fail
    refine (implSignOk n _).mono ?_
    rintro e w1 ⟨rfl, rfl⟩
    go_wp2
    go_ret
    exact ⟨rfl, rfl⟩
  · have ho : textB n = false := decide_eq_false (by simp [h1, h2, h3, h6])
    rw [ho]
    clear h1 h2 h3 h4 h5 ho
    go_enter Tryz.func129, Tryz.ntmps129
    go_wp2
    go_ret
    exact ⟨rfl, rfl⟩

set_option maxHeartbeats 1000000 in
theorem specIsText (n : Int) (w : World) :
    Calls Tryz.prog 94 #[.int .i64 n] w fun e w' => e = .returned (.bool (textB n)) ∧ w' = w := by
  by_cases h123 : n = 9 ∨ n = 10 ∨ n = 13
  · rcases h123 with rfl | rfl | rfl
    iterate 3
      · go_enter Tryz.func94, Tryz.ntmps94
        go_wp2
        go_ret
        exact ⟨rfl, rfl⟩
  have h1 : n ≠ 9 := fun h => h123 (.inl h)
  have h2 : n ≠ 10 := fun h => h123 (.inr (.inl h))
  have h3 : n ≠ 13 := fun h => h123 (.inr (.inr h))
  have g1 : (n == 9) = false := beq_false_of_ne h1
  have g2 : (n == 10) = false := beq_false_of_ne h2
  have g3 : (n == 13) = false := beq_false_of_ne h3
  clear h123
  cases hk : okB n
  · have ho : textB n = false := decide_eq_false (by simp [h1, h2, h3, hk])
    rw [ho]
    have Hk : Hid (okB n = false) := hk
    clear h1 h2 h3 ho hk
    go_enter Tryz.func94, Tryz.ntmps94
    go_wp2_with fail
    refine (specSignOk n _).mono ?_
    rintro e w1 ⟨rfl, rfl⟩
    rw [Hk.out]
    go_wp2
    go_ret
    exact ⟨rfl, rfl⟩
  · have ho : textB n = decide (32 ≤ n ∧ n ≠ 65534 ∧ n ≠ 65535) := by
      unfold textB
      congr 1
      simp [h1, h2, h3, hk]
    rw [ho]
    have Hk : Hid (okB n = true) := hk
    clear h1 h2 h3 ho hk
    by_cases h6 : (32 : Int) ≤ n
    · by_cases h4 : n = 65534
      · subst h4
        go_enter Tryz.func94, Tryz.ntmps94
        go_wp2_with fail
        refine (specSignOk _ _).mono ?_
        rintro e w1 ⟨rfl, rfl⟩
        rw [Hk.out]
        go_wp2
        go_ret
        exact ⟨rfl, rfl⟩
      · have g4 : (n == 65534) = false := beq_false_of_ne h4
        by_cases h5 : n = 65535
        · subst h5
          go_enter Tryz.func94, Tryz.ntmps94
          go_wp2_with fail
          refine (specSignOk _ _).mono ?_
          rintro e w1 ⟨rfl, rfl⟩
          rw [Hk.out]
          go_wp2
          go_ret
          exact ⟨rfl, rfl⟩
        · have g5 : (n == 65535) = false := beq_false_of_ne h5
          rw [show decide (32 ≤ n ∧ n ≠ 65534 ∧ n ≠ 65535) = true from decide_eq_true ⟨h6, h4, h5⟩]
          clear g4 g5
          have g4 : decide (n = 65534) = false := decide_eq_false h4
          have g5 : decide (n = 65535) = false := decide_eq_false h5
          have g6 : (n != 65534) = true := by simp [h4]
          have g7 : (n != 65535) = true := by simp [h5]
          go_enter Tryz.func94, Tryz.ntmps94
          go_wp2_with fail
          refine (specSignOk _ _).mono ?_
          rintro e w1 ⟨rfl, rfl⟩
          rw [Hk.out]
          go_wp2
          go_ret
          exact ⟨rfl, rfl⟩
    · rw [show decide (32 ≤ n ∧ n ≠ 65534 ∧ n ≠ 65535) = false from decide_eq_false fun h => h6 h.1]
      go_enter Tryz.func94, Tryz.ntmps94
      go_wp2_with fail
      refine (specSignOk _ _).mono ?_
      rintro e w1 ⟨rfl, rfl⟩
      rw [Hk.out]
      go_wp2
      go_ret
      exact ⟨rfl, rfl⟩

end Go.Proofs.YtbmmghkieolpkaaGreatDoor.Sg
