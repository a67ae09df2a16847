/- A word's parts are put into a line. -/
import Derived.Test.YtploagieecepfaaDoorSoEnd
import Derived.Test.YtploagieecepfaaDoorShelf2
import Derived.Lib.AppendIntMem
namespace Go.Proofs.YtploagieecepfaaDoor.Sg
open Go.ChangeShapes Go.WideShapes Go.ChangeAt Go.RowKit

/-- The table that numbers are written by, whatever is done from block B on. -/
def TabB (B : Nat) (w : World) : Prop := Lib.TabBelow Tryd.prog B w "internal/strconv.uint64pow10" .u64 Lib.pow10Tab
def digI (n : Nat) : ByteArray := ⟨(Lib.itoa (n : Int)).toArray⟩

theorem implItoa (B n : Nat) (w : World) (hT : TabB B w) (hn : n ≤ 1099511627776) :
    Calls Tryd.prog 29 #[.int .i64 (n : Int)] w fun e w' => e = .returned (.string (digI n)) ∧ Below w.heap.size w w' := by
  refine (Tryd.strconv_Itoa (n : Int) (by omega) (by omega) w (Lib.TabBelow.here hT)).mono ?_
  rintro e w' ⟨rfl, k, os, rfl⟩
  exact ⟨rfl, Lib.below_grow _ _ (Nat.le_refl _) _ _⟩

set_option maxRecDepth 20000 in
set_option maxHeartbeats 8000000 in
theorem implPutWord (B b : Nat) (acc : List UInt8) (l0 l1 l2 l3 l4 l5 : ByteArray) (kd : Int) (nm : ByteArray) (xa : Option Addr) (n xc : Nat) (tx : ByteArray) (sf : Bool) (w : World) (h : ShB B b acc [l0, l1, l2, l3, l4, l5] w) (hBw : B ≤ w.heap.size) (hT : TabB B w) (hV : (namedS nm tx).size ≤ 1099511627776) (hn : n ≤ 1099511627776) (hd : (digI n).size ≤ 1099511627776) :
    Calls Tryd.prog 20 #[.pointer (some ⟨b, 0, none⟩), .agg #[.int .i64 kd, .string nm, .slice xa n xc, .string tx, .bool sf]] w fun e w' => e = .returned (.tuple #[]) ∧
      ShB B b acc [l0, kindS kd tkNames, ⟨#[32]⟩ ++ namedS nm tx, ⟨#[32, 61]⟩ ++ digI n, if sf then ⟨#[32, 115, 101, 108, 102]⟩ else l4, l5] w' ∧ Kp B b w w' := by
  have bA := (Below.refl w.heap.size w).alloc (Nat.le_refl _) (.cells #[.int .i64 kd, .string nm, .slice xa n xc, .string tx, .bool sf] 29)
  have HB1 : Hid (ShB B b acc [l0, l1, l2, l3, l4, l5] (w.alloc (.cells #[.int .i64 kd, .string nm, .slice xa n xc, .string tx, .bool sf] 29))) := h.below bA
  have HK1 : Hid (Kp B b w (w.alloc (.cells #[.int .i64 kd, .string nm, .slice xa n xc, .string tx, .bool sf] 29))) := Kp.of bA hBw
  have HX : Hid ((w.alloc (.cells #[.int .i64 kd, .string nm, .slice xa n xc, .string tx, .bool sf] 29)).heap[w.heap.size]? = some (.cells #[.int .i64 kd, .string nm, .slice xa n xc, .string tx, .bool sf] 29 (0, 0))) := heap_alloc_new w _
  have HTb : Hid (TabB B (w.alloc (.cells #[.int .i64 kd, .string nm, .slice xa n xc, .string tx, .bool sf] 29))) := Lib.TabBelow.on hT (bA.mono hBw)
  have hxb : w.heap.size ≠ b := by have := h.lt; omega
  clear h hT bA
  obtain ⟨K, HK⟩ : ∃ K, Hid (kindS kd tkNames = K) := ⟨_, rfl⟩
  obtain ⟨V, HV⟩ : ∃ V, Hid (namedS nm tx = V) := ⟨_, rfl⟩
  obtain ⟨D, HD⟩ : ∃ D, Hid (digI n = D) := ⟨_, rfl⟩
  have hKind : ∀ W, Calls Tryd.prog 28 #[.int .i64 kd] W fun e w' => e = .returned (.string K) ∧ w' = W := fun W => by
    have := implWordKind kd W
    rw [HK.out] at this
    exact this
  rw [HK.out, HV.out, HD.out]
  go_enter Tryd.func20, Tryd.ntmps20
  go_upto_region 1 with fail
  generalize w.alloc (.cells #[.int .i64 kd, .string nm, .slice xa n xc, .string tx, .bool sf] 29) = w1 at *
  have hB1 : B ≤ w1.heap.size := Nat.le_trans hBw HK1.out.size
  have x0 : w1.cell? ⟨w.heap.size, 0, none⟩ = some (.int .i64 kd) := cell_in HX.out 0
  have x1 : w1.cell? ⟨w.heap.size, 1, none⟩ = some (.string nm) := cell_in HX.out 1
  have x3 : w1.cell? ⟨w.heap.size, 3, none⟩ = some (.string tx) := cell_in HX.out 3
  have hP : ∀ W, ShB B b acc [l0, l1, l2, l3, l4, l5] W → B ≤ W.heap.size → Calls Tryd.prog 27 #[.pointer (some ⟨b, 0, none⟩), .string K, .string nm, .string tx] W fun e w' => e = .returned (.tuple #[]) ∧ ShB B b acc [l0, K, ⟨#[32]⟩ ++ V, l3, l4, l5] w' ∧ Kp B b W w' := fun W hW hB2 => by
    have := implPutL B b acc l0 l1 l2 l3 l4 l5 K nm tx W hW hB2 hV
    rw [HV.out] at this
    exact this
  go_region_held3 (fun w' => w'.cell? ⟨w.heap.size, 0, none⟩ = some (.int .i64 kd) ∧ w'.cell? ⟨w.heap.size, 1, none⟩ = some (.string nm) ∧ w'.cell? ⟨w.heap.size, 3, none⟩ = some (.string tx))
    (first | exact ⟨x0, x1, x3⟩ | exact ⟨y0, y1, y3⟩)
    (first
      | (go_at_call 28; refine (hKind _).mono ?_; rintro e w5 ⟨rfl, rfl⟩)
      | (go_at_call 27; refine (hP w1.drew HB1.out hB1).mono ?_; rintro e w6 ⟨rfl, hb6, hk6⟩; have hk7 := (Kp.of ((Below.refl w1.heap.size w1).drew) hB1).trans hk6; have HX6 := hk7.obj HX.out (by decide) hxb; have y0 := cell_in HX6 0; have y1 := cell_in HX6 1; have y3 := cell_in HX6 3))
  have HB6 : Hid (ShB B b acc [l0, K, ⟨#[32]⟩ ++ V, l3, l4, l5] w6) := hb6
  have HK6 : Hid (Kp B b w w6) := HK1.out.trans hk7
  have HT6 : Hid (TabB B w6) := Lib.TabBelow.on HTb.out hk7.bel
  have HX7 : Hid (w6.heap[w.heap.size]? = some (.cells #[.int .i64 kd, .string nm, .slice xa n xc, .string tx, .bool sf] 29 (0, 0))) := HX6
  have hB6 : B ≤ w6.heap.size := Nat.le_trans hB1 hk7.size
  clear HB1 HK1 HTb HX HX6 hk7 hk6 hb6 y0 y1 y3 x0 x1 x3 hP hKind
  have x2 : w6.cell? ⟨w.heap.size, 2, none⟩ = some (.slice xa n xc) := cell_in HX7.out 2
  have s3 : (w6.cell? ⟨b, 5, none⟩).isSome = true := HB6.out.some 3 (by simp)
  have f3 : w6.frozen? ⟨b, 5, none⟩ = false := HB6.out.notFrozen 5
  have HI : ∀ W, TabB B W → Calls Tryd.prog 29 #[.int .i64 (n : Int)] W fun e w' => e = .returned (.string D) ∧ Below W.heap.size W w' := fun W hW => by
    have := implItoa B n W hW hn
    rw [HD.out] at this
    exact this
  rw [HD.out] at hd
  have g1 : ¬ 9223372036854775807 < 2 + D.size := by omega
  go_upto_region 2 with fail
  have y2' : w6.drew.cell? ⟨w.heap.size, 2, none⟩ = some (.slice xa n xc) := x2
  go_region_with (go_at_call 29; refine (HI w6.drew (Lib.TabBelow.on HT6.out ((Below.refl B w6).drew))).mono ?_; rintro e w7 ⟨rfl, hb7⟩; have hbx := ((Below.refl w6.heap.size w6).drew).trans hb7; have HB7 := HB6.out.below hbx; have y2 := keep_cell hbx x2; have t3 : w7.cell? ⟨b, 5, none⟩ = some (.string l3) := HB7.cell 3 (by simp); have u3 : w7.frozen? ⟨b, 5, none⟩ = false := HB7.notFrozen 5; have hk8 := ((Kp.of hbx hB6).set HB7.base 5 (.string (⟨#[32, 61]⟩ ++ D))); have HX8 := hk8.obj HX7.out (by decide) hxb; have HB8 := HB7.set 3 (⟨#[32, 61]⟩ ++ D); have z2 := cell_in HX8 2; have z3 := HB8.some 3 (by simp); have v3 := HB8.notFrozen 5)
  all_goals
   have HB9 : Hid (ShB B b acc [l0, K, ⟨#[32]⟩ ++ V, ⟨#[32, 61]⟩ ++ D, l4, l5] (w7.setCell ⟨b, 5, none⟩ (.string (⟨#[32, 61]⟩ ++ D)))) := HB8
   have HK9 : Hid (Kp B b w (w7.setCell ⟨b, 5, none⟩ (.string (⟨#[32, 61]⟩ ++ D)))) := HK6.out.trans hk8
   have x4 : (w7.setCell ⟨b, 5, none⟩ (.string (⟨#[32, 61]⟩ ++ D))).cell? ⟨w.heap.size, 4, none⟩ = some (.bool sf) := cell_in HX8 4
   clear HB6 HK6 HT6 HX7 HX8 hk8 HB8 HB7 hbx hb7 x2 y2 z2 s3 t3 f3 u3 z3 v3 HI
   generalize w7.setCell ⟨b, 5, none⟩ (.string (⟨#[32, 61]⟩ ++ D)) = w9 at *
   have s4 : w9.cell? ⟨b, 6, none⟩ = some (.string l4) := HB9.out.cell 4 (by simp)
   have f4 : w9.frozen? ⟨b, 6, none⟩ = false := HB9.out.notFrozen 6
   cases sf with
   | false =>
     go_wp2_with fail
     exact bodyPost_end (results_none rfl _ _ _) rfl ⟨rfl, HB9.out, HK9.out⟩
   | true =>
     have HB10 : Hid (ShB B b acc [l0, K, ⟨#[32]⟩ ++ V, ⟨#[32, 61]⟩ ++ D, ⟨#[32, 115, 101, 108, 102]⟩, l5] (w9.setCell ⟨b, 6, none⟩ (.string ⟨#[32, 115, 101, 108, 102]⟩))) := HB9.out.set 4 _
     have HK10 : Hid (Kp B b w (w9.setCell ⟨b, 6, none⟩ (.string ⟨#[32, 115, 101, 108, 102]⟩))) := HK9.out.set HB9.out.base 6 _
     go_wp2_with fail
     exact bodyPost_end (results_none rfl _ _ _) rfl ⟨rfl, HB10.out, HK10.out⟩

end Go.Proofs.YtploagieecepfaaDoor.Sg
