/- The laws' items: compared. -/
import Derived.Test.YtlnegnikedinaaaItMem
import Derived.Test.YtlnegnikedinaaaSgInts
import Derived.Test.YtlnegnikedinaaaLwText
import Derived.BigQuiet
import Derived.Deep.QuietTactic
import Derived.Deep.Cut
import Derived.Deep.CutRange
import Derived.Deep.RegionHeld3
import Derived.Lib.QuietBelow
namespace Go.Proofs.Ytlnegnikedinaaa.Sg
open Go.ChangeShapes Go.WideShapes Go.ChangeAt Go.RowKit

theorem RmAttrs.sl {w : World} {v : Value} {l : List AttrB} (h : RmAttrs w v l) : ∃ a cap, v = .slice a l.length cap ∧ AttrsAt w a l := by
  obtain ⟨a, c, h1, _, h2⟩ := h
  exact ⟨a, c, h1, h2⟩
theorem RmInts.sl {w : World} {v : Value} {l : List Int} (h : RmInts w v l) : SlInts w v l := by
  obtain ⟨a, c, h1, _, h2⟩ := h
  exact ⟨a, c, h1, h2⟩

set_option maxRecDepth 20000 in
set_option maxHeartbeats 4000000 in
theorem eqItem_same (t : ItB) (sv1 kv1 sv2 kv2 : Value) (w : World) (h1 : RmAttrs w sv1 t.ats) (h2 : RmAttrs w sv2 t.ats) (i1 : RmInts w kv1 t.kids) (i2 : RmInts w kv2 t.kids) (hn : t.ats.length ≤ 17592186044416) (hk : t.kids.length ≤ 17592186044416) :
    Calls Try.prog 44 #[.agg (itV (t, sv1, kv1)).toArray, .agg (itV (t, sv2, kv2)).toArray] w fun e w' => e = .returned (.bool true) ∧ Below w.heap.size w w' := by
  obtain ⟨kd, sp, nm, at', tx, up, kids⟩ := t
  obtain ⟨a1, c1, rfl, A1⟩ := h1.sl
  obtain ⟨a2, c2, rfl, A2⟩ := h2.sl
  obtain ⟨p1, r1, rfl, I1⟩ := i1.sl
  obtain ⟨p2, r2, rfl, I2⟩ := i2.sl
  have g0 : (kd != kd) = false := by simp
  have g5 : (sp != sp) = false := by simp
  have g6 : (up != up) = false := by simp
  have g1 : (nm.toList == nm.toList) = true := by simp
  have g2 : (tx.toList == tx.toList) = true := by simp
  have HA1 : Hid (AttrsAt w a1 at') := A1
  have HA2 : Hid (AttrsAt w a2 at') := A2
  have HI1 : Hid (Ints w p1 kids) := I1
  have HI2 : Hid (Ints w p2 kids) := I2
  simp only at hn hk
  clear A1 A2 I1 I2 h1 h2 i1 i2
  simp only [itV]
  obtain ⟨X1, hX1⟩ : ∃ X : Obj, X = .cells #[.int .i64 kd, .int .i64 sp, .string nm, .slice a1 at'.length c1, .string tx, .int .i64 up, .slice p1 kids.length r1] 50 := ⟨_, rfl⟩
  obtain ⟨X2, hX2⟩ : ∃ X : Obj, X = .cells #[.int .i64 kd, .int .i64 sp, .string nm, .slice a2 at'.length c2, .string tx, .int .i64 up, .slice p2 kids.length r2] 50 := ⟨_, rfl⟩
  have bb : Below w.heap.size w ((w.alloc X1).alloc X2) := ((Below.refl _ _).alloc (Nat.le_refl _) _).alloc (by simp) _
  have hz : ((w.alloc X1).alloc X2).heap.size = w.heap.size + 1 + 1 := by simp
  subst hX1 hX2
  go_enter Try.func44, Try.ntmps44
  go_wp2_with fail
  refine (eqAttrS_same at' a1 a2 at'.length c1 c2 _ (HA1.out.below bb) (HA2.out.below bb) rfl hn).mono ?_
  rintro e w1 ⟨rfl, b1⟩
  rw [hz] at b1
  have l1 : w.heap.size < w.heap.size + 1 + 1 := by omega
  have l2 : w.heap.size + 1 < w.heap.size + 1 + 1 := by omega
  have d4 : w1.cell? ⟨w.heap.size, 4, none⟩ = some (.string tx) := (b1.cell l1).trans (by simp)
  have d5 : w1.cell? ⟨w.heap.size, 5, none⟩ = some (.int .i64 up) := (b1.cell l1).trans (by simp)
  have d6 : w1.cell? ⟨w.heap.size, 6, none⟩ = some (.slice p1 kids.length r1) := (b1.cell l1).trans (by simp)
  have f4 : w1.cell? ⟨w.heap.size + 1, 4, none⟩ = some (.string tx) := (b1.cell l2).trans (by simp)
  have f5 : w1.cell? ⟨w.heap.size + 1, 5, none⟩ = some (.int .i64 up) := (b1.cell l2).trans (by simp)
  have f6 : w1.cell? ⟨w.heap.size + 1, 6, none⟩ = some (.slice p2 kids.length r2) := (b1.cell l2).trans (by simp)
  have bb1 : Below w.heap.size w w1 := bb.trans (b1.mono (by omega))
  clear b1 bb
  go_wp2_with fail
  refine (eqIntS_same kids p1 p2 r1 r2 _ (HI1.out.below (Nat.le_refl _) bb1) (HI2.out.below (Nat.le_refl _) bb1) (by omega)).mono ?_
  rintro e w2 ⟨rfl, b2⟩
  have bb2 : Below w.heap.size w w2 := bb1.trans (b2.mono bb1.size)
  clear b2 bb1 d4 d5 d6 f4 f5 f6
  go_wp2_with fail
  go_ret
  exact ⟨rfl, bb2⟩

end Go.Proofs.Ytlnegnikedinaaa.Sg
