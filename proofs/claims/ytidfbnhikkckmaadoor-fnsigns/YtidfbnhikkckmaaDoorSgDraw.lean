/- What is drawn from a cursor: numbers below another, and picks out of lists. -/
import Derived.Test.YtidfbnhikkckmaaDoorSgCur
import Derived.Test.YtidfbnhikkckmaaDoorSgInts
namespace Go.Proofs.YtidfbnhikkckmaaDoor.Sg
open Go.ChangeShapes Go.WideShapes Go.ChangeAt Go.RowKit

theorem rem_lt (x m : Nat) (hm : 1 ≤ m) : ∃ y : Nat, y < m ∧ (x : Int).tmod (m : Int) = (y : Int) := by
  refine ⟨x % m, Nat.mod_lt _ (by omega), ?_⟩
  rw [Int.tmod_eq_emod_of_nonneg (by omega)]
  simp

theorem rem_lt' (x : Int) (m : Nat) (hx : 0 ≤ x) (hm : 1 ≤ m) : ∃ y : Nat, y < m ∧ x % (m : Int) = (y : Int) := by
  obtain ⟨n, rfl⟩ := Int.eq_ofNat_of_zero_le hx
  exact ⟨n % m, Nat.mod_lt _ (by omega), by simp⟩

set_option maxHeartbeats 2000000 in
theorem l1Below_any (p : Nat) (a : Option Addr) (n cap : Nat) (m : Nat) (w : World) (hc : Cur p a n cap w) (hm : 1 ≤ m) (hm2 : m ≤ 1099511627776) :
    Calls Tryd.prog 35 #[.pointer (some ⟨p, 0, none⟩), .int .i64 (m : Int)] w fun e w' => ∃ x : Nat, x < m ∧ e = .returned (.int .i64 (x : Int)) ∧ Cur p a n cap w' ∧ Only p w w' := by
  have hd0 : decide ((m : Int) ≤ 0) = false := by simp; omega
  have hne : ((m : Int) == 0) = false := by rw [beq_eq_false_iff_ne]; omega
  have hm0 : (0 : Int) < (m : Int) := by omega
  have Hc : Hid (Cur p a n cap w) := hc
  clear hc
  by_cases h256 : m ≤ 256
  · have hd1 : (m : Int) ≤ 256 := by omega
    go_enter Tryd.func35, Tryd.ntmps35
    go_wp2_with fail
    refine (l1Byte_any p a n cap _ Hc.out).mono ?_
    rintro e w1 ⟨x, hx, rfl, hc1, ho1⟩
    go_wp2_with fail
    go_ret
    obtain ⟨y, hy, he⟩ := rem_lt' (x : Int) m (by omega) hm
    refine ⟨y, hy, ?_, hc1, ho1⟩
    rw [← he]
    rfl
  · have hd1 : decide ((m : Int) ≤ 256) = false := by simp; omega
    go_enter Tryd.func35, Tryd.ntmps35
    go_wp2_with fail
    refine (l1Byte_any p a n cap _ Hc.out).mono ?_
    rintro e w1 ⟨x1, hx1, rfl, hc1, ho1⟩
    go_wp2_with fail
    refine (l1Byte_any p a n cap _ hc1).mono ?_
    rintro e w2 ⟨x2, hx2, rfl, hc2, ho2⟩
    go_wp2_with fail
    refine (l1Byte_any p a n cap _ hc2).mono ?_
    rintro e w3 ⟨x3, hx3, rfl, hc3, ho3⟩
    go_wp2_with fail
    refine (l1Byte_any p a n cap _ hc3).mono ?_
    rintro e w4 ⟨x4, hx4, rfl, hc4, ho4⟩
    go_wp2_with fail
    go_ret
    obtain ⟨y, hy, he⟩ := rem_lt' ((x1 : Int) * 16777216 + (x2 : Int) * 65536 + (x3 : Int) * 256 + (x4 : Int)) m (by omega) hm
    refine ⟨y, hy, ?_, hc4, ((ho1.trans ho2).trans ho3).trans ho4⟩
    rw [← he]
    rfl

set_option maxHeartbeats 1000000 in
theorem l1Once_any (p : Nat) (a : Option Addr) (n cap : Nat) (m : Nat) (w : World) (hc : Cur p a n cap w) (hm : 1 ≤ m) (hm2 : m ≤ 1099511627776) :
    Calls Tryd.prog 47 #[.pointer (some ⟨p, 0, none⟩), .int .i64 (m : Int)] w fun e w' => ∃ b : Bool, e = .returned (.bool b) ∧ Cur p a n cap w' ∧ Only p w w' := by
  have Hc : Hid (Cur p a n cap w) := hc
  clear hc
  go_enter Tryd.func47, Tryd.ntmps47
  go_wp2_with fail
  refine (l1Below_any p a n cap m _ Hc.out hm hm2).mono ?_
  rintro e w1 ⟨x, hx, rfl, hc1, ho1⟩
  go_wp2_with fail
  go_ret
  exact ⟨_, rfl, hc1, ho1⟩

/-- Ints that do not lie in block p. -/
def Apart (p : Nat) (a : Option Addr) : Prop := ∀ b off, a = some ⟨b, off, none⟩ → b ≠ p

theorem Ints.only {p : Nat} {a : Option Addr} {zs : List Int} {w w' : World} (h : Ints w a zs) (hp : Apart p a) (ho : Only p w w') : Ints w' a zs := by
  rcases h with h | ⟨b, off, ha, hb, hc⟩
  · exact .inl h
  · exact .inr ⟨b, off, ha, Nat.lt_of_lt_of_le hb ho.size, fun i hi => (World.cell?_of_block (w := w) (ho.block hb (hp b off ha))).trans (hc i hi)⟩

theorem Ints.lit (w : World) (zs : List Int) (t : TypeId) : Ints (w.alloc (.cells (zs.map (Value.int .i64)).toArray t)) (some ⟨w.heap.size, 0, none⟩) zs := by
  refine .inr ⟨w.heap.size, 0, rfl, by simp, fun i hi => ?_⟩
  rw [Nat.zero_add]
  refine (World.cell?_alloc_mark w _ t (0, 0) i).trans ?_
  simp [hi]

theorem Cur.lt {p : Nat} {a : Option Addr} {n cap : Nat} {w : World} (h : Cur p a n cap w) : p < w.heap.size := by
  obtain ⟨_, _, i, g, _, h5⟩ := h
  exact (Array.getElem?_eq_some_iff.1 h5).1

theorem Cur.alloc {p : Nat} {a : Option Addr} {n cap : Nat} {w : World} (h : Cur p a n cap w) (o : Obj) : Cur p a n cap (w.alloc o) := h.below ((Below.refl _ _).alloc (Nat.le_refl _) _)

set_option maxHeartbeats 1000000 in
theorem l1PickInt_any (p : Nat) (a : Option Addr) (n cap : Nat) (zs : List Int) (al : Option Addr) (cl : Nat) (w : World) (hc : Cur p a n cap w) (hl : Ints w al zs) (hap : Apart p al) (hm : 1 ≤ zs.length) (hm2 : zs.length ≤ 1099511627776) :
    Calls Tryd.prog 40 #[.pointer (some ⟨p, 0, none⟩), .slice al zs.length cl] w fun e w' => ∃ z : Int, z ∈ zs ∧ e = .returned (.int .i64 z) ∧ Cur p a n cap w' ∧ Only p w w' := by
  have Hc : Hid (Cur p a n cap w) := hc
  have Hl : Hid (Ints w al zs) := hl
  clear hc hl
  go_enter Tryd.func40, Tryd.ntmps40
  go_wp2_with fail
  refine (l1Below_any p a n cap zs.length _ Hc.out hm hm2).mono ?_
  rintro e w1 ⟨x, hx, rfl, hc1, ho1⟩
  have hl1 := Hl.out.only hap ho1
  rcases hl1 with h | ⟨b, off, rfl, hb, hcell⟩
  · rw [h] at hx
    simp at hx
  have h1 := hcell x hx
  have hmem : zs.getD x 0 ∈ zs := by
    rw [List.getD_eq_getElem?_getD, List.getElem?_eq_getElem hx]
    exact List.getElem_mem hx
  generalize zs.getD x 0 = z at h1 hmem
  clear hcell
  go_wp2_with fail
  go_ret
  exact ⟨z, hmem, rfl, hc1, ho1⟩

end Go.Proofs.YtidfbnhikkckmaaDoor.Sg
