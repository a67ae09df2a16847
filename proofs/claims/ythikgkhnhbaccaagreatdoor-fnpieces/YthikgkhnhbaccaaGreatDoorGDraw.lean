/- What is drawn from a cursor: numbers below another, and picks out of lists. -/
import Derived.Test.YthikgkhnhbaccaaGreatDoorMP24
import Derived.Test.YthikgkhnhbaccaaGreatDoorMP15
namespace Go.Proofs.YthikgkhnhbaccaaGreatDoor.Sg
open Go.ChangeShapes Go.WideShapes Go.ChangeAt Go.RowKit

theorem rem_lt (x m : Nat) (hm : 1 ≤ m) : ∃ y : Nat, y < m ∧ (x : Int).tmod (m : Int) = (y : Int) := by
  refine ⟨x % m, Nat.mod_lt _ (by omega), ?_⟩
  rw [Int.tmod_eq_emod_of_nonneg (by omega)]
  simp

theorem rem_lt' (x : Int) (m : Nat) (hx : 0 ≤ x) (hm : 1 ≤ m) : ∃ y : Nat, y < m ∧ x % (m : Int) = (y : Int) := by
  obtain ⟨n, rfl⟩ := Int.eq_ofNat_of_zero_le hx
  exact ⟨n % m, Nat.mod_lt _ (by omega), by simp⟩

set_option maxHeartbeats 2000000 in
theorem l1Below_any (p : Nat) (a : Option Addr) (n cap : Nat) (m : Nat) (w : World) (hc : Cur p a n cap w) (hm : 1 ≤ m) (hm2 : m ≤ 1099511627776) :
    Calls Tryz.prog 35 #[.pointer (some ⟨p, 0, none⟩), .int .i64 (m : Int)] w fun e w' => ∃ x : Nat, x < m ∧ e = .returned (.int .i64 (x : Int)) ∧ Cur p a n cap w' ∧ Only p w w' := by
  have hd0 : decide ((m : Int) ≤ 0) = false := by simp; omega
  have hne : ((m : Int) == 0) = false := by rw [beq_eq_false_iff_ne]; omega
  have hm0 : (0 : Int) < (m : Int) := by omega
  have Hc : Hid (Cur p a n cap w) := hc
  clear hc
  by_cases h256 : m ≤ 256
  · have hd1 : (m : Int) ≤ 256 := by omega
    go_enter Tryz.func35, Tryz.ntmps35
    go_wp2_with fail
    refine (l1Byte_any p a n cap _ Hc.out).mono ?_
    rintro e w1 ⟨x, hx, rfl, hc1, ho1⟩
    go_wp2_with fail
    go_ret
    obtain ⟨y, hy, he⟩ := rem_lt' (x : Int) m (by omega) hm
    refine ⟨y, hy, ?_, hc1, ho1⟩
    rw [← he]
    rfl
  · have hd1 : decide ((m : Int) ≤ 256) = false := by simp; omega
    go_enter Tryz.func35, Tryz.ntmps35
    go_wp2_with fail
    refine (l1Byte_any p a n cap _ Hc.out).mono ?_
    rintro e w1 ⟨x1, hx1, rfl, hc1, ho1⟩
    go_wp2_with fail
    refine (l1Byte_any p a n cap _ hc1).mono ?_
    rintro e w2 ⟨x2, hx2, rfl, hc2, ho2⟩
    go_wp2_with fail
    refine (l1Byte_any p a n cap _ hc2).mono ?_
    rintro e w3 ⟨x3, hx3, rfl, hc3, ho3⟩
    go_wp2_with fail
    refine (l1Byte_any p a n cap _ hc3).mono ?_
    rintro e w4 ⟨x4, hx4, rfl, hc4, ho4⟩
    go_wp2_with fail
    go_ret
    obtain ⟨y, hy, he⟩ := rem_lt' ((x1 : Int) * 16777216 + (x2 : Int) * 65536 + (x3 : Int) * 256 + (x4 : Int)) m (by omega) hm
    refine ⟨y, hy, ?_, hc4, ((ho1.trans ho2).trans ho3).trans ho4⟩
    rw [← he]
    rfl

set_option maxHeartbeats 1000000 in
theorem l1Once_any (p : Nat) (a : Option Addr) (n cap : Nat) (m : Nat) (w : World) (hc : Cur p a n cap w) (hm : 1 ≤ m) (hm2 : m ≤ 1099511627776) :
    Calls Tryz.prog 30 #[.pointer (some ⟨p, 0, none⟩), .int .i64 (m : Int)] w fun e w' => ∃ b : Bool, e = .returned (.bool b) ∧ Cur p a n cap w' ∧ Only p w w' := by
  have Hc : Hid (Cur p a n cap w) := hc
  clear hc
  go_enter Tryz.func30, Tryz.ntmps30
  go_wp2_with fail
  refine (l1Below_any p a n cap m _ Hc.out hm hm2).mono ?_
  rintro e w1 ⟨x, hx, rfl, hc1, ho1⟩
  go_wp2_with fail
  go_ret
  exact ⟨_, rfl, hc1, ho1⟩

/-- Ints that do not lie in block p. -/
def Apart (p : Nat) (a : Option Addr) : Prop := ∀ b off, a = some ⟨b, off, none⟩ → b ≠ p

theorem Ints.only {p : Nat} {a : Option Addr} {zs : List Int} {w w' : World} (h : Ints w a zs) (hp : Apart p a) (ho : Only p w w') : Ints w' a zs := by
  rcases h with h | ⟨b, off, ha, hb, hc⟩
  · exact .inl h
  · exact .inr ⟨b, off, ha, Nat.lt_of_lt_of_le hb ho.size, fun i hi => (World.cell?_of_block (w := w) (ho.block hb (hp b off ha))).trans (hc i hi)⟩

theorem Ints.lit (w : World) (zs : List Int) (t : TypeId) : Ints (w.alloc (.cells (zs.map (Value.int .i64)).toArray t)) (some ⟨w.heap.size, 0, none⟩) zs := by
  refine .inr ⟨w.heap.size, 0, rfl, by simp, fun i hi => ?_⟩
  rw [Nat.zero_add]
  refine (World.cell?_alloc_mark w _ t (0, 0) i).trans ?_
  simp [hi]

theorem Cur.lt {p : Nat} {a : Option Addr} {n cap : Nat} {w : World} (h : Cur p a n cap w) : p < w.heap.size := by
  obtain ⟨_, _, i, g, _, h5⟩ := h
  exact (Array.getElem?_eq_some_iff.1 h5).1

theorem Cur.alloc {p : Nat} {a : Option Addr} {n cap : Nat} {w : World} (h : Cur p a n cap w) (o : Obj) : Cur p a n cap (w.alloc o) := h.below ((Below.refl _ _).alloc (Nat.le_refl _) _)

set_option maxHeartbeats 1000000 in
theorem l1PickInt_any (p : Nat) (a : Option Addr) (n cap : Nat) (zs : List Int) (al : Option Addr) (cl : Nat) (w : World) (hc : Cur p a n cap w) (hl : Ints w al zs) (hap : Apart p al) (hm : 1 ≤ zs.length) (hm2 : zs.length ≤ 1099511627776) :
    Calls Tryz.prog 64 #[.pointer (some ⟨p, 0, none⟩), .slice al zs.length cl] w fun e w' => ∃ z : Int, z ∈ zs ∧ e = .returned (.int .i64 z) ∧ Cur p a n cap w' ∧ Only p w w' := by
  have Hc : Hid (Cur p a n cap w) := hc
  have Hl : Hid (Ints w al zs) := hl
  clear hc hl
  go_enter Tryz.func64, Tryz.ntmps64
  go_wp2_with fail
  refine (l1Below_any p a n cap zs.length _ Hc.out hm hm2).mono ?_
  rintro e w1 ⟨x, hx, rfl, hc1, ho1⟩
  have hl1 := Hl.out.only hap ho1
  rcases hl1 with h | ⟨b, off, rfl, hb, hcell⟩
  · rw [h] at hx
    simp at hx
  have h1 := hcell x hx
  have hmem : zs.getD x 0 ∈ zs := by
    rw [List.getD_eq_getElem?_getD, List.getElem?_eq_getElem hx]
    exact List.getElem_mem hx
  generalize zs.getD x 0 = z at h1 hmem
  clear hcell
  go_wp2_with fail
  go_ret
  exact ⟨z, hmem, rfl, hc1, ho1⟩

theorem i64_mask30 (n : Int) : bits .and .i64 n 1073741823 = n % 1073741824 := (i64_low n 30 (by decide) 1073741823 (by decide)).trans (by simp)

set_option maxHeartbeats 2000000 in
theorem l1New_any (a : Option Addr) (n cap : Nat) (w : World) (hcode : Code w.heap.size w a n) (hn : n ≤ 1048576) :
    Calls Tryz.prog 27 #[.slice a n cap] w fun e w' => e = .returned (.pointer (some ⟨w.heap.size, 0, none⟩)) ∧ Cur w.heap.size a n cap w' ∧ Below w.heap.size w w' := by
  have a30 := i64_mask30
  have Hcode : Hid (Code w.heap.size w a n) := hcode
  go_enter Tryz.func27, Tryz.ntmps27
  go_wp2
  go_loop [3, 4] (fun hv iv => ∃ (i : Nat) (h : Int), i ≤ n ∧ 0 ≤ h ∧ h ≤ 1073741824 ∧ iv = .int .i64 i ∧ hv = .int .i64 h) (fun _ iv => n - (intOf iv).toNat)
  case atStart => exact ⟨0, 22032 + (n : Int), Nat.zero_le _, by omega, by omega, rfl, rfl⟩
  case round =>
    obtain ⟨i, h, hi, hh0, hh1, rfl, rfl⟩ := hrel
    by_cases hlt : i < n
    · by_cases h4 : i < 4000
      · have h4' : (i : Int) < 4000 := by omega
        rcases hcode with h0 | ⟨b, off, rfl, hb, _, hcb⟩
        · omega
        obtain ⟨z, hz, hcz⟩ := hcb i hlt
        clear hcb
        go_wp2
        go_round
        case rel =>
          refine ⟨i + 1, (h * 131 + (z : Int) + 7) % 1073741824, by omega, by omega, by omega, by go_num, rfl⟩
        case measure => simp [intOf]; omega
      · have h4' : decide ((i : Int) < 4000) = false := by simp; omega
        clear hcode
        go_wp2
        go_ret
        refine ⟨rfl, ⟨by omega, Hcode.out.only (Nat.le_refl _) ((Only.refl _ _).alloc _), 0, h, Nat.zero_le _, ?_⟩, (Below.refl _ _).alloc (Nat.le_refl _) _⟩
        show (w.heap.push _)[w.heap.size]? = _
        simp
    · have hd : decide ((i : Int) < (n : Int)) = false := by simp; omega
      clear hcode
      go_wp2
      go_ret
      refine ⟨rfl, ⟨by omega, Hcode.out.only (Nat.le_refl _) ((Only.refl _ _).alloc _), 0, h, Nat.zero_le _, ?_⟩, (Below.refl _ _).alloc (Nat.le_refl _) _⟩
      show (w.heap.push _)[w.heap.size]? = _
      simp

theorem apart_new {p : Nat} {w : World} (h : p < w.heap.size) : Apart p (some ⟨w.heap.size, 0, none⟩) := by
  intro b off e
  cases e
  omega

theorem Only.of_alloc {p : Nat} {w w' : World} {o : Obj} (h : Only p (w.alloc o) w') : Only p w w' := ((Only.refl p w).alloc o).trans h

end Go.Proofs.YthikgkhnhbaccaaGreatDoor.Sg
