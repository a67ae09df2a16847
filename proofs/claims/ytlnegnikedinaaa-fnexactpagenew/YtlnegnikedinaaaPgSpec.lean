/- Contracts of the model's l8Name, l8Last, InTable. -/
import Derived.Test.YtlnegnikedinaaaPgMem
import Derived.Test.YtlnegnikedinaaaKtSpec
import Derived.Deep.Cut
import Derived.Deep.CutRange
import Derived.Lib.QuietBelow
import Derived.BigQuiet
namespace Go.Proofs.Ytlnegnikedinaaa.Sg
open Go.ChangeShapes Go.WideShapes Go.ChangeAt Go.RowKit

theorem ret_s {a b : ByteArray} (h : a = b) : Ending.returned (.string a) = .returned (.string b) := by rw [h]

set_option maxRecDepth 20000 in
set_option maxHeartbeats 8000000 in
/-- At a place that is one of Open. -/
theorem specName_at (p : PgB) (v : Value) (k : Nat) (w : World) (hv : PgAt w v p) (hk : k < p.opn.length) :
    Calls Try.prog 49 #[v, .int .i64 k] w fun e w' => e = .returned (.string (nameAt p k)) ∧ Below w.heap.size w w' := by
  obtain ⟨ia, ic, oa, oc, fa, fc, rfl, ⟨hI, hi1⟩, ⟨hO, ho1⟩, ⟨hF, hf1⟩⟩ := hv
  have HI : Hid (ItsAt w ia p.its) := hI
  have Hho := hO
  rcases Hho with h0 | ⟨bo, off, rfl, hbo, hco⟩
  · rw [h0] at hk
    exact absurd hk (Nat.not_lt_zero _)
  have c1 := hco k hk
  have hgd : p.opn.getD k 0 = p.opn[k]'hk := by simp [List.getD, hk]
  rw [hgd] at c1
  obtain ⟨R, HR⟩ : ∃ R, Hid (nameAt p k = R) := ⟨_, rfl⟩
  rw [HR.out]
  have g0 : (0 : Int) ≤ (k : Int) := by omega
  have g0' : decide ((k : Int) < 0) = false := decide_eq_false (by omega)
  have g1 : (k : Int) < (p.opn.length : Int) := by omega
  have g1' : decide ((p.opn.length : Int) ≤ (k : Int)) = false := decide_eq_false (by omega)
  have g1n : decide (p.opn.length ≤ k) = false := decide_eq_false (by omega)
  have g1m : k < p.opn.length := hk
  have d1 : ∀ o, (w.alloc o).cell? ⟨bo, off + k, none⟩ = some (.int .i64 (p.opn[k]'hk)) := fun o => (Below.cell ((Below.refl w.heap.size w).alloc (Nat.le_refl _) o) hbo).trans c1
  by_cases hlow : p.opn[k]'hk < 0
  · have HR2 : Hid (R = ⟨#[]⟩) := by show _ = _; rw [← HR.out]; exact nameAt_low hk hlow
    have g2 : decide (p.opn[k]'hk < 0) = true := decide_eq_true hlow
    generalize p.opn[k]'hk = i at *
    generalize p.opn.length = m at *
    generalize p.its.length = n at *
    clear hI hi1 hO ho1 hF hf1 hco HI HR hgd
    go_enter Try.func49, Try.ntmps49
    go_upto_region 1 with fail
    obtain ⟨W, HW⟩ : ∃ W, Hid (W = w.alloc (.cells #[.slice ia n ic, .slice (some ⟨bo, off, none⟩) m oc, .slice fa p.fms.length fc, .int .i64 p.hd, .int .i64 p.bd] 25)) := ⟨_, rfl⟩
    rw [← HW.out]
    have q0 : W.cell? ⟨w.heap.size, 0, none⟩ = some (.slice ia n ic) := by rw [HW.out, World.cell?_alloc_new]; rfl
    have q1 : W.cell? ⟨w.heap.size, 1, none⟩ = some (.slice (some ⟨bo, off, none⟩) m oc) := by rw [HW.out, World.cell?_alloc_new]; rfl
    have q2 : W.cell? ⟨bo, off + k, none⟩ = some (.int .i64 i) := by rw [HW.out]; exact d1 _
    have HB : Hid (Below w.heap.size w W) := by show Below _ _ _; rw [HW.out]; exact (Below.refl _ _).alloc (Nat.le_refl _) _
    clear HW d1 c1
    go_big_quiet (fail)
    clear q0 q1 q2
    go_wp2_with fail
    go_ret
    exact ⟨ret_s HR2.out.symm, drew_kd HB.out _⟩
  · obtain ⟨j, hj⟩ := Int.eq_ofNat_of_zero_le (show 0 ≤ p.opn[k]'hk by omega)
    have g2 : decide ((j : Int) < 0) = false := decide_eq_false (by omega)
    have g2' : (0 : Int) ≤ (j : Int) := by omega
    by_cases hin : j < p.its.length
    · have HR2 : Hid (R = (p.its[j]'hin).nm) := by show _ = _; rw [← HR.out]; exact nameAt_in hk hj hin
      have g3 : decide (p.its.length ≤ j) = false := decide_eq_false (by omega)
      have g3' : (j : Int) < (p.its.length : Int) := by omega
      obtain ⟨bi, rfl, k0, k1, c2, k3⟩ := HI.out.get j hin
      have hbi : bi < w.heap.size := by
        rcases HI.out with h | ⟨b', h1, h2, _⟩
        · rw [h] at hin; exact absurd hin (Nat.not_lt_zero _)
        · cases h1; exact h2
      have d2 : ∀ o, (w.alloc o).cell? ⟨bi, j * 7 + 2, none⟩ = some (.string (p.its[j]'hin).nm) := fun o => (Below.cell ((Below.refl w.heap.size w).alloc (Nat.le_refl _) o) hbi).trans c2
      rw [hj] at d1 c1
      generalize (p.its[j]'hin).nm = nm at *
      clear hI hi1 hO ho1 hF hf1 hco HI HR hgd hlow hj c2 k0 k1 k3
      generalize p.opn.length = m at *
      generalize p.its.length = n at *
      go_enter Try.func49, Try.ntmps49
      go_upto_region 1 with fail
      obtain ⟨W, HW⟩ : ∃ W, Hid (W = w.alloc (.cells #[.slice (some ⟨bi, 0, none⟩) n ic, .slice (some ⟨bo, off, none⟩) m oc, .slice fa p.fms.length fc, .int .i64 p.hd, .int .i64 p.bd] 25)) := ⟨_, rfl⟩
      rw [← HW.out]
      have q0 : W.cell? ⟨w.heap.size, 0, none⟩ = some (.slice (some ⟨bi, 0, none⟩) n ic) := by rw [HW.out, World.cell?_alloc_new]; rfl
      have q1 : W.cell? ⟨w.heap.size, 1, none⟩ = some (.slice (some ⟨bo, off, none⟩) m oc) := by rw [HW.out, World.cell?_alloc_new]; rfl
      have q2 : W.cell? ⟨bo, off + k, none⟩ = some (.int .i64 (j : Int)) := by rw [HW.out]; exact d1 _
      have HB : Hid (Below w.heap.size w W) := by show Below _ _ _; rw [HW.out]; exact (Below.refl _ _).alloc (Nat.le_refl _) _
      have q3 : W.cell? ⟨bi, j * 7 + 2, none⟩ = some (.string nm) := by rw [HW.out]; exact d2 _
      clear HW d1 c1 d2
      go_big_quiet (fail)
      go_upto_region 3 with fail
      go_big_quiet (fail)
      clear q0 q1 q2 q3
      go_wp2_with fail
      go_ret
      exact ⟨ret_s HR2.out.symm, drew_kd (drew_kd HB.out _) _⟩
    · have HR2 : Hid (R = ⟨#[]⟩) := by show _ = _; rw [← HR.out]; exact nameAt_high hk (by omega)
      have g3 : decide (p.its.length ≤ j) = true := decide_eq_true (by omega)
      rw [hj] at d1 c1
      clear hI hi1 hO ho1 hF hf1 hco HI HR hgd hlow hj
      generalize p.opn.length = m at *
      generalize p.its.length = n at *
      go_enter Try.func49, Try.ntmps49
      go_upto_region 1 with fail
      obtain ⟨W, HW⟩ : ∃ W, Hid (W = w.alloc (.cells #[.slice ia n ic, .slice (some ⟨bo, off, none⟩) m oc, .slice fa p.fms.length fc, .int .i64 p.hd, .int .i64 p.bd] 25)) := ⟨_, rfl⟩
      rw [← HW.out]
      have q0 : W.cell? ⟨w.heap.size, 0, none⟩ = some (.slice ia n ic) := by rw [HW.out, World.cell?_alloc_new]; rfl
      have q1 : W.cell? ⟨w.heap.size, 1, none⟩ = some (.slice (some ⟨bo, off, none⟩) m oc) := by rw [HW.out, World.cell?_alloc_new]; rfl
      have q2 : W.cell? ⟨bo, off + k, none⟩ = some (.int .i64 (j : Int)) := by rw [HW.out]; exact d1 _
      have HB : Hid (Below w.heap.size w W) := by show Below _ _ _; rw [HW.out]; exact (Below.refl _ _).alloc (Nat.le_refl _) _
      clear HW d1 c1
      go_big_quiet (fail)
      clear q0 q1 q2
      go_wp2_with fail
      go_ret
      exact ⟨ret_s HR2.out.symm, drew_kd HB.out _⟩

set_option maxRecDepth 20000 in
set_option maxHeartbeats 8000000 in
/-- At no place. -/
theorem specName_no (p : PgB) (v : Value) (w : World) (hv : PgAt w v p) :
    Calls Try.prog 49 #[v, .int .i64 (-1)] w fun e w' => e = .returned (.string ⟨#[]⟩) ∧ Below w.heap.size w w' := by
  obtain ⟨ia, ic, oa, oc, fa, fc, rfl, _⟩ := hv
  go_enter Try.func49, Try.ntmps49
  go_upto_region 1 with fail
  go_big_quiet (fail)
  go_wp2_with fail
  go_ret
  exact ⟨rfl, drew_kd ((Below.refl _ _).alloc (Nat.le_refl _) _) _⟩

end Go.Proofs.Ytlnegnikedinaaa.Sg
