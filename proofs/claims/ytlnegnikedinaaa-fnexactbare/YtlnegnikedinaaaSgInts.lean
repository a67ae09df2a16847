/- Contracts of the helpers on slices of ints that the laws use: a copy, and whether two hold the same. -/
import Derived.Test.YtlnegnikedinaaaGInts
namespace Go.Proofs.Ytlnegnikedinaaa.Sg
open Go.ChangeShapes Go.WideShapes Go.ChangeAt Go.RowKit

set_option maxHeartbeats 1000000 in
theorem eqIntS_same (zs : List Int) (a b : Option Addr) (ca cb : Nat) (w : World) (ha : Ints w a zs) (hb : Ints w b zs) (hn : zs.length ≤ 4611686018427387904) :
    Calls Try.prog 27 #[.slice a zs.length ca, .slice b zs.length cb] w fun e w' => e = .returned (.bool true) ∧ Below w.heap.size w w' := by
  rcases ha with rfl | ⟨ba, oa, rfl, hba, hca⟩
  · have hne : (((0 : Nat) : Int) != ((0 : Nat) : Int)) = false := by decide
    go_enter Try.func27, Try.ntmps27
    go_wp2
    refine wp_loop_rounds 1 ?_
    rw [rounds_succ]
    go_wp2
    go_ret
    exact ⟨rfl, Below.refl _ _⟩
  rcases hb with rfl | ⟨bb, ob, rfl, hbb, hcb⟩
  · go_enter Try.func27, Try.ntmps27
    go_wp2
    refine wp_loop_rounds 1 ?_
    rw [rounds_succ]
    go_wp2
    go_ret
    exact ⟨rfl, Below.refl _ _⟩
  generalize hlen : zs.length = n at *
  have Hlen : Hid (zs.length = n) := hlen
  clear hlen
  have hne : ((n : Int) != (n : Int)) = false := by simp
  go_enter Try.func27, Try.ntmps27
  go_wp2
  go_loopw [5] (fun i wr => ∃ k : Nat, k ≤ n ∧ i = .int .i64 k ∧ Below w.heap.size w wr) (fun i _ => n - (intOf i).toNat)
  case atStart => exact ⟨0, Nat.zero_le _, rfl, Below.refl _ _⟩
  case round =>
    obtain ⟨k, hk, rfl, hbel⟩ := hrel
    by_cases hlt : k < n
    · have h1 : wr.cell? ⟨ba, oa + k, none⟩ = some (.int .i64 (zs.getD k 0)) := (hbel.cell (by exact hba)).trans (hca k hlt)
      have h2 : wr.cell? ⟨bb, ob + k, none⟩ = some (.int .i64 (zs.getD k 0)) := (hbel.cell (by exact hbb)).trans (hcb k hlt)
      generalize zs.getD k 0 = z at h1 h2
      have hz : (z != z) = false := by simp
      clear hca hcb
      go_wp2
      go_quiet (fail)
      go_wp2
      go_roundw
      case rel => exact ⟨k + 1, by omega, by go_num, below_drewN hbel _⟩
      case measure => simp [intOf]; omega
    · go_wp2
      go_ret
      exact ⟨rfl, hbel⟩

set_option maxHeartbeats 1000000 in
theorem toIntS_any (zs : List Int) (a : Option Addr) (ca : Nat) (w : World) (ha : Ints w a zs) (hn : zs.length ≤ 17592186044416) :
    Calls Try.prog 35 #[.slice a zs.length ca] w fun e w' => e = .returned (.slice (some ⟨w.heap.size, 0, none⟩) zs.length zs.length) ∧
      w'.rowIs w.heap.size 3 zs.length (fun i => .int .i64 (zs.getD i 0)) ∧ Below w.heap.size w w' := by
  have hmk := fun (n : Nat) (h1 : 8 * n ≤ 281474976710656) (h2 : n ≤ 9223372036854775807) (w : World) => run_make_row' (P := Try.prog) 23 3 (.int .i64 0) 8 Try.underlying23 info_int rfl .i64 .i64 n h1 h2 w
  generalize hlen : zs.length = n at *
  have Hlen : Hid (zs.length = n) := hlen
  clear hlen
  have hb1 : 8 * n ≤ 281474976710656 := by omega
  have hb2 : n ≤ 9223372036854775807 := by omega
  have hmk1 := hmk n hb1 hb2
  clear hmk
  have hmade := World.rowIs_made w (.int .i64 0) n 3
  have hbel0 : Below w.heap.size w (w.alloc (.cells (madeCells #[.int .i64 0] n) 3)) := (Below.refl _ _).alloc (Nat.le_refl _) _
  go_enter Try.func35, Try.ntmps35
  go_wp2
  go_loopw [4] (fun i wr => ∃ k : Nat, k ≤ n ∧ i = .int .i64 k ∧ wr.rowIs w.heap.size 3 n (fun i => if i < k then .int .i64 (zs.getD i 0) else .int .i64 0) ∧ Below w.heap.size w wr) (fun i _ => n - (intOf i).toNat)
  case atStart => exact ⟨0, Nat.zero_le _, rfl, by simpa using hmade, hbel0⟩
  case round =>
    obtain ⟨k, hk, rfl, hrow, hbel⟩ := hrel
    clear hmade hbel0 hmk1
    have Hrow : Hid (wr.rowIs w.heap.size 3 n (fun i => if i < k then .int .i64 (zs.getD i 0) else .int .i64 0)) := hrow
    by_cases hlt : k < n
    · rcases ha with ha | ⟨ba, oa, rfl, hba, hca⟩
      · have := Hlen.out
        rw [ha] at this
        simp at this
        omega
      have hca' := hca k (by rw [Hlen.out]; exact hlt)
      have h1 : wr.cell? ⟨ba, oa + k, none⟩ = some (.int .i64 (zs.getD k 0)) := (hbel.cell (by exact hba)).trans hca'
      have h2 : wr.cell? ⟨w.heap.size, k, none⟩ = some (.int .i64 0) := by
        have := hrow.cell (i := k) hlt
        simpa using this
      have h3 : wr.frozen? ⟨w.heap.size, k, none⟩ = false := hrow.frozen k
      clear hca hca' hrow
      generalize hz : zs.getD k 0 = z at h1
      have HZ : Hid (zs.getD k 0 = z) := hz
      clear hz
      go_wp2
      go_roundw
      case rel =>
        refine ⟨k + 1, by omega, by go_num, ?_, hbel.setCell (Nat.le_refl _) _⟩
        refine (Hrow.out.set k (.int .i64 z)).congr fun i hi => ?_
        by_cases e : i = k
        · subst e
          rw [if_pos rfl, if_pos (by omega), HZ.out]
        · by_cases e2 : i < k
          · simp [e, e2, show i < k + 1 by omega]
          · simp [e, e2, show ¬ i < k + 1 by omega]
      case measure => simp [intOf]; omega
    · have hkn : k = n := by omega
      subst hkn
      clear hrow
      go_wp2
      go_ret
      refine ⟨rfl, ?_, hbel⟩
      exact Hrow.out.congr fun i hi => by simp [hi]

end Go.Proofs.Ytlnegnikedinaaa.Sg
