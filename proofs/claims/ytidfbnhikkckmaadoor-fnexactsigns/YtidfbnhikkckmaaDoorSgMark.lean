/- Contracts of the laws' marks: a slice of ints that the call owns is filled with marks, and the marks are found. -/
import Derived.Test.YtidfbnhikkckmaaDoorSgSigns
namespace Go.Proofs.YtidfbnhikkckmaaDoor.Sg
open Go.ChangeShapes Go.WideShapes Go.ChangeAt Go.RowKit

/-- n marks from k on. -/
def countL (k : Int) (n : Nat) : List Int := (List.range n).map fun i : Nat => k + (i : Int)
theorem countL_length (k : Int) (n : Nat) : (countL k n).length = n := by simp [countL]
theorem countL_at (k : Int) (n i : Nat) (h : i < n) : (countL k n).getD i 0 = k + (i : Int) := by simp [countL, h]

theorem Owned.of_rowIs {w : World} {B g : Nat} {cap n : Nat} {k : Int} {f : Nat → Value} (hB : B ≤ g) (hn : n ≤ cap) (h : w.rowIs g 3 cap f) (hf : ∀ i, i < n → f i = .int .i64 (k + (i : Int))) : Owned w B (some ⟨g, 0, none⟩) cap (countL k n) := by
  obtain ⟨c, hb, hc, hv⟩ := h
  refine .inr ⟨g, c, rfl, hB, hb, by rw [countL_length]; exact hn, hc, ?_⟩
  rw [countL_length]
  apply List.ext_getElem?
  intro i
  by_cases hi : i < n
  · rw [List.getElem?_take_of_lt hi, Array.getElem?_toList, hv i (by omega), hf i hi]
    simp [intCells, countL, hi]
  · rw [List.getElem?_eq_none (by simp; omega), List.getElem?_eq_none (by simp [intCells, countL]; omega)]

set_option maxHeartbeats 1000000 in
theorem markIntS_any (zs : List Int) (a : Option Addr) (cap : Nat) (k : Int) (B : Nat) (w : World) (ho : Owned w B a cap zs) (hk0 : 0 ≤ k) (hk1 : k ≤ 1152921504606846976) (hn : zs.length ≤ 1152921504606846976) :
    Calls Tryd.prog 32 #[.slice a zs.length cap, .int .i64 k] w fun e w' => e = .returned (.int .i64 (k + (zs.length : Int))) ∧ Owned w' B a cap (countL k zs.length) ∧ Below B w w' ∧ w'.heap.size = w.heap.size := by
  rcases ho with ⟨rfl, rfl, rfl⟩ | ⟨g, cur, rfl, hB, hg, hl, hc, ht⟩
  · go_enter Tryd.func32, Tryd.ntmps32
    go_wp2
    refine wp_loop_rounds 1 ?_
    rw [rounds_succ]
    go_wp2
    go_ret
    exact ⟨by simp, .inl ⟨rfl, rfl, rfl⟩, Below.refl _ _, rfl⟩
  generalize hlen : zs.length = n at *
  clear hlen ht
  have hrow0 : w.rowIs g 3 cap (fun i => (cur[i]?).getD (.int .i64 0)) := by
    refine ⟨cur, hg, hc, fun i hi => ?_⟩
    have hlt : i < cur.size := by omega
    simp [hlt]
  clear hg
  go_enter Tryd.func32, Tryd.ntmps32
  go_wp2
  go_loopw [1, 5] (fun kv iv wr => ∃ i : Nat, i ≤ n ∧ iv = .int .i64 i ∧ kv = .int .i64 (k + (i : Int)) ∧ Hid (wr.rowIs g 3 cap (fun j => if j < i then .int .i64 (k + (j : Int)) else (cur[j]?).getD (.int .i64 0))) ∧ Below B w wr ∧ wr.heap.size = w.heap.size) (fun _ iv _ => n - (intOf iv).toNat)
  case atStart =>
    refine ⟨0, Nat.zero_le _, rfl, by simp, ?_, Below.refl _ _, rfl⟩
    show w.rowIs _ _ _ _
    simpa using hrow0
  case round =>
    obtain ⟨i, hi, rfl, rfl, Hrow, hbel, hsz⟩ := hrel
    have Hsz : Hid (wr.heap.size = w.heap.size) := hsz
    clear hrow0 hsz
    by_cases hlt : i < n
    · have h1 := Hrow.out.cell (i := i) (by omega)
      have h2 := Hrow.out.frozen i
      simp only [Nat.lt_irrefl, if_false] at h1
      generalize (cur[i]?).getD (.int .i64 0) = old at h1
      go_wp2
      go_roundw
      case rel =>
        refine ⟨i + 1, by omega, by go_num, by go_num, ?_, hbel.setCell hB _, by rw [World.size_setCell]; exact Hsz.out⟩
        refine (Hrow.out.set i _).congr fun j hj => ?_
        by_cases e : j = i
        · subst e
          rw [if_pos rfl, if_pos (by omega)]
        · by_cases e2 : j < i
          · rw [if_neg e, if_pos e2, if_pos (by omega)]
          · rw [if_neg e, if_neg e2, if_neg (by omega)]
      case measure => simp [intOf]; omega
    · have hin : i = n := by omega
      subst hin
      go_wp2
      go_ret
      exact ⟨rfl, Owned.of_rowIs hB hl Hrow.out (fun j hj => by rw [if_pos hj]), hbel, Hsz.out⟩

set_option maxHeartbeats 1000000 in
theorem heldIntS_any (n : Nat) (a : Option Addr) (cap : Nat) (k : Int) (w : World) (ho : Ints w a (countL k n)) (hk0 : 0 ≤ k) (hk1 : k ≤ 1152921504606846976) (hn : n ≤ 1152921504606846976) :
    Calls Tryd.prog 33 #[.slice a n cap, .int .i64 k] w fun e w' => e = .returned (.int .i64 (k + (n : Int))) ∧ w' = w := by
  go_enter Tryd.func33, Tryd.ntmps33
  go_wp2
  go_loop [1, 5] (fun kv iv => ∃ i : Nat, i ≤ n ∧ iv = .int .i64 i ∧ kv = .int .i64 (k + (i : Int))) (fun _ iv => n - (intOf iv).toNat)
  case atStart => exact ⟨0, Nat.zero_le _, rfl, by simp⟩
  case round =>
    obtain ⟨i, hi, rfl, rfl⟩ := hrel
    by_cases hlt : i < n
    · rcases ho with ho | ⟨b, off, rfl, hb, hc⟩
      · have := countL_length k n
        rw [ho] at this
        simp at this
        omega
      have h1 := hc i (by rw [countL_length]; exact hlt)
      rw [countL_at k n i hlt] at h1
      have hne : (k + (i : Int) != k + (i : Int)) = false := by simp
      clear hc
      go_wp2
      go_round
      case rel => exact ⟨i + 1, by omega, by go_num, by go_num⟩
      case measure => simp [intOf]; omega
    · have hin : i = n := by omega
      subst hin
      go_wp2
      go_ret
      exact ⟨rfl, rfl⟩

end Go.Proofs.YtidfbnhikkckmaaDoor.Sg
