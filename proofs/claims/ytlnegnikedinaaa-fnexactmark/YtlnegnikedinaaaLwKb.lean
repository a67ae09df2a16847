/- What is kept but for some blocks; marks of numbers, in rows that a call owns. -/
import Derived.Test.YtlnegnikedinaaaItMem
import Derived.Test.YtlnegnikedinaaaGKb
namespace Go.Proofs.Ytlnegnikedinaaa.Sg
open Go.ChangeShapes Go.WideShapes Go.ChangeAt Go.RowKit

/-- n marks from k on. -/
def cntL (k n : Nat) : List Int := (List.range n).map fun i : Nat => ((k + i : Nat) : Int)
theorem cntL_length (k n : Nat) : (cntL k n).length = n := by simp [cntL]
theorem cntL_at (k n i : Nat) (h : i < n) : (cntL k n).getD i 0 = ((k + i : Nat) : Int) := by simp [cntL, h]

set_option maxHeartbeats 4000000 in
theorem markIntS_grown (zs : List Int) (v : Value) (k B : Nat) (w : World) (ho : w.ownsRow B 3 1 v zs.length (intCellsI zs)) (hk : k ≤ 1099511627776) (hn : zs.length ≤ 1099511627776) :
    Calls Try.prog 28 #[v, .int .i64 (k : Int)] w fun e w' => e = .returned (.int .i64 ((k + zs.length : Nat) : Int)) ∧ w'.ownsRow B 3 1 v zs.length (intCellsI (cntL k zs.length)) ∧ w.grownBy w' v.ownBlock := by
  obtain ⟨hlc, ho⟩ := ho
  rcases ho with ⟨rfl, h0⟩ | ⟨g, cap, cur, rfl, hB, hg, hl, hm, hc, ht⟩
  · rw [h0]
    go_enter Try.func28, Try.ntmps28
    go_wp2
    refine wp_loop_rounds 1 ?_
    rw [rounds_succ]
    go_wp2
    go_ret
    exact ⟨rfl, ⟨rfl, .inl ⟨rfl, rfl⟩⟩, grown_refl _ _⟩
  clear hlc ht
  generalize hlen : zs.length = n at *
  clear hlen
  have Hm : Hid (cap ≤ maxLen) := hm
  clear hm
  rw [Nat.mul_one] at hc
  have hrow0 : w.rowIs g 3 cap (fun i => (cur[i]?).getD (.int .i64 0)) := by
    refine ⟨cur, hg, hc, fun i hi => ?_⟩
    have hlt : i < cur.size := by omega
    simp [hlt]
  clear hg
  go_enter Try.func28, Try.ntmps28
  go_wp2
  go_loopw [1, 5] (fun kv iv wr => ∃ i : Nat, i ≤ n ∧ iv = .int .i64 (i : Int) ∧ kv = .int .i64 ((k + i : Nat) : Int) ∧ Hid (wr.rowIs g 3 cap (fun j => if j < i then .int .i64 ((k + j : Nat) : Int) else (cur[j]?).getD (.int .i64 0))) ∧ w.grownBy wr (some g)) (fun _ iv _ => n - (intOf iv).toNat)
  case atStart =>
    refine ⟨0, Nat.zero_le _, rfl, rfl, ?_, grown_refl _ _⟩
    show w.rowIs _ _ _ _
    simpa using hrow0
  case round =>
    obtain ⟨i, hi, rfl, rfl, Hrow, hbel⟩ := hrel
    clear hrow0
    by_cases hlt : i < n
    · have h1 := Hrow.out.cell (i := i) (by omega)
      have h2 := Hrow.out.frozen i
      simp only [Nat.lt_irrefl, if_false] at h1
      generalize (cur[i]?).getD (.int .i64 0) = old at h1
      have hg4 := grown_trans hbel (grown_set wr g i (.int .i64 ((k + i : Nat) : Int)))
      go_wp2
      go_roundw
      case rel =>
        refine ⟨i + 1, by omega, by go_num, by go_num, ?_, by simpa using hg4⟩
        refine (Hrow.out.set i _).congr fun j hj => ?_
        by_cases e : j = i
        · subst e
          rw [if_pos rfl, if_pos (by omega)]
          simp
        · by_cases e2 : j < i
          · rw [if_neg e, if_pos e2, if_pos (by omega)]
          · rw [if_neg e, if_neg e2, if_neg (by omega)]
      case measure => simp [intOf]; omega
    · have hin : i = n := by omega
      subst hin
      go_wp2
      go_ret
      refine ⟨rfl, ?_, hbel⟩
      obtain ⟨c, hb, hc, hv⟩ := Hrow.out
      refine ⟨by unfold intCellsI; rw [List.length_map, cntL_length, Nat.mul_one], .inr ⟨g, cap, c, rfl, hB, hb, hl, Hm.out, by rw [Nat.mul_one]; exact hc, ?_⟩⟩
      rw [Nat.mul_one]
      apply List.ext_getElem?
      intro j
      by_cases hj : j < i
      · rw [List.getElem?_take_of_lt hj, Array.getElem?_toList, hv j (by omega)]
        simp [intCellsI, cntL, hj]
      · rw [List.getElem?_eq_none (by simp; omega), List.getElem?_eq_none (by unfold intCellsI; rw [List.length_map, cntL_length]; omega)]

set_option maxHeartbeats 4000000 in
theorem heldIntS_cnt (n k : Nat) (a : Option Addr) (cap : Nat) (w : World) (ho : Ints w a (cntL k n)) (hk : k ≤ 1099511627776) (hn : n ≤ 1099511627776) :
    Calls Try.prog 30 #[.slice a n cap, .int .i64 (k : Int)] w fun e w' => e = .returned (.int .i64 ((k + n : Nat) : Int)) ∧ w' = w := by
  have Ho : Hid (Ints w a (cntL k n)) := ho
  clear ho
  go_enter Try.func30, Try.ntmps30
  go_wp2
  go_loopw [1, 5] (fun kv iv wr => ∃ i : Nat, i ≤ n ∧ iv = .int .i64 (i : Int) ∧ kv = .int .i64 ((k + i : Nat) : Int) ∧ wr = w) (fun _ iv _ => n - (intOf iv).toNat)
  case atStart => exact ⟨0, Nat.zero_le _, rfl, rfl, rfl⟩
  case round =>
    obtain ⟨i, hi, rfl, rfl, rfl⟩ := hrel
    by_cases hlt : i < n
    · rcases Ho.out with h0 | ⟨b, off, rfl, hb, hc⟩
      · have : n = 0 := by have := congrArg List.length h0; rw [cntL_length] at this; simpa using this
        omega
      have c1 := hc i (by rw [cntL_length]; exact hlt)
      rw [cntL_at k n i hlt] at c1
      have g1 : (((k + i : Nat) : Int) != ((k + i : Nat) : Int)) = false := by simp
      clear hc
      go_wp2_with fail
      go_roundw
      case rel => exact ⟨i + 1, by omega, by go_num, by go_num, by first | trivial | rfl⟩
      case measure => simp [intOf]; omega
    · have hin : i = n := by omega
      subst hin
      go_wp2
      go_ret
      exact ⟨rfl, rfl⟩

end Go.Proofs.Ytlnegnikedinaaa.Sg
