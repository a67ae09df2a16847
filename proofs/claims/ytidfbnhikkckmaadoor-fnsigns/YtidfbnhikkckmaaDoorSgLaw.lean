/- What the laws over drawn bytes want: the bytes that came in, and GetSign at whatever place. -/
import Derived.Test.YtidfbnhikkckmaaDoorSgDraws
import Derived.Test.YtidfbnhikkckmaaDoorSgGetS
import Derived.Test.YtidfbnhikkckmaaDoorSgGetJ
namespace Go.Proofs.YtidfbnhikkckmaaDoor.Sg
open Go.ChangeShapes Go.WideShapes Go.ChangeAt Go.RowKit

/-- The bytes of a draw that came in. -/
theorem code_came {H : Type} {enc : TypeId × Value → H} {W : World} {m : Nat} {rd : Nat → Bool} {sp : Bool} {a : Option Addr} {len cap : Nat} {d : DataW H} {p : List MemPlace}
    (h : DataW.Trod enc Tryd.prog W m rd sp 22 (.slice a len cap) d p) : Code W.heap.size W a len ∧ len ≤ 9223372036854775807 := by
  obtain ⟨fuel, hf⟩ := h
  rcases open_ints Tryd.underlying22 Tryd.underlying5 (by kernel_rfl) hf with ⟨hcs, _⟩ | ⟨x, l, c, zs, hcs, _, hl, hm, hz, _, hcell, hwz⟩
  · simp [Value.cells] at hcs
    obtain ⟨rfl, rfl, rfl⟩ := hcs
    exact ⟨.inl rfl, Nat.zero_le _⟩
  · simp [Value.cells] at hcs
    obtain ⟨rfl, rfl, rfl⟩ := hcs
    unfold maxLen at hm
    have hzl : len ≤ zs.length := by split at hz <;> omega
    refine ⟨?_, by omega⟩
    by_cases h0 : len = 0
    · exact .inl h0
    · obtain ⟨b, off, spot⟩ := x
      have hc := hcell 0 (by omega)
      have hspot : spot = none := by simpa [Addr.add] using World.cell?_spot hc
      subst hspot
      have hadd : ∀ i, (⟨b, off, none⟩ : Addr).add i = ⟨b, off + i, none⟩ := fun i => by unfold Addr.add; split <;> simp_all
      have hb : b < W.heap.size := by
        rw [hadd] at hc
        rcases Nat.lt_or_ge b W.heap.size with h | h
        · exact h
        · simp [World.cell?, Array.getElem?_eq_none h] at hc
      refine .inr ⟨b, off, rfl, hb, hb, fun i hi => ?_⟩
      have hx : zs.getD i 0 ∈ zs := by
        rw [List.getD_eq_getElem?_getD, List.getElem?_eq_getElem (by omega)]
        exact List.getElem_mem _
      have hw := bounds_u8 (hwz _ hx)
      refine ⟨(zs.getD i 0).toNat, by omega, ?_⟩
      rw [← hadd, hcell i (by omega), Int.toNat_of_nonneg (by omega)]

/-- The sign at whatever place. -/
def getV (s : ByteArray) (z : Int) : Int × Int := if 0 ≤ z ∧ z < (s.size : Int) then (((getS s z.toNat).1 : Int), ((getS s z.toNat).2 : Int)) else (0, 0)

theorem getV_many (s : ByteArray) (z : Int) (h0 : ¬ z < 0) (h1 : ¬ (s.size : Int) ≤ z) : 1 ≤ (getV s z).2 := by
  unfold getV
  rw [if_pos (by omega)]
  have := getS_many s z.toNat (by omega)
  simp only
  omega

theorem specGet_any (s : ByteArray) (z : Int) (w : World) (hs : s.size ≤ 4611686018427387904) :
    Calls Tryd.prog 14 #[.string s, .int .i64 z] w fun e w' => e = .returned (.tuple #[.int .i64 (getV s z).1, .int .i64 (getV s z).2]) ∧ w' = w := by
  by_cases hin : 0 ≤ z ∧ z < (s.size : Int)
  · obtain ⟨i, rfl⟩ := Int.eq_ofNat_of_zero_le hin.1
    have hg : getV s (i : Int) = (((getS s i).1 : Int), ((getS s i).2 : Int)) := by unfold getV; rw [if_pos hin]; simp
    rw [hg]
    exact specGet_in s i w (by omega) hs
  · have hg : getV s z = (0, 0) := by unfold getV; rw [if_neg hin]
    rw [hg]
    exact specGet_out s z w (by omega)

theorem implGet_any (s : ByteArray) (z : Int) (w : World) (hs : s.size ≤ 4611686018427387904) (hT : Lib.Utf8Tabs 0 1 w) :
    Calls Tryd.prog 13 #[.string s, .int .i64 z] w fun e w' => e = .returned (.tuple #[.int .i64 (getV s z).1, .int .i64 (getV s z).2]) ∧ Below w.heap.size w w' := by
  by_cases hin : 0 ≤ z ∧ z < (s.size : Int)
  · obtain ⟨i, rfl⟩ := Int.eq_ofNat_of_zero_le hin.1
    have hg : getV s (i : Int) = (((getS s i).1 : Int), ((getS s i).2 : Int)) := by unfold getV; rw [if_pos hin]; simp
    rw [hg]
    exact implGet_in s i w (by omega) hs hT
  · have hg : getV s z = (0, 0) := by unfold getV; rw [if_neg hin]
    rw [hg]
    refine (implGet_out s z w (by omega)).mono ?_
    rintro e w' ⟨rfl, rfl⟩
    exact ⟨rfl, Below.refl _ _⟩

/-- What stays while a law goes on: the bytes of the draw, the tables, a list. -/
def Keep (w : World) (a : Option Addr) (n : Nat) (al : Option Addr) (zs : List Int) (w' : World) : Prop :=
  Below w.heap.size w w' ∧ Code w'.heap.size w' a n ∧ Lib.Utf8Tabs 0 1 w' ∧ Ints w' al zs

theorem Keep.step {w : World} {a : Option Addr} {n : Nat} {al : Option Addr} {zs : List Int} {w' w'' : World} (h : Keep w a n al zs w') (hb : Below w'.heap.size w' w'') : Keep w a n al zs w'' :=
  ⟨h.1.trans (hb.mono h.1.size), (h.2.1.below hb).raise hb.size, Utf8Tabs_below h.2.2.1 hb, h.2.2.2.below (Nat.le_refl _) hb⟩

set_option maxHeartbeats 1000000 in
theorem sameInts_same (zs : List Int) (a b : Option Addr) (ca cb : Nat) (w : World) (ha : Ints w a zs) (hb : Ints w b zs) (hn : zs.length ≤ 4611686018427387904) :
    Calls Tryd.prog 28 #[.slice a zs.length ca, .slice b zs.length cb] w fun e w' => e = .returned (.bool true) ∧ Below w.heap.size w w' := by
  rcases ha with rfl | ⟨ba, oa, rfl, hba, hca⟩
  · have hne : (((0 : Nat) : Int) != ((0 : Nat) : Int)) = false := by decide
    go_enter Tryd.func28, Tryd.ntmps28
    go_wp2
    refine wp_loop_rounds 1 ?_
    rw [rounds_succ]
    go_wp2
    go_ret
    exact ⟨rfl, Below.refl _ _⟩
  rcases hb with rfl | ⟨bb, ob, rfl, hbb, hcb⟩
  · go_enter Tryd.func28, Tryd.ntmps28
    go_wp2
    refine wp_loop_rounds 1 ?_
    rw [rounds_succ]
    go_wp2
    go_ret
    exact ⟨rfl, Below.refl _ _⟩
  generalize hlen : zs.length = n at *
  have Hlen : Hid (zs.length = n) := hlen
  clear hlen
  have hne : ((n : Int) != (n : Int)) = false := by simp
  go_enter Tryd.func28, Tryd.ntmps28
  go_wp2
  go_loopw [5] (fun i wr => ∃ k : Nat, k ≤ n ∧ i = .int .i64 k ∧ Below w.heap.size w wr) (fun i _ => n - (intOf i).toNat)
  case atStart => exact ⟨0, Nat.zero_le _, rfl, Below.refl _ _⟩
  case round =>
    obtain ⟨k, hk, rfl, hbel⟩ := hrel
    by_cases hlt : k < n
    · have h1 : wr.cell? ⟨ba, oa + k, none⟩ = some (.int .i64 (zs.getD k 0)) := (hbel.cell (by exact hba)).trans (hca k hlt)
      have h2 : wr.cell? ⟨bb, ob + k, none⟩ = some (.int .i64 (zs.getD k 0)) := (hbel.cell (by exact hbb)).trans (hcb k hlt)
      generalize zs.getD k 0 = z at h1 h2
      have hz : (z != z) = false := by simp
      clear hca hcb
      go_wp2
      go_quiet (fail)
      go_wp2
      go_roundw
      case rel => exact ⟨k + 1, by omega, by go_num, below_drewN hbel _⟩
      case measure => simp [intOf]; omega
    · go_wp2
      go_ret
      exact ⟨rfl, hbel⟩

set_option maxHeartbeats 1000000 in
theorem big_any (a : Option Addr) (n cap : Nat) (w : World) :
    Calls Tryd.prog 8 #[.slice a n cap] w fun e w' => e = .returned (.bool (decide ((1048576 : Int) < (n : Int)))) ∧ w' = w := by
  go_enter Tryd.func8, Tryd.ntmps8
  go_wp2
  go_ret
  exact ⟨rfl, rfl⟩

end Go.Proofs.YtidfbnhikkckmaaDoor.Sg
