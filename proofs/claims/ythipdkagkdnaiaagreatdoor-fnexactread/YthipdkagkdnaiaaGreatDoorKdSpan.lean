/- Contracts of the program's spans. -/
import Derived.Test.YthipdkagkdnaiaaGreatDoorMRD03
namespace Go.Proofs.YthipdkagkdnaiaaGreatDoor.Sg
open Go.ChangeShapes Go.WideShapes Go.ChangeAt Go.RowKit

/-- Some spans lie one behind the other from a block's beginning. -/
def Spans (w : World) (b : Nat) (l : List (Int × Int)) : Prop :=
  b < w.heap.size ∧ ∀ k, k < l.length → w.cell? ⟨b, k * 2, none⟩ = some (.int .i64 (l.getD k (0, 0)).1) ∧ w.cell? ⟨b, k * 2 + 1, none⟩ = some (.int .i64 (l.getD k (0, 0)).2)

theorem heap_new (w : World) (o : Obj) : (w.alloc o).heap[w.heap.size]? = some o := by
  show (w.heap.push o)[w.heap.size]? = _
  simp

/-- Two cells of a block of two, written. -/
theorem two_cellsK (w : World) (b : Nat) (x y x' y' : Value) (t : TypeId) (h : w.heap[b]? = some (.cells #[x, y] t)) :
    ((w.setCell ⟨b, 0, none⟩ x').setCell ⟨b, 1, none⟩ y').cell? ⟨b, 0, none⟩ = some x' ∧ ((w.setCell ⟨b, 0, none⟩ x').setCell ⟨b, 1, none⟩ y').cell? ⟨b, 1, none⟩ = some y' := by
  have h0 : w.cell? ⟨b, 0, none⟩ = some x := by simp [World.cell?, h]
  have h1 : w.cell? ⟨b, 1, none⟩ = some y := by simp [World.cell?, h]
  have h2 : (w.setCell ⟨b, 0, none⟩ x').cell? ⟨b, 1, none⟩ = some y := (World.cell?_setCell_other _ _ _ _ (by simp)).trans h1
  exact ⟨(World.cell?_setCell_other _ _ _ _ (by simp)).trans (World.cell?_setCell_same _ _ _ h0), World.cell?_setCell_same _ _ _ h2⟩

set_option maxHeartbeats 1000000 in
theorem implSpanOf (n : Int) (b m cap : Nat) (l : List (Int × Int)) (w : World) (hs : Spans w b l) (hm : l.length = m) (hl : m ≤ 1000) :
    Calls Tryz.prog 162 #[.int .i64 n, .slice (some ⟨b, 0, none⟩) m cap] w fun e w' => e = .returned (.agg #[.int .i64 (spanS l n).1, .int .i64 (spanS l n).2]) ∧ Below w.heap.size w w' := by
  obtain ⟨hb, hc⟩ := hs
  rw [hm] at hc
  have Hm : Hid (l.length = m) := hm
  have Hc : Hid (∀ k, k < m → w.cell? ⟨b, k * 2, none⟩ = some (.int .i64 (l.getD k (0, 0)).1) ∧ w.cell? ⟨b, k * 2 + 1, none⟩ = some (.int .i64 (l.getD k (0, 0)).2)) := hc
  clear hm hc
  go_enter Tryz.func162, Tryz.ntmps162
  go_wp2
  go_loopw [9] (fun i wr => ∃ k : Nat, k ≤ m ∧ i = .int .i64 k ∧ spanS l n = spanS (l.drop k) n ∧ Below w.heap.size w wr ∧ w.heap.size < wr.heap.size ∧ wr.heap[w.heap.size]? = some (.cells #[.int .i64 0, .int .i64 0] 159)) (fun i _ => m - (intOf i).toNat)
  case atStart =>
    exact ⟨0, Nat.zero_le _, rfl, rfl, (Below.refl _ _).alloc (Nat.le_refl _) _, by simp, heap_new _ _⟩
  case round =>
    obtain ⟨k, hk, rfl, hsp, hbel, hlt, hblk⟩ := hrel
    have hx : wr.cell? ⟨w.heap.size, 0, none⟩ = some (.int .i64 0) := by simp [World.cell?, hblk]
    have hy : wr.cell? ⟨w.heap.size, 1, none⟩ = some (.int .i64 0) := by simp [World.cell?, hblk]
    have hf : wr.frozen? ⟨w.heap.size, 0, none⟩ = false := by simp [World.frozen?, hblk]
    have hg : wr.frozen? ⟨w.heap.size, 1, none⟩ = false := by simp [World.frozen?, hblk]
    have Hblk : Hid (wr.heap[w.heap.size]? = some (.cells #[.int .i64 0, .int .i64 0] 159)) := hblk
    clear hblk
    have Hsp : Hid (spanS l n = spanS (l.drop k) n) := hsp
    clear hsp
    by_cases hlk : k < m
    · have hd := spanS_drop l n k (by rw [Hm.out]; exact hlk)
      have hc := Hc.out k hlk
      generalize hp : l.getD k (0, 0) = p at *
      clear hp
      obtain ⟨lo, hi⟩ := p
      obtain ⟨c1, c2⟩ := hc
      have h1 : wr.cell? ⟨b, k * 2, none⟩ = some (.int .i64 lo) := (hbel.cell (by exact hb)).trans c1
      have h2 : wr.cell? ⟨b, k * 2 + 1, none⟩ = some (.int .i64 hi) := (hbel.cell (by exact hb)).trans c2
      clear c1 c2
      have Hd : Hid (spanS (l.drop k) n = if inP n (lo, hi) then (lo, hi) else spanS (l.drop (k + 1)) n) := hd
      clear hd
      by_cases g1 : lo ≤ n
      · by_cases g2 : n ≤ hi
        · have hin : inP n (lo, hi) = true := decide_eq_true ⟨g1, g2⟩
          have hres : spanS l n = (lo, hi) := by rw [Hsp.out, Hd.out, hin]; rfl
          obtain ⟨t1, t2⟩ := two_cellsK wr w.heap.size _ _ (.int .i64 lo) (.int .i64 hi) _ Hblk.out
          have Hres : Hid (spanS l n = (lo, hi)) := hres
          have Hs : Hid (w.heap.size < wr.heap.size) := hlt
          clear hin hres
          go_wp2
          refine bodyPost_ret (v := .agg #[.int .i64 lo, .int .i64 hi]) ?_ rfl ⟨by rw [Hres.out], ?_⟩
          · have e0 := (World.cell?_alloc_past (w := (wr.setCell ⟨w.heap.size, 0, none⟩ (.int .i64 lo)).setCell ⟨w.heap.size, 1, none⟩ (.int .i64 hi)) (.cells #[.int .i64 lo, .int .i64 hi] 159) w.heap.size 0 (by simpa using Hs.out)).trans t1
            have e1 := (World.cell?_alloc_past (w := (wr.setCell ⟨w.heap.size, 0, none⟩ (.int .i64 lo)).setCell ⟨w.heap.size, 1, none⟩ (.int .i64 hi)) (.cells #[.int .i64 lo, .int .i64 hi] 159) w.heap.size 1 (by simpa using Hs.out)).trans t2
            simp [results, Tryz.results162, go_sem, e0, e1]
          · exact ((hbel.setCell (Nat.le_refl _) _).setCell (Nat.le_refl _) _).alloc (by simp; omega) _
        · have hin : inP n (lo, hi) = false := decide_eq_false fun h => g2 h.2
          have hnx : spanS l n = spanS (l.drop (k + 1)) n := by rw [Hsp.out, Hd.out, hin]; rfl
          have Hnx : Hid (spanS l n = spanS (l.drop (k + 1)) n) := hnx
          clear hin hnx
          go_wp2
          go_roundw
          case rel => exact ⟨k + 1, by omega, by go_num, Hnx.out, hbel.alloc hbel.size _, by simp; omega, (Below.heap_alloc _ _ _ hlt).trans Hblk.out⟩
          case measure => simp [intOf]; omega
      · have hin : inP n (lo, hi) = false := decide_eq_false fun h => g1 h.1
        have hnx : spanS l n = spanS (l.drop (k + 1)) n := by rw [Hsp.out, Hd.out, hin]; rfl
        have Hnx : Hid (spanS l n = spanS (l.drop (k + 1)) n) := hnx
        clear hin hnx
        go_wp2
        go_roundw
        case rel => exact ⟨k + 1, by omega, by go_num, Hnx.out, hbel.alloc hbel.size _, by simp; omega, (Below.heap_alloc _ _ _ hlt).trans Hblk.out⟩
        case measure => simp [intOf]; omega
    · have hkm : k = m := by omega
      subst hkm
      have hres : spanS l n = (0, 0) := by
        rw [Hsp.out, ← Hm.out, List.drop_length]
        rfl
      obtain ⟨t1, t2⟩ := two_cellsK wr w.heap.size _ _ (.int .i64 0) (.int .i64 0) _ Hblk.out
      have Hres : Hid (spanS l n = (0, 0)) := hres
      clear hres
      go_wp2
      refine bodyPost_ret (v := .agg #[.int .i64 0, .int .i64 0]) ?_ rfl ⟨by rw [Hres.out], ?_⟩
      · simp [results, Tryz.results162, go_sem, t1, t2]
      · exact (hbel.setCell (Nat.le_refl _) _).setCell (Nat.le_refl _) _

/-- A block of spans, as a literal lays it. -/
def spanCells : List (Int × Int) → List Value
  | [] => []
  | p :: l => .int .i64 p.1 :: .int .i64 p.2 :: spanCells l

theorem spanCells_at : ∀ (l : List (Int × Int)) (k : Nat), k < l.length → (spanCells l)[k * 2]? = some (.int .i64 (l.getD k (0, 0)).1) ∧ (spanCells l)[k * 2 + 1]? = some (.int .i64 (l.getD k (0, 0)).2)
  | [], k, h => absurd h (Nat.not_lt_zero _)
  | p :: l, 0, _ => by simp [spanCells]
  | p :: l, k + 1, h => by
    have ih := spanCells_at l k (by simpa using h)
    have e1 : (k + 1) * 2 = k * 2 + 1 + 1 := by omega
    rw [e1]
    simpa [spanCells] using ih

theorem Spans.laid (w : World) (l : List (Int × Int)) (t : TypeId) : Spans (w.alloc (.cells (spanCells l).toArray t)) w.heap.size l := by
  refine ⟨by simp, fun k hk => ?_⟩
  obtain ⟨h1, h2⟩ := spanCells_at l k hk
  rw [World.cell?_alloc_new, World.cell?_alloc_new, List.getElem?_toArray, List.getElem?_toArray]
  exact ⟨h1, h2⟩

theorem Spans.at_second (w : World) (o : Obj) (l : List (Int × Int)) (C : Array Value) (t : TypeId) (hC : C = (spanCells l).toArray) : Spans ((w.alloc o).alloc (.cells C t)) (w.heap.size + 1) l := by
  subst hC
  have h := Spans.laid (w.alloc o) l t
  rw [World.size_alloc] at h
  exact h

set_option maxHeartbeats 1000000 in
theorem implNextSpan (n : Int) (w : World) :
    Calls Tryz.prog 138 #[.int .i64 n] w fun e w' => e = .returned (.agg #[.int .i64 (spanS nextL n).1, .int .i64 (spanS nextL n).2]) ∧ Below w.heap.size w w' := by
  go_enter Tryz.func138, Tryz.ntmps138
  go_wp2_with fail
  refine (implSpanOf n (w.heap.size + 1) 5 5 nextL _ (Spans.at_second w _ nextL _ _ rfl) rfl (by decide)).mono ?_
  rintro e w1 ⟨rfl, hb1⟩
  obtain ⟨lo, hi, hp⟩ : ∃ lo hi, spanS nextL n = (lo, hi) := ⟨_, _, rfl⟩
  rw [hp]
  have Hp : Hid (spanS nextL n = (lo, hi)) := hp
  clear hp
  have hs : w.heap.size < w1.heap.size := Nat.lt_of_lt_of_le (by simp; omega) hb1.size
  have hblk : w1.heap[w.heap.size]? = some (.cells #[.int .i64 0, .int .i64 0] 159) := (hb1.block _ (by simp; omega)).trans ((Below.heap_alloc _ _ _ (by simp)).trans (heap_new _ _))
  have hx : w1.cell? ⟨w.heap.size, 0, none⟩ = some (.int .i64 0) := by simp [World.cell?, hblk]
  have hy : w1.cell? ⟨w.heap.size, 1, none⟩ = some (.int .i64 0) := by simp [World.cell?, hblk]
  have hf : w1.frozen? ⟨w.heap.size, 0, none⟩ = false := by simp [World.frozen?, hblk]
  have hg : w1.frozen? ⟨w.heap.size, 1, none⟩ = false := by simp [World.frozen?, hblk]
  have hbel : Below w.heap.size w w1 := (((Below.refl _ w).alloc (Nat.le_refl _) _).alloc (by simp) _).trans (hb1.mono (by simp; omega))
  obtain ⟨t1, t2⟩ := two_cellsK w1 w.heap.size _ _ (.int .i64 lo) (.int .i64 hi) _ hblk
  clear hblk hb1
  go_wp2
  refine bodyPost_ret (v := .agg #[.int .i64 lo, .int .i64 hi]) ?_ rfl ⟨by rw [Hp.out], ?_⟩
  · simp [results, Tryz.results138, go_sem, t1, t2]
  · exact (hbel.setCell (Nat.le_refl _) _).setCell (Nat.le_refl _) _

set_option maxHeartbeats 1000000 in
theorem implFirstSpan (n : Int) (w : World) :
    Calls Tryz.prog 137 #[.int .i64 n] w fun e w' => e = .returned (.agg #[.int .i64 (spanS firstL n).1, .int .i64 (spanS firstL n).2]) ∧ Below w.heap.size w w' := by
  go_enter Tryz.func137, Tryz.ntmps137
  go_wp2_with fail
  refine (implSpanOf n (w.heap.size + 1) 13 13 firstL _ (Spans.at_second w _ firstL _ _ rfl) rfl (by decide)).mono ?_
  rintro e w1 ⟨rfl, hb1⟩
  obtain ⟨lo, hi, hp⟩ : ∃ lo hi, spanS firstL n = (lo, hi) := ⟨_, _, rfl⟩
  rw [hp]
  have Hp : Hid (spanS firstL n = (lo, hi)) := hp
  clear hp
  have hs : w.heap.size < w1.heap.size := Nat.lt_of_lt_of_le (by simp; omega) hb1.size
  have hblk : w1.heap[w.heap.size]? = some (.cells #[.int .i64 0, .int .i64 0] 159) := (hb1.block _ (by simp; omega)).trans ((Below.heap_alloc _ _ _ (by simp)).trans (heap_new _ _))
  have hx : w1.cell? ⟨w.heap.size, 0, none⟩ = some (.int .i64 0) := by simp [World.cell?, hblk]
  have hy : w1.cell? ⟨w.heap.size, 1, none⟩ = some (.int .i64 0) := by simp [World.cell?, hblk]
  have hf : w1.frozen? ⟨w.heap.size, 0, none⟩ = false := by simp [World.frozen?, hblk]
  have hg : w1.frozen? ⟨w.heap.size, 1, none⟩ = false := by simp [World.frozen?, hblk]
  have hbel : Below w.heap.size w w1 := (((Below.refl _ w).alloc (Nat.le_refl _) _).alloc (by simp) _).trans (hb1.mono (by simp; omega))
  obtain ⟨t1, t2⟩ := two_cellsK w1 w.heap.size _ _ (.int .i64 lo) (.int .i64 hi) _ hblk
  clear hblk hb1
  go_wp2
  refine bodyPost_ret (v := .agg #[.int .i64 lo, .int .i64 hi]) ?_ rfl ⟨by rw [Hp.out], ?_⟩
  · simp [results, Tryz.results137, go_sem, t1, t2]
  · exact (hbel.setCell (Nat.le_refl _) _).setCell (Nat.le_refl _) _

end Go.Proofs.YthipdkagkdnaiaaGreatDoor.Sg
