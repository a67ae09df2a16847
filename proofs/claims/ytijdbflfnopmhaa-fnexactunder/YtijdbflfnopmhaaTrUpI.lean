/- The program's Under: a range over a function that tells an item, its Up, and so on. -/
import Derived.RangeFuncNested
import Derived.RangeFuncBound
import Derived.RangeFuncCalls
import Derived.RangeFuncLeaves
import Derived.Shelf.Abstract
import Derived.Shelf.RegionOpen
import Derived.WalkKit
import Derived.OwnWalkIn
import Derived.TacticsInMore
import Derived.LoopNIn
import Derived.LoopIn
import Derived.Test.YtijdbflfnopmhaaTrUp
namespace Go.Proofs.Ytijdbflfnopmhaa.Sg
open Go.ChangeShapes Go.WideShapes Go.ChangeAt Go.RowKit Go.Shelf

attribute [local go_sem] Oper.semAt_some

theorem box_of {W : World} {B : Nat} {v : Value} {t : TypeId} (h : W.heap[B]? = some (.cells #[v] t (0, 0))) : W.cell? ⟨B, 0, none⟩ = some v ∧ W.frozen? ⟨B, 0, none⟩ = false := by
  constructor <;> simp [World.cell?, World.frozen?, h]
theorem box_new (W : World) (v : Value) (t : TypeId) : (W.alloc (.cells #[v] t)).cell? ⟨W.heap.size, 0, none⟩ = some v ∧ (W.alloc (.cells #[v] t)).frozen? ⟨W.heap.size, 0, none⟩ = false :=
  box_of (World.alloc_heap_new W _)
theorem box_alloc {W : World} {a : Addr} {v : Value} (o : Obj) (h : W.cell? a = some v) : (W.alloc o).cell? a = some v := cell_kept h (World.grownBy_alloc W o none) (fun r e => by cases e)
theorem box_frozen {W : World} {a : Addr} {v : Value} (o : Obj) (h : W.cell? a = some v) (hf : W.frozen? a = false) : (W.alloc o).frozen? a = false := (frozen_kept h (World.grownBy_alloc W o none) (fun r e => by cases e)).trans hf

set_option maxRecDepth 100000 in
set_option maxHeartbeats 4000000 in
theorem implUpFrom1 (n : Nat) (hn : 1 ≤ n) (l : List ItB) (a : Option Addr) (N cap : Nat) (k : Int) (hlen : N ≤ 1099511627776) (L Bk Bl n₀ : Nat) (J Jx : List Int → World → Prop)
    (hY : ∀ pre x W, J pre W → pre.length < N → YieldAt Fence.wide (n - 1) Try.prog L #[.int .i64 x] W fun e W' =>
      (e = .returned (.bool true) ∧ J (pre ++ [x]) W' ∧ Below n₀ W W') ∨ (e = .returned (.bool false) ∧ Jx (pre ++ [x]) W'))
    (W : World) (hk : W.cell? ⟨Bk, 0, none⟩ = some (.int .i64 k)) (hl : W.cell? ⟨Bl, 0, none⟩ = some (.slice a N cap)) (hBl : Bl < n₀) (hI : l = [] ∨ ∃ b, a = some ⟨b, 0, none⟩ ∧ b < n₀ ∧ ∀ m (h : m < l.length), W.cell? ⟨b, m * 7 + 5, none⟩ = some (.int .i64 (l[m]'h).up)) (hN : l.length = N) (h0 : J [] W) :
    CallsIn Fence.wide n Try.prog 64 #[.func (.yield L) #[] #[], .pointer (some ⟨Bk, 0, none⟩), .pointer (some ⟨Bl, 0, none⟩)] W fun e W' => (∃ v, e = .returned v) ∧
      ((∃ ys, (∃ m, m ≤ N ∧ ys = uptoI l k m ∧ (∀ j, j < m → inI l (stI l k j)) ∧ (m = N ∨ ¬ inI l (stI l k m))) ∧ J ys W') ∨ (∃ pre, (∃ m, m ≤ N ∧ pre = uptoI l k m ∧ (∀ j, j < m → inI l (stI l k j))) ∧ Jx pre W')) := by
  have HN : Hid (l.length = N) := hN
  have HI : Hid (l = [] ∨ ∃ b, a = some ⟨b, 0, none⟩ ∧ b < n₀ ∧ ∀ m (h : m < l.length), W.cell? ⟨b, m * 7 + 5, none⟩ = some (.int .i64 (l[m]'h).up)) := hI
  clear hN hI
  refine callsIn_of_wp Try.func64 rfl trivial ?_ rfl
  simp only [Try.ntmps64, List.size_toArray, List.length_cons, List.length_nil, Nat.reduceAdd, Nat.reduceSub, Array.replicate_succ, Array.replicate_zero, List.push_toArray, List.append_toArray, List.nil_append, List.cons_append]
  gi_wp2
  gi_loopw [4, 8] (fun av iv wr => ∃ j : Nat, j ≤ N ∧ iv = .int .i64 j ∧ av = .int .i64 (stI l k j) ∧ Hid (∀ p, p < j → inI l (stI l k p)) ∧ Hid (J (uptoI l k j) wr) ∧ Below n₀ W wr) (fun _ iv _ => N - (intOf iv).toNat)
  case atStart => exact ⟨0, Nat.zero_le _, rfl, rfl, fun p hp => absurd hp (Nat.not_lt_zero _), h0, Below.refl _ _⟩
  case round =>
    obtain ⟨j, hj, rfl, rfl, hin, hJ, hb⟩ := hrel
    have hl2 : wr.cell? ⟨Bl, 0, none⟩ = some (.slice a N cap) := (hb.cell (p := ⟨Bl, 0, none⟩) hBl).trans hl
    by_cases hlt : j < N
    · have gj : (j : Int) < (N : Int) := by omega
      by_cases hc : inI l (stI l k j)
      · obtain ⟨m, hm⟩ := Int.eq_ofNat_of_zero_le hc.1
        have hml : m < l.length := by have := hc.2; omega
        rcases HI.out with h | ⟨b, rfl, hbb, hcs⟩
        · rw [h] at hml
          exact absurd hml (Nat.not_lt_zero _)
        have hup : upI l (stI l k j) = (l[m]'hml).up := by
          rw [upI_in hc]
          simp only [hm, Int.toNat_natCast]
        have Hst : Hid (stI l k (j + 1) = (l[m]'hml).up) := hup
        have c5 := hcs m hml
        obtain ⟨fn, tmps, assign, body, hy, hR⟩ := hY (uptoI l k j) (stI l k j) wr hJ.out (by rw [uptoI_length]; exact hlt)
        have HR : Hid (∀ y, stI l k j = y → uptoI l k j ++ [y] = uptoI l k (j + 1)) := fun y hy => by rw [uptoI_succ, hy]
        have hu := HR.out _ rfl
        rw [hu] at hR
        clear hu HR hcs hJ
        have Hin : Hid (∀ p, p < j + 1 → inI l (stI l k p)) := fun p hp => by
          rcases Nat.lt_or_ge p j with h | h
          · exact hin.out p h
          · have : p = j := by omega
            rw [this]
            exact hc
        have c0 : (0 : Int) ≤ (m : Int) := Int.natCast_nonneg m
        have c1 : (m : Int) < (N : Int) := by have := HN.out; omega
        have g0 : decide ((m : Int) < 0) = false := decide_eq_false (by omega)
        have g1 : decide ((m : Int) ≥ (N : Int)) = false := decide_eq_false (by omega)
        have g2 : decide ((N : Int) ≤ (m : Int)) = false := decide_eq_false (by omega)
        clear hup hin hc
        generalize (l[m]'hml).up = u at *
        generalize stI l k j = c at *
        subst hm
        gi_wp2
        refine hR.mono ?_
        rintro e W3 (⟨rfl, hJ3, hk3⟩ | ⟨rfl, hJx3⟩)
        · have hb3 := hb.trans hk3
          have hl3 : W3.cell? ⟨Bl, 0, none⟩ = some (.slice (some ⟨b, 0, none⟩) N cap) := (hb3.cell (p := ⟨Bl, 0, none⟩) hBl).trans hl
          have c53 := (hb3.cell (p := ⟨b, m * 7 + 5, none⟩) hbb).trans c5
          gi_wp2
          go_roundw
          case rel => exact ⟨j + 1, by omega, by go_num, by rw [Hst.out], Hin, hJ3, hb3⟩
          case measure => simp [intOf]; omega
        · gi_wp2
          refine bodyPost_ret (results_none rfl _ _ _) rfl ?_
          exact ⟨⟨_, rfl⟩, .inr ⟨_, ⟨j + 1, by omega, rfl, Hin.out⟩, hJx3⟩⟩
      · have hJ' := hJ.out
        have Hc : Hid (¬ inI l (stI l k j)) := hc
        have Hd : Hid (¬ (0 ≤ stI l k j ∧ stI l k j < (N : Int))) := by
          show ¬ _
          rw [← HN.out]
          exact hc
        obtain ⟨c, Hcc⟩ : ∃ c, Hid (stI l k j = c) := ⟨_, rfl⟩
        rw [Hcc.out]
        rw [Hcc.out] at Hd
        clear hJ hc
        by_cases h1 : c < 0
        · have g1 : decide (c < 0) = true := decide_eq_true h1
          gi_wp2
          refine ⟨fun _ h => (by cases h), ?_⟩
          gi_wp2
          refine bodyPost_ret (results_none rfl _ _ _) rfl ?_
          exact ⟨⟨_, rfl⟩, .inl ⟨_, ⟨j, hj, rfl, hin.out, .inr Hc.out⟩, hJ'⟩⟩
        · have h2 : ¬ c < (N : Int) := fun h => Hd.out ⟨by omega, h⟩
          have g1 : decide (c < 0) = false := decide_eq_false h1
          have g2 : decide (c ≥ (N : Int)) = true := decide_eq_true (by omega)
          have g3 : decide ((N : Int) ≤ c) = true := decide_eq_true (by omega)
          have g4 : (N : Int) ≤ c := by omega
          gi_wp2
          refine ⟨fun _ h => (by cases h), ?_⟩
          gi_wp2
          refine bodyPost_ret (results_none rfl _ _ _) rfl ?_
          exact ⟨⟨_, rfl⟩, .inl ⟨_, ⟨j, hj, rfl, hin.out, .inr Hc.out⟩, hJ'⟩⟩
    · have gj : decide ((j : Int) < (N : Int)) = false := decide_eq_false (by omega)
      have hJ' := hJ.out
      gi_wp2
      go_end0
      exact ⟨⟨_, rfl⟩, .inl ⟨_, ⟨j, hj, rfl, hin.out, .inl (by omega)⟩, hJ'⟩⟩

set_option maxHeartbeats 1000000 in
/-- The function that upFrom hands back has caught the list and the number, in boxes. -/
theorem implUpFrom (n : Nat) (a : Option Addr) (N cap : Nat) (k : Int) (w : World) :
    CallsIn Fence.wide n Try.prog 40 #[.slice a N cap, .int .i64 k] w fun e w' => e = .returned (.func (.func 64) #[] #[.pointer (some ⟨w.heap.size + 1, 0, none⟩), .pointer (some ⟨w.heap.size, 0, none⟩)]) ∧ w' = (w.alloc (.cells #[.slice a N cap] 25)).alloc (.cells #[.int .i64 k] 3) := by
  refine callsIn_of_wp Try.func40 rfl trivial ?_ rfl
  simp only [Try.ntmps40, List.size_toArray, List.length_cons, List.length_nil, Nat.reduceAdd, Nat.reduceSub, Array.replicate_succ, Array.replicate_zero, List.push_toArray, List.append_toArray, List.nil_append, List.cons_append]
  gi_wp2
  go_ret
  exact ⟨by simp, rfl⟩

/-- The ranges over it. -/
theorem upFrom_stops (n : Nat) (hn : 1 ≤ n) (l : List ItB) (a : Option Addr) (N cap : Nat) (k : Int) (hlen : N ≤ 1099511627776) (Bk Bl n₀ : Nat) (w : World) (hBk : Bk < w.heap.size) (hn₀ : n₀ ≤ w.heap.size)
    (hk : w.cell? ⟨Bk, 0, none⟩ = some (.int .i64 k)) (hl : w.cell? ⟨Bl, 0, none⟩ = some (.slice a N cap)) (hBl : Bl < n₀) (hI : l = [] ∨ ∃ b, a = some ⟨b, 0, none⟩ ∧ b < n₀ ∧ ∀ m (h : m < l.length), w.cell? ⟨b, m * 7 + 5, none⟩ = some (.int .i64 (l[m]'h).up)) (hN : l.length = N) :
    SeqStopsK Fence.wide n Try.prog 64 #[.pointer (some ⟨Bk, 0, none⟩), .pointer (some ⟨Bl, 0, none⟩)] (fun x : Int => #[Value.int .i64 x]) (Below n₀) (fun ys => ∃ m, m ≤ N ∧ ys = uptoI l k m ∧ (∀ j, j < m → inI l (stI l k j)) ∧ (m = N ∨ ¬ inI l (stI l k m))) (fun pre => ∃ m, m ≤ N ∧ pre = uptoI l k m ∧ (∀ j, j < m → inI l (stI l k j))) N w := fun L J Jx W hW _ _ hY h0 => by
  refine implUpFrom1 n hn l a N cap k hlen L Bk Bl n₀ J Jx hY W ((hW.cell (p := ⟨Bk, 0, none⟩) hBk).trans hk) ((hW.cell (p := ⟨Bl, 0, none⟩) (Nat.lt_of_lt_of_le hBl hn₀)).trans hl) hBl ?_ hN h0
  rcases hI with h | ⟨b, h1, h2, h3⟩
  · exact .inl h
  · exact .inr ⟨b, h1, h2, fun m h => (hW.cell (p := ⟨b, m * 7 + 5, none⟩) (Nat.lt_of_lt_of_le h2 hn₀)).trans (h3 m h)⟩

set_option maxRecDepth 100000 in
set_option maxHeartbeats 4000000 in
/-- The program's Under. -/
theorem implUnder (l : List ItB) (a : Option Addr) (N cap : Nat) (i k : Int) (w : World) (ha : ItsAt w a l) (hN : l.length = N) (hlen : N ≤ 1099511627776) :
    Calls Try.prog 15 #[.slice a N cap, .int .i64 i, .int .i64 k] w fun e w' => e = .returned (.bool (underB l i k)) ∧ Below w.heap.size w w' := by
  refine (callsIn_wide (n := 3)).1 ?_
  have HI : Hid (l = [] ∨ ∃ b, a = some ⟨b, 0, none⟩ ∧ b < w.heap.size ∧ ∀ m (h : m < l.length), w.cell? ⟨b, m * 7 + 5, none⟩ = some (.int .i64 (l[m]'h).up)) := by
    rcases ha with h | ⟨b, h1, h2, h3⟩
    · exact .inl h
    · exact .inr ⟨b, h1, h2, fun m h => (h3 m h).2.2.2.2.2.1⟩
  have HN : Hid (l.length = N) := hN
  clear ha hN
  refine callsIn_of_wp_marks Try.func15 rfl trivial ?_ rfl
  simp only [Try.ntmps15, List.size_toArray, List.length_cons, List.length_nil, Nat.reduceAdd, Nat.reduceSub, Array.replicate_succ, Array.replicate_zero, List.push_toArray, List.append_toArray, List.nil_append, List.cons_append]
  gi_wp2_with (refine ⟨trivial, ?_⟩; gi_at_call 40; refine (implUpFrom _ _ _ _ _ _).mono ?_; rintro e w' ⟨rfl, rfl⟩)
  have c0 := box_new w (.int .i64 i) 3
  have c1 := box_new (w.alloc (.cells #[.int .i64 i] 3)) (.bool false) 4
  have c2 := box_new ((w.alloc (.cells #[.int .i64 i] 3)).alloc (.cells #[.bool false] 4)) (.slice a N cap) 25
  have c3 := box_new (((w.alloc (.cells #[.int .i64 i] 3)).alloc (.cells #[.bool false] 4)).alloc (.cells #[.slice a N cap] 25)) (.int .i64 k) 3
  simp only [World.size_alloc] at c1 c2 c3
  have hB0 : Below w.heap.size w ((((w.alloc (.cells #[.int .i64 i] 3)).alloc (.cells #[.bool false] 4)).alloc (.cells #[.slice a N cap] 25)).alloc (.cells #[.int .i64 k] 3)) := ((((Below.refl _ w).alloc (Nat.le_refl _) _).alloc (by simp) _).alloc (by simp; omega) _).alloc (by simp; omega) _
  have e0 := box_alloc (.cells #[.int .i64 k] 3) (box_alloc (.cells #[.slice a N cap] 25) (box_alloc (.cells #[.bool false] 4) c0.1))
  have e1 := box_alloc (.cells #[.int .i64 k] 3) (box_alloc (.cells #[.slice a N cap] 25) c1.1)
  have e1f := box_frozen (.cells #[.int .i64 k] 3) (box_alloc (.cells #[.slice a N cap] 25) c1.1) (box_frozen (.cells #[.slice a N cap] 25) c1.1 c1.2)
  have e2 := box_alloc (.cells #[.int .i64 k] 3) c2.1
  have e3 := c3.1
  have hsz : ((((w.alloc (.cells #[.int .i64 i] 3)).alloc (.cells #[.bool false] 4)).alloc (.cells #[.slice a N cap] 25)).alloc (.cells #[.int .i64 k] 3)).heap.size = w.heap.size + 4 := by simp
  clear c0 c1 c2 c3
  generalize ((((w.alloc (.cells #[.int .i64 i] 3)).alloc (.cells #[.bool false] 4)).alloc (.cells #[.slice a N cap] 25)).alloc (.cells #[.int .i64 k] 3)) = W0 at *
  have hI0 : l = [] ∨ ∃ b, a = some ⟨b, 0, none⟩ ∧ b < w.heap.size + 4 ∧ ∀ m (h : m < l.length), W0.cell? ⟨b, m * 7 + 5, none⟩ = some (.int .i64 (l[m]'h).up) := by
    rcases HI.out with h | ⟨b, h1, h2, h3⟩
    · exact .inl h
    · exact .inr ⟨b, h1, by omega, fun m h => (hB0.cell (p := ⟨b, m * 7 + 5, none⟩) h2).trans (h3 m h)⟩
  refine wpIn_rangeFunc_ownF rfl (by decide) (gf := 64) (lb := #[.pointer (some ⟨w.heap.size + 1 + 1 + 1, 0, none⟩), .pointer (some ⟨w.heap.size + 1 + 1, 0, none⟩)]) rfl trivial (enters_of Try.func64 (by kernel_rfl) rfl)
    (upFrom_stops (3 - 1) (by decide) l a N cap k hlen (w.heap.size + 1 + 1 + 1) (w.heap.size + 1 + 1) (w.heap.size + 4) W0 (by omega) (by omega) e3 e2 (by omega) hI0 HN.out) belowK_t (belowK_b (by omega)) (Below.refl _ _) (fun _ => rfl)
    (fun pre W => (Hid (∀ y ∈ pre, y ≠ i) ∧ W.cell? ⟨w.heap.size, 0, none⟩ = some (.int .i64 i) ∧ W.cell? ⟨w.heap.size + 1, 0, none⟩ = some (.bool false) ∧ W.frozen? ⟨w.heap.size + 1, 0, none⟩ = false) ∧ Below w.heap.size w W)
    (fun c pre W => (c = .ret ∧ Hid (i ∈ pre) ∧ W.cell? ⟨w.heap.size + 1, 0, none⟩ = some (.bool true)) ∧ Below w.heap.size w W)
    (OwnFrom.and (Own.from (fun s A B row hs hg hr => ⟨hs.1, cell_kept hs.2.1 hg hr, cell_kept hs.2.2.1 hg hr, (frozen_kept hs.2.2.1 hg hr).trans hs.2.2.2⟩) _) (ownFrom_below (Nat.le_refl _) (by omega)))
    (fun c => OwnFrom.and (Own.from (fun s A B row hs hg hr => ⟨hs.1, hs.2.1, cell_kept hs.2.2 hg hr⟩) _) (ownFrom_below (Nat.le_refl _) (by omega)))
    ⟨⟨fun y hy => absurd hy List.not_mem_nil, e0, e1, e1f⟩, hB0⟩
    (fun x => { tmps := #[.slice a N cap, .int .i64 i, .int .i64 k, undef, .pointer (some ⟨w.heap.size, 0, none⟩), undef, .pointer (some ⟨w.heap.size + 1, 0, none⟩), .int .i64 x, .slice a N cap, .int .i64 k, .func (.func 64) #[] #[.pointer (some ⟨w.heap.size + 1 + 1 + 1, 0, none⟩), .pointer (some ⟨w.heap.size + 1 + 1, 0, none⟩)], .int .i64 x, undef, undef, undef], defers := [] }) ?assign ?body ?done ?stop
  case assign =>
    intro l x W K hK
    gi_wp2
    exact hK
  case body =>
    rintro l pre x W ⟨⟨hp, hcw, hcr, hfr⟩, hB⟩ _
    gi_wp2
    · rename_i hx
      obtain rfl : x = i := eq_of_beq hx
      exact ⟨KeepsOthers.setCell _ _ _, ⟨rfl, List.mem_append.2 (.inr (by simp)), World.cell?_setCell_same' _ _ _ (by rw [hcr]; rfl)⟩, hB.setCell (p := ⟨w.heap.size + 1, 0, none⟩) (by simp) _⟩
    · rename_i hx
      exact ⟨KeepsOthers.refl _, Below.refl _ _, ⟨fun y hy => (List.mem_append.1 hy).elim (hp.out y) (fun e e' => by simp at e; subst e; subst e'; simp at hx), hcw, hcr, hfr⟩, hB⟩
  case done =>
    rintro D ys W hD ⟨m, hm, rfl, hin, hend⟩ ⟨⟨hne, _, hcr, hfr⟩, hB⟩ hK
    have hans : Hid (underB l i k = false) := under_none (by rw [HN.out]; exact hend) hne.out
    gi_wp2
    have hK' := (KeepsOthers.setCell W ⟨w.heap.size + 1, 0, none⟩ (.bool false)).same D _ hK rfl
    refine ⟨by simp, .inl ⟨_, _, rfl, run_takeDeferred hK', ?_⟩⟩
    have hc5 := cell_kept (World.cell?_setCell_same' W ⟨w.heap.size + 1, 0, none⟩ (.bool false) (by rw [hcr]; rfl)) (grownBy_putObj' _ D (.deferred none)) (fun r e => by cases e; exact ⟨_, hK', rfl⟩)
    refine ⟨.bool false, ?_, by rw [hans.out], (hB.setCell (p := ⟨w.heap.size + 1, 0, none⟩) (by simp) _).trans (belowK_b (w := w) (Nat.le_refl _) _ D _ _ (by omega) hK' rfl rfl)⟩
    simp [results, Try.f15, go_sem, hc5]
  case stop =>
    rintro D c pre W hD ⟨m, hm, rfl, hin⟩ ⟨⟨rfl, hmem, hcr⟩, hB⟩ hK
    have hans : Hid (underB l i k = true) := under_found (by rw [HN.out]; exact hm) hin hmem.out
    gi_wp2
    refine ⟨by simp, .inl ⟨_, _, rfl, run_takeDeferred hK, ?_⟩⟩
    have hc5 := cell_kept hcr (grownBy_putObj' _ D (.deferred none)) (fun r e => by cases e; exact ⟨_, hK, rfl⟩)
    refine ⟨.bool true, ?_, by rw [hans.out], hB.trans (belowK_b (w := w) (Nat.le_refl _) W D _ _ (by omega) hK rfl rfl)⟩
    simp [results, Try.f15, go_sem, hc5]

end Go.Proofs.Ytijdbflfnopmhaa.Sg
