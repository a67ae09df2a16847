/- Contract of the program's innermost: a range over slices.Backward, with a function that is asked. -/
import Derived.RangeFuncNested
import Derived.RangeFuncBound
import Derived.RangeFuncCalls
import Derived.RangeFuncLeaves
import Derived.Shelf.Abstract
import Derived.Shelf.RegionOpen
import Derived.WalkKit
import Derived.OwnWalkIn
import Derived.TacticsInMore
import Derived.LoopNIn
import Derived.LoopIn
import Derived.Test.YtlnegnikedinaaaGInts
namespace Go.Proofs.Ytlnegnikedinaaa.Sg
open Go.ChangeShapes Go.WideShapes Go.ChangeAt Go.RowKit Go.Shelf

attribute [local go_sem] Oper.semAt_some

theorem bx_of {W : World} {B : Nat} {v : Value} {t : TypeId} (h : W.heap[B]? = some (.cells #[v] t (0, 0))) : W.cell? ⟨B, 0, none⟩ = some v ∧ W.frozen? ⟨B, 0, none⟩ = false := by
  constructor <;> simp [World.cell?, World.frozen?, h]
theorem bx_new (W : World) (v : Value) (t : TypeId) : (W.alloc (.cells #[v] t)).cell? ⟨W.heap.size, 0, none⟩ = some v ∧ (W.alloc (.cells #[v] t)).frozen? ⟨W.heap.size, 0, none⟩ = false :=
  bx_of (World.alloc_heap_new W _)
theorem bx_alloc {W : World} {a : Addr} {v : Value} (o : Obj) (h : W.cell? a = some v) : (W.alloc o).cell? a = some v := cell_kept h (World.grownBy_alloc W o none) (fun r e => by cases e)
theorem bx_frozen {W : World} {a : Addr} {v : Value} (o : Obj) (h : W.cell? a = some v) (hf : W.frozen? a = false) : (W.alloc o).frozen? a = false := (frozen_kept h (World.grownBy_alloc W o none) (fun r e => by cases e)).trans hf

/-- The last j of a list, with their places, from the end on. -/
def downL (xs : List Int) (j : Nat) : List (Int × Int) := (List.range j).map fun m => (((xs.length - 1 - m : Nat) : Int), xs.getD (xs.length - 1 - m) 0)
theorem downL_length (xs : List Int) (j : Nat) : (downL xs j).length = j := by simp [downL]
theorem downL_succ (xs : List Int) (j : Nat) : downL xs (j + 1) = downL xs j ++ [(((xs.length - 1 - j : Nat) : Int), xs.getD (xs.length - 1 - j) 0)] := by
  unfold downL
  rw [List.range_succ, List.map_append]
  rfl
theorem downL_at {xs : List Int} {j m N : Nat} (hN : xs.length = N) (h : N = m + j + 1) : downL xs (j + 1) = downL xs j ++ [((m : Int), xs.getD m 0)] := by
  rw [downL_succ, hN, show N - 1 - j = m by omega]

set_option maxRecDepth 100000 in
set_option maxHeartbeats 4000000 in
theorem implBackward1 (n : Nat) (hn : 1 ≤ n) (xs : List Int) (a : Option Addr) (N cap : Nat) (hlen : N ≤ 1099511627776) (L Bl n₀ : Nat) (J Jx : List (Int × Int) → World → Prop)
    (hY : ∀ pre x W, J pre W → pre.length < N → YieldAt Fence.wide (n - 1) Try.prog L #[.int .i64 x.1, .int .i64 x.2] W fun e W' =>
      (e = .returned (.bool true) ∧ J (pre ++ [x]) W' ∧ Below n₀ W W') ∨ (e = .returned (.bool false) ∧ Jx (pre ++ [x]) W'))
    (W : World) (hl : W.cell? ⟨Bl, 0, none⟩ = some (.slice a N cap)) (hBl : Bl < n₀) (hI : xs = [] ∨ ∃ b off, a = some ⟨b, off, none⟩ ∧ b < n₀ ∧ ∀ m, m < xs.length → W.cell? ⟨b, off + m, none⟩ = some (.int .i64 (xs.getD m 0))) (hN : xs.length = N) (h0 : J [] W) :
    CallsIn Fence.wide n Try.prog 90 #[.func (.yield L) #[] #[], .pointer (some ⟨Bl, 0, none⟩)] W fun e W' => (∃ v, e = .returned v) ∧
      ((∃ ys, ys = downL xs N ∧ J ys W') ∨ (∃ pre, (∃ m, m ≤ N ∧ pre = downL xs m) ∧ Jx pre W')) := by
  have HN : Hid (xs.length = N) := hN
  have HI : Hid (xs = [] ∨ ∃ b off, a = some ⟨b, off, none⟩ ∧ b < n₀ ∧ ∀ m, m < xs.length → W.cell? ⟨b, off + m, none⟩ = some (.int .i64 (xs.getD m 0))) := hI
  clear hN hI
  refine callsIn_of_wp Try.func90 rfl trivial ?_ rfl
  simp only [Try.ntmps90, List.size_toArray, List.length_cons, List.length_nil, Nat.reduceAdd, Nat.reduceSub, Array.replicate_succ, Array.replicate_zero, List.push_toArray, List.append_toArray, List.nil_append, List.cons_append]
  have gw : IntKind.i64.wrap ((N : Int) - 1) = (N : Int) - 1 := IntWalk.i64_in _ (by omega)
  gi_wp2
  gi_loopw [3] (fun iv wr => ∃ j : Nat, j ≤ N ∧ iv = .int .i64 ((N : Int) - 1 - j) ∧ Hid (J (downL xs j) wr) ∧ Below n₀ W wr) (fun iv _ => (intOf iv + 1).toNat)
  case atStart => exact ⟨0, Nat.zero_le _, by simp, h0, Below.refl _ _⟩
  case round =>
    obtain ⟨j, hj, rfl, hJ, hb⟩ := hrel
    have hl2 : wr.cell? ⟨Bl, 0, none⟩ = some (.slice a N cap) := (hb.cell (p := ⟨Bl, 0, none⟩) hBl).trans hl
    by_cases hlt : j < N
    · obtain ⟨m, hm⟩ : ∃ m, N = m + j + 1 := ⟨N - j - 1, by omega⟩
      have em : (N : Int) - 1 - (j : Int) = (m : Int) := by omega
      rw [em]
      rcases HI.out with h | ⟨b, off, rfl, hbb, hcs⟩
      · have := HN.out
        rw [h] at this
        simp at this
        omega
      have c5 := (hb.cell (p := ⟨b, off + m, none⟩) hbb).trans (hcs m (by rw [HN.out]; omega))
      obtain ⟨fn, tmps, assign, body, hy, hR⟩ := hY (downL xs j) ((m : Int), xs.getD m 0) wr hJ.out (by rw [downL_length]; exact hlt)
      rw [← downL_at HN.out hm] at hR
      dsimp only at hy
      clear hcs hJ
      generalize xs.getD m 0 = u at *
      have c0 : (0 : Int) ≤ (m : Int) := Int.natCast_nonneg m
      have c1 : (m : Int) < (N : Int) := by omega
      have g0 : decide ((m : Int) ≥ 0) = true := decide_eq_true c0
      have gw2 : IntKind.i64.wrap ((m : Int) - 1) = (m : Int) - 1 := IntWalk.i64_in _ (by omega)
      have Hm : Hid (N = m + j + 1) := hm
      clear hm em
      gi_wp2
      refine hR.mono ?_
      rintro e W3 (⟨rfl, hJ3, hk3⟩ | ⟨rfl, hJx3⟩)
      · gi_wp2
        go_roundw
        case rel => exact ⟨j + 1, by omega, by congr 1; have := Hm.out; omega, hJ3, hb.trans hk3⟩
        case measure => simp [intOf]
      · gi_wp2
        refine bodyPost_ret (results_none rfl _ _ _) rfl ?_
        exact ⟨⟨_, rfl⟩, .inr ⟨_, ⟨j + 1, by omega, rfl⟩, hJx3⟩⟩
    · have ej : j = N := by omega
      subst ej
      have em : (j : Int) - 1 - (j : Int) = -1 := by omega
      rw [em]
      have hJ' := hJ.out
      gi_wp2
      go_end0
      exact ⟨⟨_, rfl⟩, .inl ⟨_, rfl, hJ'⟩⟩

set_option maxHeartbeats 1000000 in
/-- The function that Backward hands back has caught the list, in a box. -/
theorem implBackward (n : Nat) (a : Option Addr) (N cap : Nat) (w : World) :
    CallsIn Fence.wide n Try.prog 83 #[.slice a N cap] w fun e w' => e = .returned (.func (.func 90) #[] #[.pointer (some ⟨w.heap.size, 0, none⟩)]) ∧ w' = w.alloc (.cells #[.slice a N cap] 72) := by
  refine callsIn_of_wp Try.func83 rfl trivial ?_ rfl
  simp only [Try.ntmps83, List.size_toArray, List.length_cons, List.length_nil, Nat.reduceAdd, Nat.reduceSub, Array.replicate_succ, Array.replicate_zero, List.push_toArray, List.append_toArray, List.nil_append, List.cons_append]
  gi_wp2
  go_ret
  exact ⟨by simp, rfl⟩

/-- The ranges over it. -/
theorem backward_stops (n : Nat) (hn : 1 ≤ n) (xs : List Int) (a : Option Addr) (N cap : Nat) (hlen : N ≤ 1099511627776) (Bl n₀ : Nat) (w : World) (hn₀ : n₀ ≤ w.heap.size)
    (hl : w.cell? ⟨Bl, 0, none⟩ = some (.slice a N cap)) (hBl : Bl < n₀) (hI : xs = [] ∨ ∃ b off, a = some ⟨b, off, none⟩ ∧ b < n₀ ∧ ∀ m, m < xs.length → w.cell? ⟨b, off + m, none⟩ = some (.int .i64 (xs.getD m 0))) (hN : xs.length = N) :
    SeqStopsK Fence.wide n Try.prog 90 #[.pointer (some ⟨Bl, 0, none⟩)] (fun x : Int × Int => #[Value.int .i64 x.1, .int .i64 x.2]) (Below n₀) (fun ys => ys = downL xs N) (fun pre => ∃ m, m ≤ N ∧ pre = downL xs m) N w := fun L J Jx W hW _ _ hY h0 => by
  refine implBackward1 n hn xs a N cap hlen L Bl n₀ J Jx hY W ((hW.cell (p := ⟨Bl, 0, none⟩) (Nat.lt_of_lt_of_le hBl hn₀)).trans hl) hBl ?_ hN h0
  rcases hI with h | ⟨b, off, h1, h2, h3⟩
  · exact .inl h
  · exact .inr ⟨b, off, h1, h2, fun m h => (hW.cell (p := ⟨b, off + m, none⟩) (Nat.lt_of_lt_of_le h2 hn₀)).trans (h3 m h)⟩

/-- The place of the last one of the first n that is such a one; -1. -/
def lastQ (xs : List Int) (q : Int → Bool) : Nat → Int
  | 0 => -1
  | n + 1 => if q (xs.getD n 0) = true then (n : Int) else lastQ xs q n
theorem lastQ_none {xs : List Int} {q : Int → Bool} : ∀ {n : Nat}, (∀ m, m < n → q (xs.getD m 0) = false) → lastQ xs q n = -1
  | 0, _ => rfl
  | n + 1, h => by
    unfold lastQ
    rw [h n (Nat.lt_succ_self _)]
    exact lastQ_none fun m hm => h m (Nat.lt_succ_of_lt hm)
theorem lastQ_skip {xs : List Int} {q : Int → Bool} {k : Nat} : ∀ {n : Nat}, k ≤ n → (∀ m, k ≤ m → m < n → q (xs.getD m 0) = false) → lastQ xs q n = lastQ xs q k
  | 0, hk, _ => by rw [show k = 0 by omega]
  | n + 1, hk, h => by
    by_cases e : k = n + 1
    · rw [e]
    · have h1 := lastQ_skip (n := n) (by omega) (fun m h1 h2 => h m h1 (by omega))
      rw [← h1]
      show (if q (xs.getD n 0) = true then (n : Int) else lastQ xs q n) = _
      rw [h n (by omega) (Nat.lt_succ_self _)]
      rfl
theorem downL_mem {xs : List Int} {j m N : Nat} (hN : xs.length = N) (hj : j ≤ N) (h1 : N - j ≤ m) (h2 : m < N) : ((m : Int), xs.getD m 0) ∈ downL xs j := by
  unfold downL
  rw [List.mem_map]
  exact ⟨N - 1 - m, List.mem_range.2 (by omega), by rw [hN, show N - 1 - (N - 1 - m) = m by omega]⟩

theorem keeps_of_below {W W' : World} (h : Below W.heap.size W W') : KeepsOthers W W' :=
  ⟨h.size, fun k _ hk _ => (h.block k (Array.getElem?_eq_some_iff.1 hk).1).trans hk⟩

set_option maxRecDepth 100000 in
set_option maxHeartbeats 4000000 in
/-- The program's innermost, whatever function is asked that answers by q and writes into nothing that lay there. -/
theorem implInnermost (xs : List Int) (a : Option Addr) (N cap : Nat) (q : Int → Bool) (g : Nat) (lb : Array Value) (w : World) (eg : ∀ args w, (callFunc g args).run Try.prog w = .ok (.enter g args) w)
    (hS : ∀ W x, Below w.heap.size w W → Calls Try.prog g (#[.int .i64 x] ++ lb) W fun e W' => e = .returned (.bool (q x)) ∧ Below W.heap.size W W')
    (ha : Ints w a xs) (hN : xs.length = N) (hlen : N ≤ 1099511627776) :
    Calls Try.prog 64 #[.slice a N cap, .func (.func g) #[] lb] w fun e w' => e = .returned (.int .i64 (lastQ xs q N)) ∧ Below w.heap.size w w' := by
  refine (callsIn_wide (n := 3)).1 ?_
  have HN : Hid (xs.length = N) := hN
  have HS : Hid (∀ W x, Below w.heap.size w W → Calls Try.prog g (#[.int .i64 x] ++ lb) W fun e W' => e = .returned (.bool (q x)) ∧ Below W.heap.size W W') := hS
  have HI : Hid (Ints w a xs) := ha
  clear ha hN hS
  refine callsIn_of_wp_marks Try.func64 rfl trivial ?_ rfl
  simp only [Try.ntmps64, List.size_toArray, List.length_cons, List.length_nil, Nat.reduceAdd, Nat.reduceSub, Array.replicate_succ, Array.replicate_zero, List.push_toArray, List.append_toArray, List.nil_append, List.cons_append]
  gi_wp2_with (refine ⟨trivial, ?_⟩; gi_at_call 83; refine (implBackward _ _ _ _ _).mono ?_; rintro e w' ⟨rfl, rfl⟩)
  have c0 := bx_new w (.func (.func g) #[] lb) 89
  have c1 := bx_new (w.alloc (.cells #[.func (.func g) #[] lb] 89)) (.int .i64 0) 3
  have c2 := bx_new ((w.alloc (.cells #[.func (.func g) #[] lb] 89)).alloc (.cells #[.int .i64 0] 3)) (.slice a N cap) 72
  simp only [World.size_alloc] at c1 c2
  have hB0 : Below w.heap.size w (((w.alloc (.cells #[.func (.func g) #[] lb] 89)).alloc (.cells #[.int .i64 0] 3)).alloc (.cells #[.slice a N cap] 72)) := (((Below.refl _ w).alloc (Nat.le_refl _) _).alloc (by simp) _).alloc (by simp; omega) _
  have e0 := bx_alloc (.cells #[.slice a N cap] 72) (bx_alloc (.cells #[.int .i64 0] 3) c0.1)
  have e1 := bx_alloc (.cells #[.slice a N cap] 72) c1.1
  have e1f := bx_frozen (.cells #[.slice a N cap] 72) c1.1 c1.2
  have e2 := c2.1
  have hsz : (((w.alloc (.cells #[.func (.func g) #[] lb] 89)).alloc (.cells #[.int .i64 0] 3)).alloc (.cells #[.slice a N cap] 72)).heap.size = w.heap.size + 3 := by simp
  clear c0 c1 c2
  generalize (((w.alloc (.cells #[.func (.func g) #[] lb] 89)).alloc (.cells #[.int .i64 0] 3)).alloc (.cells #[.slice a N cap] 72)) = W0 at *
  have hI0 : xs = [] ∨ ∃ b off, a = some ⟨b, off, none⟩ ∧ b < w.heap.size + 3 ∧ ∀ m, m < xs.length → W0.cell? ⟨b, off + m, none⟩ = some (.int .i64 (xs.getD m 0)) := by
    rcases HI.out with h | ⟨b, off, h1, h2, h3⟩
    · exact .inl h
    · exact .inr ⟨b, off, h1, by omega, fun m h => (hB0.cell (p := ⟨b, off + m, none⟩) h2).trans (h3 m h)⟩
  refine wpIn_rangeFunc_ownF rfl (by decide) (gf := 90) (lb := #[.pointer (some ⟨w.heap.size + 1 + 1, 0, none⟩)]) rfl trivial (enters_of Try.func90 (by kernel_rfl) rfl)
    (backward_stops (3 - 1) (by decide) xs a N cap hlen (w.heap.size + 1 + 1) (w.heap.size + 3) W0 (by omega) e2 (by omega) hI0 HN.out) belowK_t (belowK_b (by omega)) (Below.refl _ _) (fun _ => rfl)
    (fun pre W => Hid (∀ y ∈ pre, q y.2 = false) ∧ Below (w.heap.size + 3) W0 W)
    (fun c pre W => (c = .ret ∧ Hid (∃ pr y, pre = pr ++ [y] ∧ (∀ z ∈ pr, q z.2 = false) ∧ q y.2 = true ∧ W.cell? ⟨w.heap.size + 1, 0, none⟩ = some (.int .i64 y.1))) ∧ Below w.heap.size w W)
    (OwnFrom.and (ownFrom_pure _ _) (ownFrom_below (by omega) (by omega)))
    (fun c => OwnFrom.and (Own.from (fun s A B row hs hg hr => ⟨hs.1, by obtain ⟨pr, y, h1, h2, h3, h4⟩ := hs.2.out; exact ⟨pr, y, h1, h2, h3, cell_kept h4 hg hr⟩⟩) _) (ownFrom_below (Nat.le_refl _) (by omega)))
    ⟨fun y hy => absurd hy List.not_mem_nil, Below.refl _ _⟩
    (fun x => { tmps := #[.slice a N cap, .func (.func g) #[] lb, undef, .pointer (some ⟨w.heap.size, 0, none⟩), .pointer (some ⟨w.heap.size + 1, 0, none⟩), .int .i64 x.1, .int .i64 x.2, .slice a N cap, .func (.func 90) #[] #[.pointer (some ⟨w.heap.size + 1 + 1, 0, none⟩)], .int .i64 x.1, .int .i64 x.2, undef, undef, undef, undef], defers := [] }) ?assign ?body ?done ?stop
  case assign =>
    intro l x W K hK
    gi_wp2
    exact hK
  case body =>
    rintro l pre x W ⟨hp, hB⟩ _
    have hBw : Below w.heap.size w W := hB0.trans (hB.mono (by omega))
    have hws : w.heap.size + 3 ≤ W.heap.size := by have := hB.size; omega
    have hcw : W.cell? ⟨w.heap.size, 0, none⟩ = some (.func (.func g) #[] lb) := (hB.cell (p := ⟨w.heap.size, 0, none⟩) (by simp)).trans e0
    have hcr : W.cell? ⟨w.heap.size + 1, 0, none⟩ = some (.int .i64 0) := (hB.cell (p := ⟨w.heap.size + 1, 0, none⟩) (by simp)).trans e1
    have hfr : W.frozen? ⟨w.heap.size + 1, 0, none⟩ = false := (hB.frozen (p := ⟨w.heap.size + 1, 0, none⟩) (by simp)).trans e1f
    gi_wp2
    refine ⟨trivial, ?_⟩
    refine (CallsIn.inRound l (callsIn_wide.2 (HS.out W x.2 hBw))).mono ?_
    rintro e W1 ⟨rfl, b1⟩
    have hcr1 := (b1.cell (p := ⟨w.heap.size + 1, 0, none⟩) (by simp; omega)).trans hcr
    have hfr1 := (b1.frozen (p := ⟨w.heap.size + 1, 0, none⟩) (by simp; omega)).trans hfr
    have hk1 := keeps_of_below b1
    have hB1 : Below (w.heap.size + 3) W W1 := b1.mono hws
    have hBw1 : Below w.heap.size w W1 := hBw.trans (b1.mono (by omega))
    cases hq : q x.2 with
    | true =>
      have Hq : Hid (q x.2 = true) := hq
      clear hq
      gi_wp2
      exact ⟨hk1.trans (KeepsOthers.setCell _ _ _), ⟨rfl, ⟨pre, x, rfl, hp.out, Hq.out, World.cell?_setCell_same' _ _ _ (by rw [hcr1]; rfl)⟩⟩, hBw1.setCell (p := ⟨w.heap.size + 1, 0, none⟩) (by simp) _⟩
    | false =>
      have Hq : Hid (q x.2 = false) := hq
      clear hq
      gi_wp2
      exact ⟨hk1, hB1, fun y hy => (List.mem_append.1 hy).elim (hp.out y) (fun e => by simp at e; rw [e]; exact Hq.out), hB.trans hB1⟩
  case done =>
    rintro D ys W hD rfl ⟨hne, hB⟩ hK
    have hcr : W.cell? ⟨w.heap.size + 1, 0, none⟩ = some (.int .i64 0) := (hB.cell (p := ⟨w.heap.size + 1, 0, none⟩) (by simp)).trans e1
    have hfr : W.frozen? ⟨w.heap.size + 1, 0, none⟩ = false := (hB.frozen (p := ⟨w.heap.size + 1, 0, none⟩) (by simp)).trans e1f
    have hBw : Below w.heap.size w W := hB0.trans (hB.mono (by omega))
    have hans : Hid (lastQ xs q N = -1) := lastQ_none fun m hm => hne.out _ (downL_mem HN.out (Nat.le_refl _) (by omega) hm)
    gi_wp2
    have hK' := (KeepsOthers.setCell W ⟨w.heap.size + 1, 0, none⟩ (.int .i64 (-1))).same D _ hK rfl
    refine ⟨by simp, .inl ⟨_, _, rfl, run_takeDeferred hK', ?_⟩⟩
    have hc5 := cell_kept (World.cell?_setCell_same' W ⟨w.heap.size + 1, 0, none⟩ (.int .i64 (-1)) (by rw [hcr]; rfl)) (grownBy_putObj' _ D (.deferred none)) (fun r e => by cases e; exact ⟨_, hK', rfl⟩)
    refine ⟨.int .i64 (-1), ?_, by rw [hans.out], (hBw.setCell (p := ⟨w.heap.size + 1, 0, none⟩) (by simp) _).trans (belowK_b (w := w) (Nat.le_refl _) _ D _ _ (by omega) hK' rfl rfl)⟩
    simp [results, Try.f64, go_sem, hc5]
  case stop =>
    rintro D c pre W hD ⟨m, hm, rfl⟩ ⟨⟨rfl, hx⟩, hB⟩ hK
    have hans : Hid (W.cell? ⟨w.heap.size + 1, 0, none⟩ = some (.int .i64 (lastQ xs q N))) := by
      obtain ⟨pr, y, h1, h2, h3, h4⟩ := hx.out
      cases m with
      | zero => cases pr <;> simp [downL] at h1
      | succ j =>
        obtain ⟨k, hk⟩ : ∃ k, N = k + j + 1 := ⟨N - j - 1, by omega⟩
        rw [downL_at HN.out hk] at h1
        obtain ⟨rfl, h6⟩ := List.append_inj' h1 rfl
        obtain rfl := (List.cons.inj h6).1
        have e1 : lastQ xs q N = lastQ xs q (k + 1) := lastQ_skip (by omega) fun z hz1 hz2 => h2 _ (downL_mem HN.out (by omega) (by omega) hz2)
        have e2 : lastQ xs q (k + 1) = (k : Int) := by
          unfold lastQ
          rw [if_pos h3]
        show _ = _
        rw [h4, e1, e2]
    have hcr := hans.out
    gi_wp2
    refine ⟨by simp, .inl ⟨_, _, rfl, run_takeDeferred hK, ?_⟩⟩
    have hc5 := cell_kept hcr (grownBy_putObj' _ D (.deferred none)) (fun r e => by cases e; exact ⟨_, hK, rfl⟩)
    refine ⟨.int .i64 (lastQ xs q N), ?_, rfl, hB.trans (belowK_b (w := w) (Nat.le_refl _) W D _ _ (by omega) hK rfl rfl)⟩
    simp [results, Try.f64, go_sem, hc5]

end Go.Proofs.Ytlnegnikedinaaa.Sg
