/- Contracts of the program's names (a set's names, sorted, whatever order the map is gone through in) and has. -/
import Derived.Test.YtjbjmjnjdadjcaaKtImplA
import Derived.Test.YtjbjmjnjdadjcaaShelf
import Derived.Sort.OwnSorted
namespace Go.Proofs.Ytjbjmjnjdadjcaa.Sg
open Go.ChangeShapes Go.WideShapes Go.ChangeAt Go.RowKit Go.Maps Go.Sort

theorem infoS : (Try.prog.info? 9).map (fun i => (i.zero, i.size, i.bytes)) = some (some (.string ⟨#[]⟩), 1, 16) := by kernel_rfl

theorem sorted_ms (ss : List (List UInt8)) : (ss.mergeSort fun x y => decide (x ≤ y)).Pairwise (· ≤ ·) := by
  have h := List.pairwise_mergeSort (le := fun x y : List UInt8 => decide (x ≤ y)) (fun a b c h1 h2 => by simp only [decide_eq_true_eq] at *; exact List.le_trans h1 h2) (fun a b => by simp only [Bool.or_eq_true, decide_eq_true_eq]; exact List.le_total a b) ss
  exact h.imp fun {a b} h1 => of_decide_eq_true h1

set_option maxRecDepth 100000 in
set_option maxHeartbeats 4000000 in
theorem implNames (b n : Nat) (D0 : DataW Unit) (w : World) (hown : w.ownsMap Try.prog 9 unitElem b n D0) (hn : n ≤ 1000) :
    Calls Try.prog 46 #[.map (some b)] w fun e w' => ∃ (g cap : Nat) (ts : List (List UInt8)), e = .returned (.slice (some ⟨g, 0, none⟩) ts.length cap) ∧ ts.Pairwise (· ≤ ·) ∧ (∀ x, x ∈ ts ↔ Maps.has D0 (.string x) = true) ∧ ts.length ≤ 1000 ∧
      w'.ownsRow w.heap.size 9 1 (.slice (some ⟨g, 0, none⟩) ts.length cap) ts.length (ts.map Go.Proofs.encStr) ∧ Below w.heap.size w w' := by
  obtain ⟨i0, hi, hz0, hz1, hz2⟩ := info_parts infoS
  have hbl := hown.lt
  have hsz := hown.size_le
  have hmax : Maps.size D0 ≤ maxLen := by unfold maxLen; omega
  go_enter Try.func46, Try.ntmps46
  go_wp2_with (first
    | (at_len; refine wpList_len_own _ rfl _ 30 rfl 9 37 Try.underlying30 _ b n _ rfl hown ?_)
    | (at_make; refine wpList_make_own _ rfl _ _ 33 rfl w.heap.size 9 i0 (.string ⟨#[]⟩) 1 Try.underlying33 hi hz0 hz1 _ _ _ (Maps.size D0) rfl rfl rfl (by rw [hz2]; omega) hmax (Nat.le_refl _) ?_; intro w1 hrow1 hg1)
    | (at_range; refine wpList_range_own _ rfl _ 30 rfl 9 37 lawS Try.underlying30 _ b n _ rfl (hown.kept hg1 (by simp)) ?_; intro w0 hrg0 hg0 hs0)
    | go_in)
  go_frame
  go_loopw [3] (fun v wr => ∃ (left : Lit → Bool) (cnt : Nat) (ss : List (List UInt8)), wr.ranges Try.prog 9 unitElem b w1.heap.size n D0 left cnt ∧ ss.length + cnt ≤ Maps.size D0 ∧
      wr.ownsRow w.heap.size 9 1 v ss.length (ss.map Go.Proofs.encStr) ∧ v ≠ .slice none 0 0 ∧ Collected D0 left ss ∧ Below w.heap.size w wr)
    (fun _ wr => wr.rangeLeft b w1.heap.size)
  case atStart =>
    exact ⟨_, _, [], hrg0, by simp, hrow1.kept hg0 (Or.inr (by simp [Value.ownBlock])), by simp, Collected.start D0,
      ((Below.refl _ _).grown hg1 (Nat.le_refl _) (fun j hj => by cases hj)).grown hg0 hg1.size (fun j hj => by cases hj)⟩
  case round =>
    obtain ⟨left, cnt, ss, hrg, hcs, hrow, hnn, hC, hnx⟩ := hrel
    go_wp2_with (first
      | (at_next; refine wpList_next_ranges _ rfl _ rfl 9 lawS unitElem Go.Proofs.encStr (fun _ : Unit => Value.agg #[]) (fun key kl hk => by obtain ⟨x, hx, _⟩ := Maps.keyOf_str Try.underlying9 hk; exact ⟨x, hx⟩) (fun v y hv => by obtain ⟨rfl, _⟩ := unitElem_inv hv; exact ⟨(), rfl⟩) b w1.heap.size n _ _ _ rfl hrg ?_ ?_)
      | go_in)
    · intro hc0 hl0
      rcases hrow.2 with ⟨hnil, _⟩ | ⟨g, cap, cur, rfl, hbase, hb, h1, h2, h3, h4⟩
      · exact absurd hnil hnn
      have hH : Holds Go.Proofs.encStr wr g 0 ss.toArray := holds_of_block hb (by simpa using h4)
      have hgl : g < wr.heap.size := (Array.getElem?_eq_some_iff.1 hb).1
      have hc := Try.slices_Sort_string g 0 cap ss wr hH hgl (by omega)
      go_wp2_with (go_at_call 50; refine hc.mono ?_; rintro e w' ⟨rfl, nn, os, rfl⟩)
      go_ret
      have hl : (ss.mergeSort fun x y => decide (x ≤ y)).length = ss.length := by simp
      refine ⟨g, cap, ss.mergeSort fun x y => decide (x ≤ y), by rw [hl]; rfl, sorted_ms ss, fun x => ?_, by rw [hl]; omega, ?_, hnx.grown (grownBy_sorted _) hnx.size (fun j hj => by cases hj; exact hbase)⟩
      · rw [List.mem_mergeSort, hC.2 x, hl0]
        simp
      · rw [hl]
        exact ownsRow_sorted (by simp) hbase hb h1 h2 h3
    · intro x c kl y w2 cnt2 hkey hlk hv hat hrg2 hlt hg2 hs2 hen
      obtain ⟨x', ex, rfl, _⟩ := Maps.keyOf_str Try.underlying9 hkey
      obtain rfl : x = x' := encStr_inj ex
      have hrow2 := hrow.kept hg2 (Or.inr (row_ne_iter hrow hrg).symm)
      clear hs2
      go_wp2_with (first
        | (at_builtin; refine wpList_append_own _ rfl _ _ 33 rfl w.heap.size 9 i0 (.string ⟨#[]⟩) 1 16 Try.underlying33 hi hz0 hz1 hz2 rfl (by decide) _ _ _ rfl (hrow2.alloc _) ⟨w2.heap.size, 0, none⟩ 1 1 [Go.Proofs.encStr x] rfl rfl (cell_one_new _ _ _) (by simp [Value.oneCell', Go.Proofs.encStr]) (by unfold maxLen at *; omega) (by omega) (by have := hnx.size; have := hg2.size; simp; omega) ?_; intro v' w3 hown' hg3 hnil3; go_frame)
        | go_in)
      have hrg3 := (hrg2.alloc _).kept hg3 (row_ne_low hrow2 hbl) (row_ne_iter hrow2 hrg2)
      go_roundw
      case rel =>
        refine ⟨_, cnt2, ss ++ [x], hrg3, by simp; omega, by simpa using hown', fun hv' => by have := (hnil3.1 hv').2; omega, hC.step hlk hat, ?_⟩
        exact ((hnx.grown hg2 hnx.size (fun j hj => by cases hj; exact hg1.size)).alloc (by have := hnx.size; have := hg2.size; omega) _).grown hg3 (by have := hnx.size; have := hg2.size; simp; omega) (fun j hj => (hrow2.lt j hj).1)
      case measure => rw [hrg3.left_eq, hrg.left_eq]; exact hlt

theorem ret_two {a b : Bool} (i : Int) (h : a = b) : Ending.returned (.tuple #[.int .i64 i, .bool a]) = .returned (.tuple #[.int .i64 i, .bool b]) := by rw [h]

/-- The library's search by halves, of a list that is sorted. -/
theorem search (s : ByteArray) (g cap : Nat) (ts : List (List UInt8)) (w : World) (hs : ts.Pairwise (· ≤ ·)) (hn : ts.length ≤ 1000) (hc : ∀ j, j < ts.length → w.cell? ⟨g, j, none⟩ = some (.string (strB (ts.getD j [])))) :
    Calls Try.prog 45 #[.slice (some ⟨g, 0, none⟩) ts.length cap, .string s] w fun e w' => (∃ i : Int, e = .returned (.tuple #[.int .i64 i, .bool (decide (s.data.toList ∈ ts))])) ∧ Below w.heap.size w w' := by
  refine (Try.slices_BinarySearch_string g 0 ts.length cap (nth ts s.data.toList) s w (by omega) (fun j hj => ?_)).mono ?_
  · rw [Nat.zero_add, hc j hj]
    unfold nth
    simp [List.getD, List.getElem?_eq_getElem hj]
  · rintro e w' ⟨rfl, q, rfl⟩
    rw [found_low hs]
    exact ⟨⟨_, ret_two _ (decide_eq_decide.2 (found_iff hs s))⟩, (Below.refl w.heap.size w).trans ⟨rfl, rfl, rfl, Nat.le_refl _, fun _ _ => rfl⟩⟩

set_option maxHeartbeats 4000000 in
theorem implHas (s : ByteArray) (b n : Nat) (D0 : DataW Unit) (w : World) (hown : w.ownsMap Try.prog 9 unitElem b n D0) (hn : n ≤ 1000) :
    Calls Try.prog 36 #[.map (some b), .string s] w fun e w' => e = .returned (.bool (Maps.has D0 (.string s.data.toList))) ∧ Below w.heap.size w w' := by
  have C := implNames b n D0 w hown hn
  clear hown hn
  obtain ⟨R, HD⟩ : ∃ R, Hid (Maps.has D0 (.string s.data.toList) = R) := ⟨_, rfl⟩
  rw [HD.out]
  go_enter Try.func36, Try.ntmps36
  go_wp2_with fail
  refine C.mono ?_
  rintro e w1 ⟨g, cap, ts, rfl, hs, hm, hl, hrow, b1⟩
  have C2 := search s g cap ts w1 hs hl (fun j hj => by
    have := hrow.cellAt j (by simpa using hj)
    rw [this]
    simp [List.getD, List.getElem?_eq_getElem hj, Go.Proofs.encStr, strB])
  have HB : Hid (Below w.heap.size w w1) := b1
  have HR : Hid (decide (s.data.toList ∈ ts) = R) := by
    show _ = _
    rw [← HD.out]
    cases h : Maps.has D0 (.string s.data.toList) with
    | true => exact decide_eq_true ((hm _).2 h)
    | false => exact decide_eq_false fun h2 => by rw [(hm _).1 h2] at h; cases h
  rw [HR.out] at C2
  clear C hs hm hl hrow b1 HR HD
  generalize ts.length = m at *
  go_wp2_with fail
  refine C2.mono ?_
  rintro e w2 ⟨⟨i, rfl⟩, b2⟩
  clear C2
  go_wp2_with fail
  go_ret
  exact ⟨rfl, HB.out.trans (b2.mono HB.out.size)⟩

end Go.Proofs.Ytjbjmjnjdadjcaa.Sg
