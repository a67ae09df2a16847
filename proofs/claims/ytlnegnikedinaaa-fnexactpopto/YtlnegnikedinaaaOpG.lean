/- Contract of the program's copied: numbers in new memory, without room behind them. -/
import Derived.Laws.MakeOwn
import Derived.Laws.CopyOwn
import Derived.Test.YtlnegnikedinaaaMDPopTo03
namespace Go.Proofs.Ytlnegnikedinaaa.Sg
open Go.ChangeShapes Go.WideShapes Go.ChangeAt Go.RowKit

set_option maxRecDepth 20000 in
set_option maxHeartbeats 4000000 in
theorem implCopied (zs : List Int) (kv : Value) (B0 : Nat) (w : World) (hk : w.ownsRow B0 3 1 kv zs.length (intCellsI zs)) (hc : zs.length ≤ 1099511627776) :
    Calls Try.prog 52 #[kv] w fun e w' => ∃ kv', e = .returned kv' ∧ w'.ownsRow w.heap.size 3 1 kv' zs.length (intCellsI zs) ∧ Below w.heap.size w w' := by
  obtain ⟨j0, gi, gz0, gz1, gz2⟩ := info_parts info_int
  obtain ⟨sa, sc, rfl⟩ := own_form hk
  have hcs : (intCellsI zs).length = zs.length := by unfold intCellsI; rw [List.length_map]
  obtain ⟨n, Hn⟩ : ∃ n, Hid (zs.length = n) := ⟨_, rfl⟩
  rw [Hn.out] at hk hc hcs ⊢
  have hmk := run_make (P := Try.prog) w 72 3 j0 _ Try.underlying72 gi gz0 .i64 .i64 n n (by omega) (Int.le_refl _) (by rw [gz2]; omega) (by omega)
  rw [gz1, Nat.mul_one, Int.toNat_natCast] at hmk
  obtain ⟨C, hC⟩ : ∃ C, madeCells (Value.int .i64 0).cells n = C := ⟨_, rfl⟩
  have hCs : C.toList.length = n := by rw [← hC, Array.length_toList, size_madeCells]
  rw [hC] at hmk
  have hg : (w.alloc (.cells C 3)).heap[w.heap.size]? = some (.cells C.toList.toArray 3 (0, 0)) := by
    rw [Array.toArray_toList]
    exact (MapKept.heap_alloc w (.cells C 3)).1
  have hb : Below w.heap.size w (w.alloc (.cells C 3)) := (Below.refl _ _).alloc (Nat.le_refl _) _
  have hsz : (Try.prog.info? 3).map (·.size) = some 1 := by rw [gi]; simp [gz1]
  have hpos : 0 < (intCellsI zs).length → (some (⟨w.heap.size, 0, none⟩ : Addr)) = some ⟨w.heap.size, 0, none⟩ ∧ ∃ ad, sa = some ad ∧ ∀ j v, (intCellsI zs)[j]? = some v → (w.alloc (.cells C 3)).cell? (ad.add j) = some v := fun h0 => by
    refine ⟨rfl, ?_⟩
    rcases hk.2 with ⟨h1, h2⟩ | ⟨g, cap, cur, h1, _⟩
    · omega
    · cases h1
      refine ⟨_, rfl, fun j v hj => ?_⟩
      have hjl : j < n * 1 := by have := (List.getElem?_eq_some_iff.1 hj).1; omega
      have hc := (own_cell hk hjl).1
      rw [hj] at hc
      have e : (⟨g, 0, none⟩ : Addr).add j = ⟨g, j, none⟩ := by unfold Addr.add; by_cases h : j = 0 <;> simp [h]
      rw [e]
      exact keep_cell hb hc
  have hmin : (intCellsI zs).length = Nat.min n n := by rw [hcs]; exact (Nat.min_self n).symm
  have hfit : 0 + (intCellsI zs).length ≤ C.toList.length := by omega
  have Hone := int_one zs
  have Hres : Hid (∀ w' : World, w'.heap[w.heap.size]? = some (.cells (splice C.toList 0 (intCellsI zs)).toArray 3 (0, 0)) → w'.ownsRow w.heap.size 3 1 (.slice (some ⟨w.heap.size, 0, none⟩) n n) n (intCellsI zs)) := fun w' h => by
    have e : splice C.toList 0 (intCellsI zs) = intCellsI zs := by
      unfold splice
      rw [List.take_zero, List.nil_append, List.drop_eq_nil_of_le (by omega), List.append_nil]
    rw [e] at h
    exact ⟨by omega, .inr ⟨_, n, _, rfl, Nat.le_refl _, h, Nat.le_refl _, by unfold maxLen; omega, by rw [List.size_toArray]; omega, by rw [List.toList_toArray]; exact List.take_of_length_le (by omega)⟩⟩
  generalize intCellsI zs = cs at *
  clear hk hC hcs hCs
  go_enter Try.func52, Try.ntmps52
  go_wp2_with (refine wpList_copy_splice rfl _ _ 72 72 rfl 3 Try.underlying72 hsz (some ⟨w.heap.size, 0, none⟩) sa n n n sc rfl rfl w.heap.size 0 C.toList 3 hg cs hmin hpos hfit Hone w.heap.size w hb (Nat.le_refl _) ?_; intro w' hg' hb')

  go_ret
  exact ⟨_, rfl, Hres.out _ hg'.out, hb'⟩

end Go.Proofs.Ytlnegnikedinaaa.Sg
