/- The text that a builder at the head of a struct holds. -/
import Derived.Test.YtploagieecepfaaSoB
import Derived.Shelf.RegionOpen
import Derived.Lib.UnsafeStr
namespace Go.Proofs.Ytploagieecepfaa.Sg
open Go.ChangeShapes Go.WideShapes Go.ChangeAt Go.RowKit

theorem byte_cells : Try.prog.cellsOf 5 = 1 := by kernel_rfl

set_option maxHeartbeats 2000000 in
set_option maxRecDepth 100000 in
theorem headText (B b g cap : Nat) (cs cur : Array Value) (fz : Nat × Nat) (l : List UInt8) (w : World) (hl : l ≠ []) (hb : w.heap[b]? = some (.cells cs 53 (0, 0))) (h1 : cs[1]? = some (.slice (some ⟨g, 0, none⟩) l.length cap))
    (hBg : B ≤ g) (hg : w.heap[g]? = some (.cells cur 5 fz)) (hc : l.length ≤ cap) (hm : cap ≤ maxLen) (hcs : cur.size = cap) (hcells : ∀ j x, l[j]? = some x → w.cell? ((⟨g, 0, none⟩ : Addr).add j) = some (.int .u8 x.toNat)) :
    Calls Try.prog 16 #[.pointer (some ⟨b, 0, none⟩)] w fun e w' => e = .returned (.string ⟨l.toArray⟩) ∧ Below B w w' ∧ Lib.OthersKept 5 (some b) w w' := by
  have hl0 : l.length ≠ 0 := by simpa using hl
  have c1 : w.drew.cell? ⟨b, 1, none⟩ = some (.slice (some ⟨g, 0, none⟩) l.length cap) := by
    have : w.drew.heap[b]? = some (.cells cs 53 (0, 0)) := hb
    rw [cell_in this]
    exact h1
  have hSD : (Builtin.unsafeSliceData_ #[38] 63 #[.slice (some ⟨g, 0, none⟩) l.length cap]).run Try.prog w.drew = .ok (.pointer (some ⟨g, 0, none⟩)) w.drew := Lib.run_unsafeSliceData_row _ _ _ _ _ _ (by omega)
  have hUS : (Builtin.unsafeString_ #[63, 3] 9 #[.pointer (some ⟨g, 0, none⟩), .int .i64 l.length]).run Try.prog w.drew = .ok (.string ⟨l.toArray⟩) (w.drew.freeze ⟨g, 0, none⟩ l.length) :=
    Lib.run_unsafeString_row w.drew 63 3 9 5 Try.underlying63 byte_cells g cur.size (by have hg' : w.drew.heap[g]? = some (.cells cur 5 fz) := hg; simp [World.shape?, hg']) l hl (by omega) (by unfold maxLen at hm; omega) hcells
  have hbel : Hid (Below B w (w.drew.freeze ⟨g, 0, none⟩ l.length) ∧ Lib.OthersKept 5 (some b) w (w.drew.freeze ⟨g, 0, none⟩ l.length)) := ⟨Lib.below_freeze (Below.drew (Below.refl B w)) (p := ⟨g, 0, none⟩) hBg _, ((Lib.OthersKept.refl _ _ w).drew).freeze ⟨g, 0, none⟩ _ ⟨cur, fz, hg⟩⟩
  clear hcells hcs hm hc hg hb h1
  go_enter Try.func16, Try.ntmps16
  go_wp2
  go_region
  all_goals (go_wp2; go_ret; exact ⟨rfl, hbel.out⟩)

set_option maxHeartbeats 2000000 in
set_option maxRecDepth 100000 in
/-- Where it holds nothing. -/
theorem headNone (B b : Nat) (cs : Array Value) (a : Option Addr) (cap : Nat) (w : World) (hb : w.heap[b]? = some (.cells cs 53 (0, 0))) (h1 : cs[1]? = some (.slice a 0 cap)) (hB : B ≤ w.heap.size)
    (ha : (a = none ∧ cap = 0) ∨ ∃ g cur fz, a = some ⟨g, 0, none⟩ ∧ w.heap[g]? = some (.cells cur 5 fz)) :
    Calls Try.prog 16 #[.pointer (some ⟨b, 0, none⟩)] w fun e w' => e = .returned (.string ⟨#[]⟩) ∧ Below B w w' ∧ Lib.OthersKept 5 (some b) w w' := by
  have hlt : b < w.heap.size := (Array.getElem?_eq_some_iff.1 hb).1
  have c1 : w.drew.cell? ⟨b, 1, none⟩ = some (.slice a 0 cap) := by
    have : w.drew.heap[b]? = some (.cells cs 53 (0, 0)) := hb
    rw [cell_in this]
    exact h1
  have hUS : ∀ (W : World) (q : Option Addr), (Builtin.unsafeString_ #[63, 3] 9 #[.pointer q, .int .i64 0]).run Try.prog W = .ok (.string .empty) W := fun W q => Lib.run_unsafeString_none (w := W) _ _ _ q
  have hbD : Hid (Below B w w.drew ∧ Lib.OthersKept 5 (some b) w w.drew) := ⟨Below.drew (Below.refl B w), (Lib.OthersKept.refl _ _ w).drew⟩
  rcases ha with ⟨rfl, rfl⟩ | ⟨g, cur, fz, rfl, hg⟩
  · have hSD : (Builtin.unsafeSliceData_ #[38] 63 #[.slice none 0 0]).run Try.prog w.drew = .ok (.pointer none) w.drew := rfl
    clear hb h1
    go_enter Try.func16, Try.ntmps16
    go_wp2
    go_region
    all_goals (go_wp2; go_ret; exact ⟨rfl, hbD.out⟩)
  · by_cases hc0 : cap = 0
    · subst hc0
      have hSD : (Builtin.unsafeSliceData_ #[38] 63 #[.slice (some ⟨g, 0, none⟩) 0 0]).run Try.prog w.drew = .ok (.pointer (some ⟨w.drew.heap.size, 0, none⟩)) (w.drew.alloc (.view ⟨g, 0, none⟩ 5)) :=
        Lib.run_unsafeSliceData_zero w.drew _ _ 5 Try.underlying63 ⟨g, 0, none⟩ 0 (5, cur.size) (by have hg' : w.drew.heap[g]? = some (.cells cur 5 fz) := hg; simp [World.shape?, hg'])
      have c2 : (w.drew.alloc (.view ⟨g, 0, none⟩ 5)).cell? ⟨b, 1, none⟩ = some (.slice (some ⟨g, 0, none⟩) 0 0) := by
        have : (w.drew.alloc (.view ⟨g, 0, none⟩ 5)).heap[b]? = _ := (Lib.alloc_old w.drew _ b hlt).trans hb
        rw [cell_in this]
        exact h1
      have c3 : (w.alloc (.view ⟨g, 0, none⟩ 5)).drew.cell? ⟨b, 1, none⟩ = some (.slice (some ⟨g, 0, none⟩) 0 0) := c2
      have hbA : Hid (Below B w (w.drew.alloc (.view ⟨g, 0, none⟩ 5)) ∧ Lib.OthersKept 5 (some b) w (w.drew.alloc (.view ⟨g, 0, none⟩ 5))) := ⟨hbD.out.1.alloc hB _, hbD.out.2.alloc _⟩
      clear hb h1
      go_enter Try.func16, Try.ntmps16
      go_wp2
      go_region
      all_goals (go_wp2; go_ret; exact ⟨rfl, hbA.out⟩)
    · have hSD : (Builtin.unsafeSliceData_ #[38] 63 #[.slice (some ⟨g, 0, none⟩) 0 cap]).run Try.prog w.drew = .ok (.pointer (some ⟨g, 0, none⟩)) w.drew := Lib.run_unsafeSliceData_row _ _ _ _ _ _ hc0
      clear hb h1 hc0
      go_enter Try.func16, Try.ntmps16
      go_wp2
      go_region
      all_goals (go_wp2; go_ret; exact ⟨rfl, hbD.out⟩)

theorem headStringK (B b : Nat) (acc : List UInt8) (ln : List ByteArray) (w : World) (h : ShB B b acc ln w) (hBw : B ≤ w.heap.size) :
    Calls Try.prog 16 #[.pointer (some ⟨b, 0, none⟩)] w fun e w' => e = .returned (.string ⟨acc.toArray⟩) ∧ Below B w w' ∧ Lib.OthersKept 5 (some b) w w' := by
  obtain ⟨p, hB, v, hb, ho⟩ : ∃ p, ShA B b p acc ln w := by
    rcases h with h | h
    · exact ⟨_, h⟩
    · exact ⟨_, h⟩
  have ho2 := ho
  by_cases h0 : acc = []
  · subst h0
    rcases ho.2 with ⟨rfl, _⟩ | ⟨g, cap, cur, fz, rfl, _, hg, _⟩
    · exact headNone B b _ none 0 w hb rfl hBw (.inl ⟨rfl, rfl⟩)
    · exact headNone B b _ _ cap w hb rfl hBw (.inr ⟨g, cur, fz, rfl, hg⟩)
  · rcases ho.2 with ⟨_, hz⟩ | ⟨g, cap, cur, fz, rfl, hBg, hg, _, hc, hm, hcs, _⟩
    · exact absurd (List.length_eq_zero_iff.1 hz) h0
    · refine headText B b g cap _ cur fz acc w h0 hb rfl hBg hg hc hm (by omega) fun j x hx => ?_
      exact ho2.cells (g := g) rfl j (.int .u8 x.toNat) (by simp [Lib.byteCells, hx])

theorem headString (B b : Nat) (acc : List UInt8) (ln : List ByteArray) (w : World) (h : ShB B b acc ln w) (hBw : B ≤ w.heap.size) :
    Calls Try.prog 16 #[.pointer (some ⟨b, 0, none⟩)] w fun e w' => e = .returned (.string ⟨acc.toArray⟩) ∧ Below B w w' :=
  (headStringK B b acc ln w h hBw).mono fun _ _ h => ⟨h.1, h.2.1⟩

end Go.Proofs.Ytploagieecepfaa.Sg
