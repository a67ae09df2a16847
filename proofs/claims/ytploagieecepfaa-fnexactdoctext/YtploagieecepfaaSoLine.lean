/- The parts of a line: put, and told. -/
import Derived.Test.YtploagieecepfaaSoS
import Derived.BigQuiet
import Derived.Deep.Cut
import Derived.Deep.CutRange
namespace Go.Proofs.Ytploagieecepfaa.Sg
open Go.ChangeShapes Go.WideShapes Go.ChangeAt Go.RowKit

theorem size_zero {s : ByteArray} (h : s.size = 0) : s = ⟨#[]⟩ := by
  cases s with
  | mk d => congr 1; exact Array.eq_empty_of_size_eq_zero h
theorem list_none {s : ByteArray} (h : s.size = 0) : s.toList.isEmpty = true := by
  rw [ByteArray.toList_eq, size_zero h]
  rfl
theorem list_some {s : ByteArray} (h : s.size ≠ 0) : s.toList.isEmpty = false := by
  rw [ByteArray.toList_eq]
  cases hs : s.data.toList with
  | nil =>
    have h2 : s.data.toList.length = s.size := Array.length_toList
    rw [hs] at h2
    exact absurd h2.symm h
  | cons a l => rfl

set_option maxHeartbeats 1000000 in
/-- The first of two that is not empty. -/
theorem implOr (g : Nat) (nm tx : ByteArray) (w : World) (hg : w.heap[g]? = some (.cells #[.string nm, .string tx] 9 (0, 0))) :
    Calls Try.prog 32 #[.slice (some ⟨g, 0, none⟩) 2 2] w fun e w' => e = .returned (.string (namedS nm tx)) ∧ w' = w := by
  have c0 := cell_in hg 0
  have c1 := cell_in hg 1
  simp at c0 c1
  obtain ⟨v, HV⟩ : ∃ v, Hid (namedS nm tx = v) := ⟨_, rfl⟩
  rw [HV.out]
  go_enter Try.func32, Try.ntmps32
  go_wp2_with fail
  go_loopw [5, 8] (fun _ iv wr => wr = w ∧ (iv = .int .i64 0 ∨ (iv = .int .i64 1 ∧ Hid (nm.size = 0)) ∨ (iv = .int .i64 2 ∧ Hid (nm.size = 0) ∧ Hid (tx.size = 0)))) (fun _ iv _ => 2 - (intOf iv).toNat)
  case atStart => exact ⟨rfl, .inl rfl⟩
  case round =>
    obtain ⟨rfl, h⟩ := hrel
    rcases h with rfl | ⟨rfl, H0⟩ | ⟨rfl, H0, H1⟩
    · by_cases hn : nm.size = 0
      · have he := list_none hn
        have H0 : Hid (nm.size = 0) := hn
        clear hn
        go_wp2_with fail
        go_roundw
        case rel => exact ⟨trivial, .inr (.inl ⟨rfl, H0⟩)⟩
        case measure => simp [intOf]
      · have he := list_some hn
        have H1 : Hid (nm = v) := by show _ = _; rw [← HV.out, namedS, if_neg hn]
        clear hn
        go_wp2_with fail
        go_ret
        exact ⟨congrArg (fun s => Ending.returned (.string s)) H1.out, rfl⟩
    · by_cases hn : tx.size = 0
      · have he := list_none hn
        have H1 : Hid (tx.size = 0) := hn
        clear hn
        go_wp2_with fail
        go_roundw
        case rel => exact ⟨trivial, .inr (.inr ⟨rfl, H0, H1⟩)⟩
        case measure => simp [intOf]
      · have he := list_some hn
        have H1 : Hid (tx = v) := by show _ = _; rw [← HV.out, namedS, if_pos H0.out]
        clear hn
        go_wp2_with fail
        go_ret
        exact ⟨congrArg (fun s => Ending.returned (.string s)) H1.out, rfl⟩
    · have H2 : Hid (⟨#[]⟩ = v) := by show _ = _; rw [← HV.out, namedS, if_pos H0.out, size_zero H1.out]
      go_wp2_with fail
      go_ret
      exact ⟨congrArg (fun s => Ending.returned (.string s)) H2.out, rfl⟩

set_option maxHeartbeats 4000000 in
theorem implPutL (B b : Nat) (acc : List UInt8) (l0 l1 l2 l3 l4 l5 kd nm tx : ByteArray) (w : World) (h : ShB B b acc [l0, l1, l2, l3, l4, l5] w) (hBw : B ≤ w.heap.size) (hV : (namedS nm tx).size ≤ 70368744177664) :
    Calls Try.prog 20 #[.pointer (some ⟨b, 0, none⟩), .string kd, .string nm, .string tx] w fun e w' => e = .returned (.tuple #[]) ∧ ShB B b acc [l0, kd, ⟨#[32]⟩ ++ namedS nm tx, l3, l4, l5] w' ∧ Kp B b w w' := by
  obtain ⟨V, HV⟩ : ∃ V, Hid (namedS nm tx = V) := ⟨_, rfl⟩
  rw [HV.out] at hV ⊢
  have c1 : w.cell? ⟨b, 3, none⟩ = some (.string l1) := h.cell 1 (by simp)
  have f1 : w.frozen? ⟨b, 3, none⟩ = false := h.notFrozen 3
  have H1 : Hid (ShB B b acc [l0, kd, l2, l3, l4, l5] (w.setCell ⟨b, 3, none⟩ (.string kd))) := h.set 1 kd
  have K1 : Hid (Kp B b w (w.setCell ⟨b, 3, none⟩ (.string kd))) := (Kp.refl B b w).set h.base _ _
  have hs1 : (w.setCell ⟨b, 3, none⟩ (.string kd)).heap.size = w.heap.size := by simp [World.setCell]
  clear h
  go_enter Try.func20, Try.ntmps20
  go_upto_region 1 with fail
  generalize w.setCell ⟨b, 3, none⟩ (.string kd) = w1 at *
  have hBw1 : B ≤ w1.heap.size := by omega
  clear hs1 c1 f1
  have bA := ((Below.refl w1.heap.size w1).alloc (Nat.le_refl _) (.cells #[.string nm, .string tx] 9)).drew
  have H2 : Hid (ShB B b acc [l0, kd, l2, l3, l4, l5] (w1.alloc (.cells #[.string nm, .string tx] 9)).drew) := H1.out.below bA
  have K2 : Hid (Kp B b w (w1.alloc (.cells #[.string nm, .string tx] 9)).drew) := K1.out.trans (Kp.of bA hBw1)
  have c2 : (w1.alloc (.cells #[.string nm, .string tx] 9)).drew.cell? ⟨b, 4, none⟩ = some (.string l2) := H2.out.cell 2 (by simp)
  have f2 : (w1.alloc (.cells #[.string nm, .string tx] 9)).drew.frozen? ⟨b, 4, none⟩ = false := H2.out.notFrozen 4
  have HO := implOr w1.heap.size nm tx (w1.alloc (.cells #[.string nm, .string tx] 9)).drew (heap_alloc_new w1 _)
  rw [HV.out] at HO
  have H3 : Hid (ShB B b acc [l0, kd, ⟨#[32]⟩ ++ V, l3, l4, l5] ((w1.alloc (.cells #[.string nm, .string tx] 9)).drew.setCell ⟨b, 4, none⟩ (.string (⟨#[32]⟩ ++ V)))) := H2.out.set 2 _
  have K3 : Hid (Kp B b w ((w1.alloc (.cells #[.string nm, .string tx] 9)).drew.setCell ⟨b, 4, none⟩ (.string (⟨#[32]⟩ ++ V)))) := K2.out.set H1.out.base _ _
  clear H1 K1 H2 K2 bA
  have g1 : ¬ 9223372036854775807 < (⟨#[32]⟩ : ByteArray).size + V.size := by
    have : (⟨#[32]⟩ : ByteArray).size = 1 := rfl
    omega
  have g2 : ¬ 9223372036854775807 < 1 + V.size := by omega
  go_region_with (go_at_call 32; refine HO.mono ?_; rintro e w' ⟨rfl, rfl⟩)
  all_goals
    go_wp2_with fail
    exact bodyPost_end (results_none rfl _ _ _) rfl ⟨rfl, H3.out, K3.out⟩

end Go.Proofs.Ytploagieecepfaa.Sg
