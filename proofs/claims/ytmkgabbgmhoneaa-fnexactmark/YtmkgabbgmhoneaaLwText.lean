/- Contracts of the laws' marks of texts, and of attributes compared. -/
import Derived.Test.YtmkgabbgmhoneaaGMark
import Derived.Test.YtmkgabbgmhoneaaGAttrs
import Derived.Deep.Cut
import Derived.Deep.CutRange
import Derived.Deep.RegionHeld3
namespace Go.Proofs.Ytmkgabbgmhoneaa.Sg
open Go.ChangeShapes Go.WideShapes Go.ChangeAt Go.RowKit

set_option maxHeartbeats 2000000 in
theorem eqAttr_same (x y : ByteArray) (w : World) :
    Calls Try.prog 42 #[.agg #[.string x, .string y], .agg #[.string x, .string y]] w fun e w' => e = .returned (.bool true) ∧ Below w.heap.size w w' := by
  have g1 : (x.toList == x.toList) = true := by simp
  have g2 : (y.toList == y.toList) = true := by simp
  go_enter Try.func42, Try.ntmps42
  go_wp2
  go_ret
  exact ⟨rfl, ((Below.refl _ _).alloc (Nat.le_refl _) _).alloc (by simp) _⟩

set_option maxHeartbeats 4000000 in
theorem eqAttrS_same (l : List AttrB) (a b : Option Addr) (n ca cb : Nat) (w : World) (ha : AttrsAt w a l) (hb : AttrsAt w b l) (hl : l.length = n) (hn : n ≤ 17592186044416) :
    Calls Try.prog 37 #[.slice a n ca, .slice b n cb] w fun e w' => e = .returned (.bool true) ∧ Below w.heap.size w w' := by
  have Hl : Hid (l.length = n) := hl
  have Ha : Hid (AttrsAt w a l) := ha
  have Hb : Hid (AttrsAt w b l) := hb
  have g0 : ((n : Int) != (n : Int)) = false := by simp
  clear hl ha hb
  go_enter Try.func37, Try.ntmps37
  go_wp2
  go_loopw [5] (fun v wr => ∃ k : Nat, k ≤ n ∧ v = .int .i64 (k : Int) ∧ Below w.heap.size w wr) (fun v _ => n - (intOf v).toNat)
  case atStart => exact ⟨0, Nat.zero_le _, rfl, Below.refl _ _⟩
  case round =>
    obtain ⟨k, hk, rfl, hbel⟩ := hrel
    by_cases hlt : k < n
    · have hkl : k < l.length := by rw [Hl.out]; exact hlt
      rcases Ha.out with h | ⟨ba, rfl, hba, hca⟩
      · rw [h] at hkl
        exact absurd hkl (Nat.not_lt_zero _)
      rcases Hb.out with h | ⟨bb, rfl, hbb, hcb⟩
      · rw [h] at hkl
        exact absurd hkl (Nat.not_lt_zero _)
      obtain ⟨c1, c2⟩ := hca k hkl
      obtain ⟨d1, d2⟩ := hcb k hkl
      clear hca hcb hkl
      generalize l.getD k (ByteArray.empty, ByteArray.empty) = p at *
      obtain ⟨x, y⟩ := p
      have c1' : wr.cell? ⟨ba, k * 2, none⟩ = some (.string x) := (hbel.cell (by exact hba)).trans c1
      have c2' : wr.cell? ⟨ba, k * 2 + 1, none⟩ = some (.string y) := (hbel.cell (by exact hba)).trans c2
      have d1' : wr.cell? ⟨bb, k * 2, none⟩ = some (.string x) := (hbel.cell (by exact hbb)).trans d1
      have d2' : wr.cell? ⟨bb, k * 2 + 1, none⟩ = some (.string y) := (hbel.cell (by exact hbb)).trans d2
      have k0 : (0 : Int) ≤ (k : Int) := by omega
      have k1 : (k : Int) < (n : Int) := by omega
      have HB : Hid (∀ wx : World, Below wr.heap.size wr wx → Below w.heap.size w wx) := fun wx h => hbel.trans (h.mono hbel.size)
      clear c1 c2 d1 d2 Ha Hb
      go_upto_region 6 with fail
      go_cut [26] from 11 to 26 (fun r wx => r = .bool false ∧ Below wr.heap.size wr wx)
      case first =>
        go_region_held3 (fun w' => w'.cell? ⟨ba, k * 2, none⟩ = some (.string x) ∧ w'.cell? ⟨ba, k * 2 + 1, none⟩ = some (.string y) ∧ w'.cell? ⟨bb, k * 2, none⟩ = some (.string x) ∧ w'.cell? ⟨bb, k * 2 + 1, none⟩ = some (.string y)) (first | go_keep | (go_split_ands; exact ⟨keep_cell hb' (by assumption), keep_cell hb' (by assumption), keep_cell hb' (by assumption), keep_cell hb' (by assumption)⟩)) (first | (go_at_call 42; refine (eqAttr_same x y _).mono ?_; rintro e w' ⟨rfl, hb'⟩))
        go_wp2_with fail
        go_meet
        case rel => exact ⟨rfl, ((Below.refl _ _).drew).trans hb'⟩
      case rest =>
        obtain ⟨rfl, hbx⟩ := hcut
        have hbel2 := HB.out _ hbx
        go_wp2_with fail
        go_roundw
        case rel => exact ⟨k + 1, by omega, by go_num, hbel2⟩
        case measure => simp [intOf]; omega
    · have g1 : decide ((k : Int) < (n : Int)) = false := decide_eq_false (by omega)
      go_wp2
      go_ret
      exact ⟨rfl, hbel⟩

/-- n attributes marked from k on. -/
def markL (k n : Nat) : List AttrB := (List.range n).map fun i => (markB (k + 2 * i), markB (k + 2 * i + 1))
theorem markL_length (k n : Nat) : (markL k n).length = n := by simp [markL]
theorem markL_cells (k n j : Nat) (h : j < n * 2) : (attrCells (markL k n))[j]? = some (.string (markB (k + j))) := by
  have hl : j / 2 < (markL k n).length := by rw [markL_length]; omega
  obtain ⟨h1, h2⟩ := attrCells_at (markL k n) (j / 2) hl
  have e : (markL k n).getD (j / 2) (ByteArray.empty, ByteArray.empty) = (markB (k + 2 * (j / 2)), markB (k + 2 * (j / 2) + 1)) := by
    rw [markL_length] at hl
    simp [markL, hl]
  rw [e] at h1 h2
  rcases Nat.mod_two_eq_zero_or_one j with hm | hm
  · have ej : j / 2 * 2 = j := by omega
    rw [ej] at h1
    rw [h1]
    show some (Value.string (markB (k + 2 * (j / 2)))) = _
    rw [show k + 2 * (j / 2) = k + j by omega]
  · have ej : j / 2 * 2 + 1 = j := by omega
    rw [ej] at h2
    rw [h2]
    show some (Value.string (markB (k + 2 * (j / 2) + 1))) = _
    rw [show k + 2 * (j / 2) + 1 = k + j by omega]

theorem own_of_rowIs {w : World} {B g cap n k : Nat} {e : TypeId} {f : Nat → Value} (hB : B ≤ g) (hn : n ≤ cap) (hm : cap ≤ maxLen) (h : w.rowIs g e (cap * 2) f) (hf : ∀ j, j < n * 2 → f j = .string (markB (k + j))) :
    w.ownsRow B e 2 (.slice (some ⟨g, 0, none⟩) n cap) n (attrCells (markL k n)) := by
  obtain ⟨c, hb, hc, hv⟩ := h
  refine ⟨by rw [attrCells_length, markL_length], .inr ⟨g, cap, c, rfl, hB, hb, hn, hm, hc, ?_⟩⟩
  apply List.ext_getElem?
  intro j
  by_cases hj : j < n * 2
  · rw [List.getElem?_take_of_lt hj, Array.getElem?_toList, hv j (by omega), hf j hj, markL_cells k n j hj]
  · rw [List.getElem?_eq_none (by simp; omega), List.getElem?_eq_none (by rw [attrCells_length, markL_length]; omega)]

end Go.Proofs.Ytmkgabbgmhoneaa.Sg
