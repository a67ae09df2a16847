/- Contract of the laws' marks of texts. Contracts of the laws' marks of texts, and of attributes compared. Contracts of the laws' slices of words: compared. -/
import Derived.Test.YtmambbknljgjcaaDoorGConv
import Derived.Test.YtmambbknljgjcaaDoorGOwn
import Derived.Test.YtmambbknljgjcaaDoorGAttrs
import Derived.Deep.Cut
import Derived.Deep.CutRange
import Derived.Deep.RegionHeld3
import Derived.Test.YtmambbknljgjcaaDoorTnMem
import Derived.BigQuiet
import Derived.Deep.QuietTactic
namespace Go.Proofs.YtmambbknljgjcaaDoor.Sg
open Go.ChangeShapes Go.WideShapes Go.ChangeAt Go.RowKit

/-- The digits of a number ahead of a text. -/
def digS (k : Nat) (out : ByteArray) : ByteArray := if 0 < k then digS (k / 10) (strOfNums [48 + ((k % 10 : Nat) : Int)] ++ out) else out
  termination_by k
  decreasing_by omega
/-- The text that marks a number. -/
def markB (k : Nat) : ByteArray := if 0 < k then ⟨#[109]⟩ ++ digS k ⟨#[]⟩ else ⟨#[109, 48]⟩

theorem digS_yes {k : Nat} {out : ByteArray} (h : 0 < k) : digS k out = digS (k / 10) (strOfNums [48 + ((k % 10 : Nat) : Int)] ++ out) := by
  rw [digS, if_pos h]
theorem digS_no {k : Nat} {out : ByteArray} (h : ¬ 0 < k) : digS k out = out := by
  rw [digS, if_neg h]

theorem ret_text {a b : ByteArray} (h : a = b) : Ending.returned (.string a) = .returned (.string b) := by rw [h]


end Go.Proofs.YtmambbknljgjcaaDoor.Sg

namespace Go.Proofs.YtmambbknljgjcaaDoor.Sg
open Go.ChangeShapes Go.WideShapes Go.ChangeAt Go.RowKit

set_option maxHeartbeats 2000000 in
theorem eqAttr_same (x y : ByteArray) (w : World) :
    Calls Tryd.prog 56 #[.agg #[.string x, .string y], .agg #[.string x, .string y]] w fun e w' => e = .returned (.bool true) ∧ Below w.heap.size w w' := by
  have g1 : (x.toList == x.toList) = true := by simp
  have g2 : (y.toList == y.toList) = true := by simp
  go_enter Tryd.func56, Tryd.ntmps56
  go_wp2
  go_ret
  exact ⟨rfl, ((Below.refl _ _).alloc (Nat.le_refl _) _).alloc (by simp) _⟩

set_option maxHeartbeats 4000000 in
theorem eqAttrS_same (l : List AttrB) (a b : Option Addr) (n ca cb : Nat) (w : World) (ha : AttrsAt w a l) (hb : AttrsAt w b l) (hl : l.length = n) (hn : n ≤ 17592186044416) :
    Calls Tryd.prog 35 #[.slice a n ca, .slice b n cb] w fun e w' => e = .returned (.bool true) ∧ Below w.heap.size w w' := by
  have Hl : Hid (l.length = n) := hl
  have Ha : Hid (AttrsAt w a l) := ha
  have Hb : Hid (AttrsAt w b l) := hb
  have g0 : ((n : Int) != (n : Int)) = false := by simp
  clear hl ha hb
  go_enter Tryd.func35, Tryd.ntmps35
  go_wp2
  go_loopw [5] (fun v wr => ∃ k : Nat, k ≤ n ∧ v = .int .i64 (k : Int) ∧ Below w.heap.size w wr) (fun v _ => n - (intOf v).toNat)
  case atStart => exact ⟨0, Nat.zero_le _, rfl, Below.refl _ _⟩
  case round =>
    obtain ⟨k, hk, rfl, hbel⟩ := hrel
    by_cases hlt : k < n
    · have hkl : k < l.length := by rw [Hl.out]; exact hlt
      rcases Ha.out with h | ⟨ba, rfl, hba, hca⟩
      · rw [h] at hkl
        exact absurd hkl (Nat.not_lt_zero _)
      rcases Hb.out with h | ⟨bb, rfl, hbb, hcb⟩
      · rw [h] at hkl
        exact absurd hkl (Nat.not_lt_zero _)
      obtain ⟨c1, c2⟩ := hca k hkl
      obtain ⟨d1, d2⟩ := hcb k hkl
      clear hca hcb hkl
      generalize l.getD k (ByteArray.empty, ByteArray.empty) = p at *
      obtain ⟨x, y⟩ := p
      have c1' : wr.cell? ⟨ba, k * 2, none⟩ = some (.string x) := (hbel.cell (by exact hba)).trans c1
      have c2' : wr.cell? ⟨ba, k * 2 + 1, none⟩ = some (.string y) := (hbel.cell (by exact hba)).trans c2
      have d1' : wr.cell? ⟨bb, k * 2, none⟩ = some (.string x) := (hbel.cell (by exact hbb)).trans d1
      have d2' : wr.cell? ⟨bb, k * 2 + 1, none⟩ = some (.string y) := (hbel.cell (by exact hbb)).trans d2
      have k0 : (0 : Int) ≤ (k : Int) := by omega
      have k1 : (k : Int) < (n : Int) := by omega
      have HB : Hid (∀ wx : World, Below wr.heap.size wr wx → Below w.heap.size w wx) := fun wx h => hbel.trans (h.mono hbel.size)
      clear c1 c2 d1 d2 Ha Hb
      go_upto_region 6 with fail
      go_cut [26] from 11 to 26 (fun r wx => r = .bool false ∧ Below wr.heap.size wr wx)
      case first =>
        go_region_held3 (fun w' => w'.cell? ⟨ba, k * 2, none⟩ = some (.string x) ∧ w'.cell? ⟨ba, k * 2 + 1, none⟩ = some (.string y) ∧ w'.cell? ⟨bb, k * 2, none⟩ = some (.string x) ∧ w'.cell? ⟨bb, k * 2 + 1, none⟩ = some (.string y)) (first | go_keep | (go_split_ands; exact ⟨keep_cell hb' (by assumption), keep_cell hb' (by assumption), keep_cell hb' (by assumption), keep_cell hb' (by assumption)⟩)) (first | (go_at_call 56; refine (eqAttr_same x y _).mono ?_; rintro e w' ⟨rfl, hb'⟩))
        go_wp2_with fail
        go_meet
        case rel => exact ⟨rfl, ((Below.refl _ _).drew).trans hb'⟩
      case rest =>
        obtain ⟨rfl, hbx⟩ := hcut
        have hbel2 := HB.out _ hbx
        go_wp2_with fail
        go_roundw
        case rel => exact ⟨k + 1, by omega, by go_num, hbel2⟩
        case measure => simp [intOf]; omega
    · have g1 : decide ((k : Int) < (n : Int)) = false := decide_eq_false (by omega)
      go_wp2
      go_ret
      exact ⟨rfl, hbel⟩

/-- n attributes marked from k on. -/
def markL (k n : Nat) : List AttrB := (List.range n).map fun i => (markB (k + 2 * i), markB (k + 2 * i + 1))
theorem markL_length (k n : Nat) : (markL k n).length = n := by simp [markL]
theorem markL_cells (k n j : Nat) (h : j < n * 2) : (attrCells (markL k n))[j]? = some (.string (markB (k + j))) := by
  have hl : j / 2 < (markL k n).length := by rw [markL_length]; omega
  obtain ⟨h1, h2⟩ := attrCells_at (markL k n) (j / 2) hl
  have e : (markL k n).getD (j / 2) (ByteArray.empty, ByteArray.empty) = (markB (k + 2 * (j / 2)), markB (k + 2 * (j / 2) + 1)) := by
    rw [markL_length] at hl
    simp [markL, hl]
  rw [e] at h1 h2
  rcases Nat.mod_two_eq_zero_or_one j with hm | hm
  · have ej : j / 2 * 2 = j := by omega
    rw [ej] at h1
    rw [h1]
    show some (Value.string (markB (k + 2 * (j / 2)))) = _
    rw [show k + 2 * (j / 2) = k + j by omega]
  · have ej : j / 2 * 2 + 1 = j := by omega
    rw [ej] at h2
    rw [h2]
    show some (Value.string (markB (k + 2 * (j / 2) + 1))) = _
    rw [show k + 2 * (j / 2) + 1 = k + j by omega]

theorem own_of_rowIs {w : World} {B g cap n k : Nat} {e : TypeId} {f : Nat → Value} (hB : B ≤ g) (hn : n ≤ cap) (hm : cap ≤ maxLen) (h : w.rowIs g e (cap * 2) f) (hf : ∀ j, j < n * 2 → f j = .string (markB (k + j))) :
    w.ownsRow B e 2 (.slice (some ⟨g, 0, none⟩) n cap) n (attrCells (markL k n)) := by
  obtain ⟨c, hb, hc, hv⟩ := h
  refine ⟨by rw [attrCells_length, markL_length], .inr ⟨g, cap, c, rfl, hB, hb, hn, hm, hc, ?_⟩⟩
  apply List.ext_getElem?
  intro j
  by_cases hj : j < n * 2
  · rw [List.getElem?_take_of_lt hj, Array.getElem?_toList, hv j (by omega), hf j hj, markL_cells k n j hj]
  · rw [List.getElem?_eq_none (by simp; omega), List.getElem?_eq_none (by rw [attrCells_length, markL_length]; omega)]

end Go.Proofs.YtmambbknljgjcaaDoor.Sg

namespace Go.Proofs.YtmambbknljgjcaaDoor.Sg
open Go.ChangeShapes Go.WideShapes Go.ChangeAt Go.RowKit

set_option maxHeartbeats 2000000 in
theorem eqToken_same (t : TokB) (sv1 sv2 : Value) (w : World) (h1 : SlAttrs w sv1 t.2.2.1) (h2 : SlAttrs w sv2 t.2.2.1) (hn : t.2.2.1.length ≤ 17592186044416) :
    Calls Tryd.prog 22 #[.agg (tokV (t, sv1)).toArray, .agg (tokV (t, sv2)).toArray] w fun e w' => e = .returned (.bool true) ∧ Below w.heap.size w w' := by
  obtain ⟨k, nm, at', tx, sf⟩ := t
  obtain ⟨a1, c1, rfl, A1⟩ := h1
  obtain ⟨a2, c2, rfl, A2⟩ := h2
  have g0 : (k != k) = false := by simp
  have g1 : (nm.toList == nm.toList) = true := by simp
  have g2 : (tx.toList == tx.toList) = true := by simp
  have g3 : (sf != sf) = false := by simp
  have HA1 : Hid (AttrsAt w a1 at') := A1
  have HA2 : Hid (AttrsAt w a2 at') := A2
  have hn' : at'.length ≤ 17592186044416 := hn
  clear A1 A2 hn
  simp only [tokV]
  go_enter Tryd.func22, Tryd.ntmps22
  go_wp2_with fail
  refine (eqAttrS_same at' a1 a2 at'.length c1 c2 _ (HA1.out.below ?b) (HA2.out.below ?b2) rfl hn').mono ?_
  case b => exact ((Below.refl _ _).alloc (Nat.le_refl _) _).alloc (by simp) _
  case b2 => exact ((Below.refl _ _).alloc (Nat.le_refl _) _).alloc (by simp) _
  rintro e w1 ⟨rfl, b1⟩
  have z1 : w.heap.size + 1 < w1.heap.size := by
    have := b1.size
    simp at this
    omega
  have d3 : w1.cell? ⟨w.heap.size, 3, none⟩ = some (.string tx) := (b1.cell (by simp; omega)).trans (by simp)
  have d4 : w1.cell? ⟨w.heap.size, 4, none⟩ = some (.bool sf) := (b1.cell (by simp; omega)).trans (by simp)
  have f3 : w1.cell? ⟨w.heap.size + 1, 3, none⟩ = some (.string tx) := (b1.cell (by simp)).trans (by simp)
  have f4 : w1.cell? ⟨w.heap.size + 1, 4, none⟩ = some (.bool sf) := (b1.cell (by simp)).trans (by simp)
  have bb : Below w.heap.size w w1 := (((Below.refl _ _).alloc (Nat.le_refl _) _).alloc (by simp) _).trans (b1.mono (by simp; omega))
  clear b1
  go_wp2_with fail
  go_ret
  exact ⟨rfl, bb⟩

theorem keep_sl {w w' : World} (hb : Below w.heap.size w w') {v : Value} {l : List AttrB} (h : SlAttrs w v l) : SlAttrs w' v l := h.keep hb

set_option maxHeartbeats 4000000 in
theorem eqTokenS_same (l : List TokB) (a b : Option Addr) (n ca cb : Nat) (w : World) (ha : ToksAt w a l) (hb : ToksAt w b l) (hl : l.length = n) (hn : n ≤ 17592186044416) (hat : ∀ t ∈ l, t.2.2.1.length ≤ 17592186044416) :
    Calls Tryd.prog 9 #[.slice a n ca, .slice b n cb] w fun e w' => e = .returned (.bool true) ∧ Below w.heap.size w w' := by
  have Hl : Hid (l.length = n) := hl
  have Ha : Hid (ToksAt w a l) := ha
  have Hb : Hid (ToksAt w b l) := hb
  have Hat : Hid (∀ t ∈ l, t.2.2.1.length ≤ 17592186044416) := hat
  have g0 : ((n : Int) != (n : Int)) = false := by simp
  clear hl ha hb hat
  go_enter Tryd.func9, Tryd.ntmps9
  go_wp2
  go_loopw [5] (fun v wr => ∃ k : Nat, k ≤ n ∧ v = .int .i64 (k : Int) ∧ Below w.heap.size w wr) (fun v _ => n - (intOf v).toNat)
  case atStart => exact ⟨0, Nat.zero_le _, rfl, Below.refl _ _⟩
  case round =>
    obtain ⟨k, hk, rfl, hbel⟩ := hrel
    by_cases hlt : k < n
    · have hkl : k < l.length := by rw [Hl.out]; exact hlt
      have A2 := Ha.out.keep hbel
      have B2 := Hb.out.keep hbel
      rcases A2 with h | ⟨ba, rfl, hba, hca⟩
      · rw [h] at hkl
        exact absurd hkl (Nat.not_lt_zero _)
      rcases B2 with h | ⟨bb, rfl, hbb, hcb⟩
      · rw [h] at hkl
        exact absurd hkl (Nat.not_lt_zero _)
      obtain ⟨c0, c1, ⟨sv, c2, S1⟩, c3, c4⟩ := hca k hkl
      obtain ⟨d0, d1, ⟨sv2, d2, S2⟩, d3, d4⟩ := hcb k hkl
      have hlen := Hat.out _ (List.getElem_mem hkl)
      clear hca hcb
      generalize l[k]'hkl = t at *
      clear hkl
      have Htok : Hid (∀ W, SlAttrs W sv t.2.2.1 → SlAttrs W sv2 t.2.2.1 → Calls Tryd.prog 22 #[.agg #[.int .i64 t.1, .string t.2.1, sv, .string t.2.2.2.1, .bool t.2.2.2.2], .agg #[.int .i64 t.1, .string t.2.1, sv2, .string t.2.2.2.1, .bool t.2.2.2.2]] W fun e w' => e = .returned (.bool true) ∧ Below W.heap.size W w') := fun W h1 h2 => eqToken_same t sv sv2 W h1 h2 hlen
      obtain ⟨tk, nm, at', tx, sf⟩ := t
      have k0 : (0 : Int) ≤ (k : Int) := by omega
      have k1 : (k : Int) < (n : Int) := by omega
      have HB : Hid (∀ wx : World, Below wr.heap.size wr wx → Below w.heap.size w wx) := fun wx h => hbel.trans (h.mono hbel.size)
      simp only at c0 c1 c3 c4 d0 d1 d3 d4 S1 S2 Htok
      clear Ha Hb hlen
      go_upto_region 6 with fail
      go_cut [26] from 11 to 26 (fun r wx => r = .bool false ∧ Below wr.heap.size wr wx)
      case first =>
        go_region_held3 (fun w' => w'.cell? ⟨ba, k * 5, none⟩ = some (.int .i64 tk) ∧ w'.cell? ⟨ba, k * 5 + 1, none⟩ = some (.string nm) ∧ w'.cell? ⟨ba, k * 5 + 2, none⟩ = some sv ∧ w'.cell? ⟨ba, k * 5 + 3, none⟩ = some (.string tx) ∧ w'.cell? ⟨ba, k * 5 + 4, none⟩ = some (.bool sf) ∧ w'.cell? ⟨bb, k * 5, none⟩ = some (.int .i64 tk) ∧ w'.cell? ⟨bb, k * 5 + 1, none⟩ = some (.string nm) ∧ w'.cell? ⟨bb, k * 5 + 2, none⟩ = some sv2 ∧ w'.cell? ⟨bb, k * 5 + 3, none⟩ = some (.string tx) ∧ w'.cell? ⟨bb, k * 5 + 4, none⟩ = some (.bool sf) ∧ SlAttrs w' sv at' ∧ SlAttrs w' sv2 at') (first | exact ⟨c0, c1, c2, c3, c4, d0, d1, d2, d3, d4, S1, S2⟩ | go_keep | (go_split_ands; exact ⟨keep_cell hb' (by assumption), keep_cell hb' (by assumption), keep_cell hb' (by assumption), keep_cell hb' (by assumption), keep_cell hb' (by assumption), keep_cell hb' (by assumption), keep_cell hb' (by assumption), keep_cell hb' (by assumption), keep_cell hb' (by assumption), keep_cell hb' (by assumption), keep_sl hb' (by assumption), keep_sl hb' (by assumption)⟩)) (first | (go_at_call 22; refine (Htok.out _ (by assumption) (by assumption)).mono ?_; rintro e w' ⟨rfl, hb'⟩))
        go_wp2_with fail
        go_meet
        case rel => exact ⟨rfl, ((Below.refl _ _).drew).trans hb'⟩
      case rest =>
        obtain ⟨rfl, hbx⟩ := hcut
        have hbel2 := HB.out _ hbx
        go_wp2_with fail
        go_roundw
        case rel => exact ⟨k + 1, by omega, by go_num, hbel2⟩
        case measure => simp [intOf]; omega
    · have g1 : decide ((k : Int) < (n : Int)) = false := decide_eq_false (by omega)
      go_wp2
      go_ret
      exact ⟨rfl, hbel⟩

end Go.Proofs.YtmambbknljgjcaaDoor.Sg
