/- Contracts of the laws' slices of words: compared. -/
import Derived.Test.YtploagieecepfaaDoorTnMem
import Derived.Test.YtploagieecepfaaDoorLwText
import Derived.BigQuiet
import Derived.Deep.QuietTactic
import Derived.Deep.Cut
import Derived.Deep.CutRange
import Derived.Deep.RegionHeld3
namespace Go.Proofs.YtploagieecepfaaDoor.Sg
open Go.ChangeShapes Go.WideShapes Go.ChangeAt Go.RowKit

set_option maxHeartbeats 2000000 in
theorem eqToken_same (t : TokB) (sv1 sv2 : Value) (w : World) (h1 : SlAttrs w sv1 t.2.2.1) (h2 : SlAttrs w sv2 t.2.2.1) (hn : t.2.2.1.length ≤ 17592186044416) :
    Calls Tryd.prog 9 #[.agg (tokV (t, sv1)).toArray, .agg (tokV (t, sv2)).toArray] w fun e w' => e = .returned (.bool true) ∧ Below w.heap.size w w' := by
  obtain ⟨k, nm, at', tx, sf⟩ := t
  obtain ⟨a1, c1, rfl, A1⟩ := h1
  obtain ⟨a2, c2, rfl, A2⟩ := h2
  have g0 : (k != k) = false := by simp
  have g1 : (nm.toList == nm.toList) = true := by simp
  have g2 : (tx.toList == tx.toList) = true := by simp
  have g3 : (sf != sf) = false := by simp
  have HA1 : Hid (AttrsAt w a1 at') := A1
  have HA2 : Hid (AttrsAt w a2 at') := A2
  have hn' : at'.length ≤ 17592186044416 := hn
  clear A1 A2 hn
  simp only [tokV]
  go_enter Tryd.func9, Tryd.ntmps9
  go_wp2_with fail
  refine (eqAttrS_same at' a1 a2 at'.length c1 c2 _ (HA1.out.below ?b) (HA2.out.below ?b2) rfl hn').mono ?_
  case b => exact ((Below.refl _ _).alloc (Nat.le_refl _) _).alloc (by simp) _
  case b2 => exact ((Below.refl _ _).alloc (Nat.le_refl _) _).alloc (by simp) _
  rintro e w1 ⟨rfl, b1⟩
  have z1 : w.heap.size + 1 < w1.heap.size := by
    have := b1.size
    simp at this
    omega
  have d3 : w1.cell? ⟨w.heap.size, 3, none⟩ = some (.string tx) := (b1.cell (by simp; omega)).trans (by simp)
  have d4 : w1.cell? ⟨w.heap.size, 4, none⟩ = some (.bool sf) := (b1.cell (by simp; omega)).trans (by simp)
  have f3 : w1.cell? ⟨w.heap.size + 1, 3, none⟩ = some (.string tx) := (b1.cell (by simp)).trans (by simp)
  have f4 : w1.cell? ⟨w.heap.size + 1, 4, none⟩ = some (.bool sf) := (b1.cell (by simp)).trans (by simp)
  have bb : Below w.heap.size w w1 := (((Below.refl _ _).alloc (Nat.le_refl _) _).alloc (by simp) _).trans (b1.mono (by simp; omega))
  clear b1
  go_wp2_with fail
  go_ret
  exact ⟨rfl, bb⟩

theorem keep_sl {w w' : World} (hb : Below w.heap.size w w') {v : Value} {l : List AttrB} (h : SlAttrs w v l) : SlAttrs w' v l := h.keep hb

set_option maxHeartbeats 4000000 in
theorem eqTokenS_same (l : List TokB) (a b : Option Addr) (n ca cb : Nat) (w : World) (ha : ToksAt w a l) (hb : ToksAt w b l) (hl : l.length = n) (hn : n ≤ 17592186044416) (hat : ∀ t ∈ l, t.2.2.1.length ≤ 17592186044416) :
    Calls Tryd.prog 14 #[.slice a n ca, .slice b n cb] w fun e w' => e = .returned (.bool true) ∧ Below w.heap.size w w' := by
  have Hl : Hid (l.length = n) := hl
  have Ha : Hid (ToksAt w a l) := ha
  have Hb : Hid (ToksAt w b l) := hb
  have Hat : Hid (∀ t ∈ l, t.2.2.1.length ≤ 17592186044416) := hat
  have g0 : ((n : Int) != (n : Int)) = false := by simp
  clear hl ha hb hat
  go_enter Tryd.func14, Tryd.ntmps14
  go_wp2
  go_loopw [5] (fun v wr => ∃ k : Nat, k ≤ n ∧ v = .int .i64 (k : Int) ∧ Below w.heap.size w wr) (fun v _ => n - (intOf v).toNat)
  case atStart => exact ⟨0, Nat.zero_le _, rfl, Below.refl _ _⟩
  case round =>
    obtain ⟨k, hk, rfl, hbel⟩ := hrel
    by_cases hlt : k < n
    · have hkl : k < l.length := by rw [Hl.out]; exact hlt
      have A2 := Ha.out.keep hbel
      have B2 := Hb.out.keep hbel
      rcases A2 with h | ⟨ba, rfl, hba, hca⟩
      · rw [h] at hkl
        exact absurd hkl (Nat.not_lt_zero _)
      rcases B2 with h | ⟨bb, rfl, hbb, hcb⟩
      · rw [h] at hkl
        exact absurd hkl (Nat.not_lt_zero _)
      obtain ⟨c0, c1, ⟨sv, c2, S1⟩, c3, c4⟩ := hca k hkl
      obtain ⟨d0, d1, ⟨sv2, d2, S2⟩, d3, d4⟩ := hcb k hkl
      have hlen := Hat.out _ (List.getElem_mem hkl)
      clear hca hcb
      generalize l[k]'hkl = t at *
      clear hkl
      have Htok : Hid (∀ W, SlAttrs W sv t.2.2.1 → SlAttrs W sv2 t.2.2.1 → Calls Tryd.prog 9 #[.agg #[.int .i64 t.1, .string t.2.1, sv, .string t.2.2.2.1, .bool t.2.2.2.2], .agg #[.int .i64 t.1, .string t.2.1, sv2, .string t.2.2.2.1, .bool t.2.2.2.2]] W fun e w' => e = .returned (.bool true) ∧ Below W.heap.size W w') := fun W h1 h2 => eqToken_same t sv sv2 W h1 h2 hlen
      obtain ⟨tk, nm, at', tx, sf⟩ := t
      have k0 : (0 : Int) ≤ (k : Int) := by omega
      have k1 : (k : Int) < (n : Int) := by omega
      have HB : Hid (∀ wx : World, Below wr.heap.size wr wx → Below w.heap.size w wx) := fun wx h => hbel.trans (h.mono hbel.size)
      simp only at c0 c1 c3 c4 d0 d1 d3 d4 S1 S2 Htok
      clear Ha Hb hlen
      go_upto_region 6 with fail
      go_cut [26] from 11 to 26 (fun r wx => r = .bool false ∧ Below wr.heap.size wr wx)
      case first =>
        go_region_held3 (fun w' => w'.cell? ⟨ba, k * 5, none⟩ = some (.int .i64 tk) ∧ w'.cell? ⟨ba, k * 5 + 1, none⟩ = some (.string nm) ∧ w'.cell? ⟨ba, k * 5 + 2, none⟩ = some sv ∧ w'.cell? ⟨ba, k * 5 + 3, none⟩ = some (.string tx) ∧ w'.cell? ⟨ba, k * 5 + 4, none⟩ = some (.bool sf) ∧ w'.cell? ⟨bb, k * 5, none⟩ = some (.int .i64 tk) ∧ w'.cell? ⟨bb, k * 5 + 1, none⟩ = some (.string nm) ∧ w'.cell? ⟨bb, k * 5 + 2, none⟩ = some sv2 ∧ w'.cell? ⟨bb, k * 5 + 3, none⟩ = some (.string tx) ∧ w'.cell? ⟨bb, k * 5 + 4, none⟩ = some (.bool sf) ∧ SlAttrs w' sv at' ∧ SlAttrs w' sv2 at') (first | exact ⟨c0, c1, c2, c3, c4, d0, d1, d2, d3, d4, S1, S2⟩ | go_keep | (go_split_ands; exact ⟨keep_cell hb' (by assumption), keep_cell hb' (by assumption), keep_cell hb' (by assumption), keep_cell hb' (by assumption), keep_cell hb' (by assumption), keep_cell hb' (by assumption), keep_cell hb' (by assumption), keep_cell hb' (by assumption), keep_cell hb' (by assumption), keep_cell hb' (by assumption), keep_sl hb' (by assumption), keep_sl hb' (by assumption)⟩)) (first | (go_at_call 9; refine (Htok.out _ (by assumption) (by assumption)).mono ?_; rintro e w' ⟨rfl, hb'⟩))
        go_wp2_with fail
        go_meet
        case rel => exact ⟨rfl, ((Below.refl _ _).drew).trans hb'⟩
      case rest =>
        obtain ⟨rfl, hbx⟩ := hcut
        have hbel2 := HB.out _ hbx
        go_wp2_with fail
        go_roundw
        case rel => exact ⟨k + 1, by omega, by go_num, hbel2⟩
        case measure => simp [intOf]; omega
    · have g1 : decide ((k : Int) < (n : Int)) = false := decide_eq_false (by omega)
      go_wp2
      go_ret
      exact ⟨rfl, hbel⟩

end Go.Proofs.YtploagieecepfaaDoor.Sg
