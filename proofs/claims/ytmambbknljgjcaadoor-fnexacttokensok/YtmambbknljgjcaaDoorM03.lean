/- The laws' words, weighed. The laws' attributes, laid anew. The laws' words, laid anew. The laws' slices of words, laid anew. Words and attributes that came in. -/
import Derived.Test.YtmambbknljgjcaaDoorLwTo
import Derived.Deep.SlicePairs
import Derived.OpenShut
namespace Go.Proofs.YtmambbknljgjcaaDoor.Sg
open Go.ChangeShapes Go.WideShapes Go.ChangeAt Go.RowKit

/-- Texts of a word that a machine can hold. -/
def TokHeld (t : TokB) : Prop := t.2.1.size ≤ 9223372036854775807 ∧ AttrsHeld t.2.2.1 ∧ t.2.2.2.1.size ≤ 9223372036854775807

set_option maxHeartbeats 2000000 in
theorem szToken_any (t : TokB) (sv : Value) (left : Int) (w : World) (hs : SlAttrsIn w sv t.2.2.1) (hh : TokHeld t) (hl1 : 0 ≤ left) (hl2 : left ≤ 1048576) :
    Calls Tryd.prog 12 #[.agg (tokV (t, sv)).toArray, .int .i64 left] w fun e w' => e = .returned (.int .i64 (leftZ left (tokW t))) ∧ Below w.heap.size w w' := by
  obtain ⟨kd, nm, at', tx, sf⟩ := t
  obtain ⟨a, cap, rfl, hA⟩ := hs
  obtain ⟨h1, h2, h3⟩ := hh
  simp only at h1 h2 h3 hA
  have HA : Hid (∀ W, Below w.heap.size w W → ∀ cur : Int, 0 ≤ cur → cur ≤ 1048576 → Calls Tryd.prog 27 #[.slice a at'.length cap, .int .i64 cur] W fun e w' => e = .returned (.int .i64 (leftZ cur (attrsW at'))) ∧ Below W.heap.size W w') := fun W hW cur c0 c1 => szAttrS_any at' a at'.length cap cur W (hA.keep hW) rfl h2 c0 c1
  have Hn : Hid (leftZ left (tokW (kd, nm, at', tx, sf)) = leftZ left (nm.size + (attrsW at' + tx.size))) := by
    show _ = _
    unfold tokW
    simp only
    rw [Nat.add_assoc]
  clear hA h2
  simp only [tokV]
  have q1 : IntKind.i64.wrap (left - (nm.size : Int)) = left - (nm.size : Int) := IntWalk.i64_in _ (by omega)
  by_cases g1 : left - (nm.size : Int) < 0
  · have Hn2 : Hid (leftZ left (tokW (kd, nm, at', tx, sf)) = -1) := by
      show _ = _
      rw [Hn.out]
      exact leftZ_no (by unfold leftZ; rw [if_neg (by omega)]; omega) hl1
    clear Hn HA
    go_enter Tryd.func12, Tryd.ntmps12
    go_wp2
    go_ret
    exact ⟨ret_left Hn2.out.symm, (Below.refl _ _).alloc (Nat.le_refl _) _⟩
  have g1' : decide (left - (nm.size : Int) < 0) = false := decide_eq_false g1
  have Hn2 : Hid (leftZ left (tokW (kd, nm, at', tx, sf)) = leftZ (left - (nm.size : Int)) (attrsW at' + tx.size)) := by
    show _ = _
    have e : leftZ left nm.size = left - (nm.size : Int) := by unfold leftZ; rw [if_pos (by omega)]
    rw [Hn.out, (leftZ_yes (by rw [e]; exact g1) hl1).1, e]
  clear Hn
  obtain ⟨c, hc⟩ : ∃ c : Int, left - (nm.size : Int) = c := ⟨_, rfl⟩
  have hc0 : 0 ≤ c := by omega
  have hc1 : c ≤ 1048576 := by omega
  rw [hc] at Hn2
  have Hc : Hid (left - (nm.size : Int) = c) := hc
  obtain ⟨z, hz⟩ : ∃ z, leftZ c (attrsW at') = z := ⟨_, rfl⟩
  have HAc : Hid (∀ W, Below w.heap.size w W → Calls Tryd.prog 27 #[.slice a at'.length cap, .int .i64 (left - (nm.size : Int))] W fun e w' => e = .returned (.int .i64 z) ∧ Below W.heap.size W w') := fun W hW => by
    have h := HA.out W hW c hc0 hc1
    rw [hz] at h
    rw [hc]
    exact h
  clear HA hc
  go_enter Tryd.func12, Tryd.ntmps12
  go_wp2_with fail
  refine (HAc.out _ ((Below.refl _ _).alloc (Nat.le_refl _) _)).mono ?_
  rintro e w1 ⟨rfl, b1⟩
  have d3 : w1.cell? ⟨w.heap.size, 3, none⟩ = some (.string tx) := (b1.cell (by simp)).trans (by simp)
  have b2 : Below w.heap.size w w1 := ((Below.refl _ _).alloc (Nat.le_refl _) _).trans (b1.mono (by simp))
  clear b1 HAc
  by_cases gz : z < 0
  · have Hf : Hid (leftZ left (tokW (kd, nm, at', tx, sf)) = -1) := Hn2.out.trans (leftZ_no (by rw [hz]; exact gz) hc0)
    clear Hn2 hz
    go_wp2_with fail
    go_ret
    exact ⟨ret_left Hf.out.symm, b2⟩
  · have hy := leftZ_yes (b := tx.size) (by rw [hz]; exact gz) hc0
    rw [hz] at hy
    have hzc := hy.2
    have gz' : decide (z < 0) = false := decide_eq_false gz
    have Hf : Hid (leftZ left (tokW (kd, nm, at', tx, sf)) = if (tx.size : Int) ≤ z then z - (tx.size : Int) else -1) := Hn2.out.trans hy.1
    have q3 : IntKind.i64.wrap (z - (tx.size : Int)) = z - (tx.size : Int) := IntWalk.i64_in _ (by omega)
    clear Hn2 hz hy
    by_cases g4 : z - (tx.size : Int) < 0
    · have Hf2 : Hid (leftZ left (tokW (kd, nm, at', tx, sf)) = -1) := by
        show _ = _
        rw [Hf.out, if_neg (by omega)]
      clear Hf
      go_wp2_with fail
      go_ret
      exact ⟨ret_left Hf2.out.symm, b2⟩
    · have Hf2 : Hid (leftZ left (tokW (kd, nm, at', tx, sf)) = z - (tx.size : Int)) := by
        show _ = _
        rw [Hf.out, if_pos (by omega)]
      have g4' : decide (z - (tx.size : Int) < 0) = false := decide_eq_false g4
      clear Hf
      go_wp2_with fail
      go_ret
      exact ⟨ret_left Hf2.out.symm, b2⟩

/-- Words that a machine can hold. -/
def ToksHeld (l : List TokB) : Prop := l.length ≤ 9223372036854775807 ∧ ∀ t ∈ l, TokHeld t

set_option maxHeartbeats 2000000 in
theorem szTokenS_any (l : List TokB) (a : Option Addr) (n cap : Nat) (left : Int) (w : World) (ha : ToksIn w a l) (hl : l.length = n) (hh : ToksHeld l) (hl1 : 0 ≤ left) (hl2 : left ≤ 1048576) :
    Calls Tryd.prog 5 #[.slice a n cap, .int .i64 left] w fun e w' => e = .returned (.int .i64 (leftZ left (toksW l))) ∧ Below w.heap.size w w' := by
  have Ha : Hid (ToksIn w a l) := ha
  have Hl : Hid (l.length = n) := hl
  have Hh : Hid (ToksHeld l) := hh
  have hn : n ≤ 9223372036854775807 := by rw [← hl]; exact hh.1
  have Hn : Hid (leftZ left (toksW l) = leftZ left (n + (l.map tokW).sum)) := by
    show _ = _
    unfold toksW
    rw [hl]
  have q1 : IntKind.i64.wrap (left - (n : Int)) = left - (n : Int) := IntWalk.i64_in _ (by omega)
  clear ha hl hh
  by_cases g1 : left - (n : Int) < 0
  · have Hn2 : Hid (leftZ left (toksW l) = -1) := by
      show _ = _
      rw [Hn.out]
      exact leftZ_no (by unfold leftZ; rw [if_neg (by omega)]; omega) hl1
    clear Hn
    go_enter Tryd.func5, Tryd.ntmps5
    go_wp2
    go_ret
    exact ⟨ret_left Hn2.out.symm, Below.refl _ _⟩
  have g1' : decide (left - (n : Int) < 0) = false := decide_eq_false g1
  have Hn2 : Hid (leftZ left (toksW l) = leftZ (left - (n : Int)) ((l.drop 0).map tokW).sum) := by
    show _ = _
    have e : leftZ left n = left - (n : Int) := by unfold leftZ; rw [if_pos (by omega)]
    rw [Hn.out, (leftZ_yes (by rw [e]; exact g1) hl1).1, e]
    rfl
  clear Hn
  go_enter Tryd.func5, Tryd.ntmps5
  go_wp2
  go_loopw [1, 5] (fun lv iv wr => ∃ (k : Nat) (cur : Int), k ≤ n ∧ iv = .int .i64 (k : Int) ∧ lv = .int .i64 cur ∧ 0 ≤ cur ∧ cur ≤ 1048576 ∧ Hid (leftZ left (toksW l) = leftZ cur ((l.drop k).map tokW).sum) ∧ Below w.heap.size w wr) (fun _ iv _ => n - (intOf iv).toNat)
  case atStart => exact ⟨0, left - (n : Int), Nat.zero_le _, rfl, rfl, by omega, by omega, Hn2, Below.refl _ _⟩
  case round =>
    obtain ⟨k, cur, hk, rfl, rfl, hc0, hc1, Hsp, hbel⟩ := hrel
    by_cases hlt : k < n
    · have hkl : k < l.length := by rw [Hl.out]; exact hlt
      rcases Ha.out.keep hbel with h | ⟨b, off, rfl, hb, hc⟩
      · rw [h] at hkl
        exact absurd hkl (Nat.not_lt_zero _)
      obtain ⟨c0, c1, ⟨sv, c2, hS⟩, c3, c4⟩ := hc k hkl
      have hsum := sum_drop tokW l k hkl
      have hp := Hh.out.2 _ (List.getElem_mem hkl)
      clear hc
      generalize l[k]'hkl = p at *
      clear hkl
      have Hs := szToken_any p sv cur wr hS hp hc0 hc1
      rw [hsum] at Hsp
      clear hsum hp hS
      obtain ⟨z, hz⟩ : ∃ z, leftZ cur (tokW p) = z := ⟨_, rfl⟩
      rw [hz] at Hs
      have k0 : (0 : Int) ≤ (k : Int) := by omega
      have k1 : (k : Int) < (n : Int) := by omega
      by_cases gz : z < 0
      · have Hf : Hid (leftZ left (toksW l) = -1) := Hsp.out.trans (leftZ_no (by rw [hz]; exact gz) hc0)
        clear Hsp hz
        obtain ⟨kd, nm, at', tx, sf⟩ := p
        simp only [tokV] at Hs
        go_wp2_with fail
        refine Hs.mono ?_
        rintro e w1 ⟨rfl, b1⟩
        have b2 := hbel.trans (b1.mono hbel.size)
        clear b1
        go_wp2_with fail
        go_ret
        exact ⟨ret_left Hf.out.symm, b2⟩
      · have hy := leftZ_yes (b := ((l.drop (k + 1)).map tokW).sum) (by rw [hz]; exact gz) hc0
        rw [hz] at hy
        have Hf : Hid (leftZ left (toksW l) = leftZ z ((l.drop (k + 1)).map tokW).sum) := Hsp.out.trans hy.1
        have hzc := hy.2
        have gz' : decide (z < 0) = false := decide_eq_false gz
        clear Hsp hz hy
        obtain ⟨kd, nm, at', tx, sf⟩ := p
        simp only [tokV] at Hs
        go_wp2_with fail
        refine Hs.mono ?_
        rintro e w1 ⟨rfl, b1⟩
        have b2 := hbel.trans (b1.mono hbel.size)
        clear b1
        go_wp2_with fail
        go_roundw
        case rel => exact ⟨k + 1, z, by omega, by go_num, rfl, by omega, by omega, Hf, b2⟩
        case measure => simp [intOf]; omega
    · have Hf : Hid (leftZ left (toksW l) = cur) := by
        show _ = _
        rw [Hsp.out, List.drop_eq_nil_of_le (by have := Hl.out; omega)]
        exact leftZ_zero hc0
      have g2 : decide ((k : Int) < (n : Int)) = false := decide_eq_false (by omega)
      clear Hsp
      go_wp2
      go_ret
      exact ⟨ret_left Hf.out.symm, hbel⟩

end Go.Proofs.YtmambbknljgjcaaDoor.Sg

namespace Go.Proofs.YtmambbknljgjcaaDoor.Sg
open Go.ChangeShapes Go.WideShapes Go.ChangeAt Go.RowKit

theorem own_of_list {w : World} {B g n z : Nat} {e : TypeId} {f : Nat → Value} {xs : List Value} (hB : B ≤ g) (hm : n ≤ maxLen) (h : w.rowIs g e (n * z) f) (hl : xs.length = n * z) (hf : ∀ j, j < n * z → xs[j]? = some (f j)) :
    w.ownsRow B e z (.slice (some ⟨g, 0, none⟩) n n) n xs := by
  obtain ⟨c, hb, hc, hv⟩ := h
  refine ⟨hl, .inr ⟨g, n, c, rfl, hB, hb, Nat.le_refl _, hm, hc, ?_⟩⟩
  apply List.ext_getElem?
  intro j
  by_cases hj : j < n * z
  · rw [List.getElem?_take_of_lt hj, Array.getElem?_toList, hv j hj, hf j hj]
  · rw [List.getElem?_eq_none (by simp; omega), List.getElem?_eq_none (by omega)]

theorem info_attr' : (Tryd.prog.info? 59).map (fun i => (i.zero, i.size, i.bytes)) = some (some (.agg #[.string ⟨#[]⟩, .string ⟨#[]⟩]), 2, 32) := by kernel_rfl

theorem make_attrs (n : Nat) (hn : n ≤ 1099511627776) (w : World) :
    (Instr.makeSlice 34 (.int .i64 (n : Int)) (.int .i64 (n : Int))).run Tryd.prog w = .ok (.slice (some ⟨w.heap.size, 0, none⟩) n n) (w.alloc (.cells (madeCells #[.string ⟨#[]⟩, .string ⟨#[]⟩] (n * 2)) 59)) := by
  obtain ⟨i, hi, hz, hs, hb⟩ := info_parts info_attr'
  have hr := run_make (P := Tryd.prog) w 34 59 i _ Tryd.underlying34 hi hz .i64 .i64 n n (by omega) (Int.le_refl _) (by rw [hb]; omega) (by omega)
  simp only [Int.toNat_natCast, hs] at hr
  exact hr

theorem made_two (w : World) (z : Value) (m : Nat) (t : TypeId) : (w.alloc (.cells (madeCells #[z, z] m) t)).rowIs w.heap.size t m (fun _ => z) := by
  have h := World.rowIs_alloc w (madeCells #[z, z] m) t (fun _ => z) (fun i hi => by
    rw [size_madeCells] at hi
    have h2 : i % 2 = 0 ∨ i % 2 = 1 := by omega
    rcases h2 with h2 | h2 <;> simp [madeCells, hi, h2])
  rw [size_madeCells] at h
  exact h

set_option maxHeartbeats 1000000 in
theorem toAttr_any (x y : ByteArray) (w : World) :
    Calls Tryd.prog 53 #[.agg #[.string x, .string y]] w fun e w' => e = .returned (.agg #[.string x, .string y]) ∧ Below w.heap.size w w' := by
  go_enter Tryd.func53, Tryd.ntmps53
  go_wp2
  refine bodyPost_ret (v := .agg #[.string x, .string y]) ?_ rfl ⟨rfl, (((Below.refl _ _).alloc (Nat.le_refl _) _).alloc (by simp) _).alloc (by simp; omega) _⟩
  simp [results, Tryd.results53, go_sem]

theorem attrs_get {l : List AttrB} {k : Nat} (h : k < l.length) : (attrCells l)[k * 2]? = some (.string (l[k]'h).1) ∧ (attrCells l)[k * 2 + 1]? = some (.string (l[k]'h).2) := by
  have e : l.getD k (ByteArray.empty, ByteArray.empty) = l[k]'h := by simp [List.getD, h]
  rw [← e]
  exact attrCells_at l k h

set_option maxHeartbeats 2000000 in
theorem toAttrS_any (l : List AttrB) (a : Option Addr) (n cap : Nat) (w : World) (ha : AttrsIn w a l) (hl : l.length = n) (hn : n ≤ 1099511627776) :
    Calls Tryd.prog 29 #[.slice a n cap] w fun e w' => e = .returned (.slice (some ⟨w.heap.size, 0, none⟩) n n) ∧ w'.ownsRow w.heap.size 59 2 (.slice (some ⟨w.heap.size, 0, none⟩) n n) l.length (attrCells l) ∧ Below w.heap.size w w' := by
  have Ha : Hid (AttrsIn w a l) := ha
  have Hl : Hid (l.length = n) := hl
  have hmk := make_attrs n hn
  have hmade : Hid ((w.alloc (.cells (madeCells #[.string ⟨#[]⟩, .string ⟨#[]⟩] (n * 2)) 59)).rowIs w.heap.size 59 (n * 2) (fun j => if j < 2 * 0 then ((attrCells l)[j]?).getD (.string ⟨#[]⟩) else .string ⟨#[]⟩)) := by
    show World.rowIs _ _ _ _ _
    simpa using made_two w (.string ⟨#[]⟩) (n * 2) 59
  have hbel0 : Below w.heap.size w (w.alloc (.cells (madeCells #[.string ⟨#[]⟩, .string ⟨#[]⟩] (n * 2)) 59)) := (Below.refl _ _).alloc (Nat.le_refl _) _
  clear ha hl
  go_enter Tryd.func29, Tryd.ntmps29
  go_wp2
  go_loopw [4] (fun i wr => ∃ k : Nat, k ≤ n ∧ i = .int .i64 k ∧ Hid (wr.rowIs w.heap.size 59 (n * 2) (fun j => if j < 2 * k then ((attrCells l)[j]?).getD (.string ⟨#[]⟩) else .string ⟨#[]⟩)) ∧ Below w.heap.size w wr) (fun i _ => n - (intOf i).toNat)
  case atStart => exact ⟨0, Nat.zero_le _, rfl, hmade, hbel0⟩
  case round =>
    obtain ⟨k, hk, rfl, Hrow, hbel⟩ := hrel
    clear hmade hbel0 hmk
    by_cases hlt : k < n
    · have hkl : k < l.length := by rw [Hl.out]; exact hlt
      rcases Ha.out with h | ⟨b, off, rfl, hb, hc⟩
      · rw [h] at hkl
        exact absurd hkl (Nat.not_lt_zero _)
      obtain ⟨c1, c2⟩ := hc k hkl
      obtain ⟨e1, e2⟩ := attrs_get hkl
      clear hc
      generalize l[k]'hkl = p at *
      clear hkl
      obtain ⟨x, y⟩ := p
      simp only at c1 c2 e1 e2
      have c1' := (hbel.cell (p := ⟨b, off + k * 2, none⟩) hb).trans c1
      have c2' := (hbel.cell (p := ⟨b, off + k * 2 + 1, none⟩) hb).trans c2
      have E1 : Hid ((attrCells l)[k * 2]? = some (.string x)) := e1
      have E2 : Hid ((attrCells l)[k * 2 + 1]? = some (.string y)) := e2
      clear c1 c2 e1 e2
      have k0 : (0 : Int) ≤ (k : Int) := by omega
      have k1 : (k : Int) < (n : Int) := by omega
      have hsz := hbel.size
      go_wp2_with fail
      refine (toAttr_any x y _).mono ?_
      rintro e w1 ⟨rfl, b1⟩
      have hr1 := rowIs_below Hrow.out b1
      have d1 := hr1.cell (i := k * 2) (by omega)
      have d2 := hr1.cell (i := k * 2 + 1) (by omega)
      have f1 := hr1.frozen (k * 2)
      have f2 := hr1.frozen (k * 2 + 1)
      rw [if_neg (by omega)] at d1 d2
      have hr3 := (hr1.set (k * 2) (.string x)).set (k * 2 + 1) (.string y)
      have Hr3 : Hid (World.rowIs _ w.heap.size 59 (n * 2) _) := hr3
      have b3 : Below w.heap.size w ((w1.setCell ⟨w.heap.size, k * 2, none⟩ (.string x)).setCell ⟨w.heap.size, k * 2 + 1, none⟩ (.string y)) := ((hbel.trans (b1.mono hsz)).setCell (Nat.le_refl _) _).setCell (Nat.le_refl _) _
      clear hr1 hr3 b1
      go_wp2_with fail
      go_roundw
      case rel =>
        refine ⟨k + 1, by omega, by go_num, ?_, b3⟩
        refine Hr3.out.congr fun j hj => ?_
        by_cases q1 : j = k * 2 + 1
        · subst q1
          rw [if_pos rfl, if_pos (by omega), E2.out]
          rfl
        · by_cases q0 : j = k * 2
          · subst q0
            rw [if_neg (by omega), if_pos rfl, if_pos (by omega), E1.out]
            rfl
          · by_cases q2 : j < 2 * k
            · rw [if_neg q1, if_neg q0, if_pos q2, if_pos (by omega)]
            · rw [if_neg q1, if_neg q0, if_neg q2, if_neg (by omega)]
      case measure => simp [intOf]; omega
    · have hkn : k = n := by omega
      subst hkn
      have g2 : decide ((k : Int) < (k : Int)) = false := by simp
      go_wp2
      go_ret
      refine ⟨rfl, ?_, hbel⟩
      rw [Hl.out]
      refine own_of_list (Nat.le_refl _) (by unfold maxLen; omega) Hrow.out (by rw [attrCells_length, Hl.out]) (fun j hj => ?_)
      rw [if_pos (by omega)]
      have hj2 : j < (attrCells l).length := by rw [attrCells_length, Hl.out]; exact hj
      simp [hj2]

end Go.Proofs.YtmambbknljgjcaaDoor.Sg

namespace Go.Proofs.YtmambbknljgjcaaDoor.Sg
open Go.ChangeShapes Go.WideShapes Go.ChangeAt Go.RowKit

/-- A block has five cells that may be written. -/
def Five (w : World) (b : Nat) (f : Nat → Value) : Prop := b < w.heap.size ∧ ∀ i, i < 5 → w.cell? ⟨b, i, none⟩ = some (f i) ∧ w.frozen? ⟨b, i, none⟩ = false
theorem Five.set {w : World} {b i : Nat} {f : Nat → Value} (h : Five w b f) (hi : i < 5) (v : Value) : Five (w.setCell ⟨b, i, none⟩ v) b (fun j => if j = i then v else f j) := by
  refine ⟨by simpa using h.1, fun j hj => ⟨?_, by simpa using (h.2 j hj).2⟩⟩
  show _ = some (if j = i then v else f j)
  by_cases e : j = i
  · subst e
    rw [if_pos rfl]
    exact World.cell?_setCell_same _ _ _ (h.2 j hj).1
  · rw [if_neg e]
    exact (World.cell?_setCell_other _ _ _ _ (by intro e2; apply e; exact (congrArg Addr.off e2).symm)).trans (h.2 j hj).1
theorem Five.other {w : World} {b c i : Nat} {f : Nat → Value} (h : Five w b f) (hc : c ≠ b) (v : Value) : Five (w.setCell ⟨c, i, none⟩ v) b f :=
  ⟨by simpa using h.1, fun j hj => ⟨(World.cell?_setCell_other _ _ _ _ (fun e => hc (congrArg Addr.block e))).trans (h.2 j hj).1, by simpa using (h.2 j hj).2⟩⟩
theorem Five.below {w w' : World} {b B : Nat} {f : Nat → Value} (h : Five w b f) (hB : b < B) (hb : Below B w w') : Five w' b f :=
  ⟨Nat.lt_of_lt_of_le h.1 hb.size, fun j hj => ⟨(hb.cell hB).trans (h.2 j hj).1, (hb.frozen hB).trans (h.2 j hj).2⟩⟩
theorem Five.alloc {w : World} {b : Nat} {f : Nat → Value} (h : Five w b f) (o : Obj) : Five (w.alloc o) b f := h.below h.1 ((Below.refl _ _).alloc (Nat.le_refl _) _)
theorem Five.new (w : World) (x0 x1 x2 x3 x4 : Value) (t : TypeId) : Five (w.alloc (.cells #[x0, x1, x2, x3, x4] t)) w.heap.size (fun i => [x0, x1, x2, x3, x4].getD i x0) := by
  refine ⟨by simp, fun j hj => ⟨?_, by simp⟩⟩
  rw [World.cell?_alloc_new]
  match j, hj with
  | 0, _ => rfl
  | 1, _ => rfl
  | 2, _ => rfl
  | 3, _ => rfl
  | 4, _ => rfl

set_option maxHeartbeats 2000000 in
theorem toToken_any (t : TokB) (sv : Value) (w : World) (hs : SlAttrsIn w sv t.2.2.1) (hn : t.2.2.1.length ≤ 1099511627776) :
    Calls Tryd.prog 16 #[.agg (tokV (t, sv)).toArray] w fun e w' => ∃ sv', e = .returned (.agg (tokV (t, sv')).toArray) ∧ w'.ownsRow w.heap.size 59 2 sv' t.2.2.1.length (attrCells t.2.2.1) ∧ Below w.heap.size w w' := by
  obtain ⟨kd, nm, at', tx, sf⟩ := t
  obtain ⟨a, cap, rfl, hA⟩ := hs
  simp only at hn hA
  have HA : Hid (∀ W, Below w.heap.size w W → Calls Tryd.prog 29 #[.slice a at'.length cap] W fun e w' => e = .returned (.slice (some ⟨W.heap.size, 0, none⟩) at'.length at'.length) ∧ w'.ownsRow W.heap.size 59 2 (.slice (some ⟨W.heap.size, 0, none⟩) at'.length at'.length) at'.length (attrCells at') ∧ Below W.heap.size W w') := fun W hW => toAttrS_any at' a at'.length cap W (hA.keep hW) rfl hn
  clear hA
  simp only [tokV]
  go_enter Tryd.func16, Tryd.ntmps16
  go_wp2_with fail
  refine (HA.out _ ?_).mono ?_
  · exact (((Below.refl _ _).alloc (Nat.le_refl _) _).alloc (by simp) _).alloc (by simp; omega) _
  rintro e w1 ⟨rfl, o1, b1⟩
  have F0 := (((Five.new w (.int .i64 kd) (.string nm) (.slice a at'.length cap) (.string tx) (.bool sf) 33).alloc (.cells #[.int .i64 0, .string ⟨#[]⟩, .slice none 0 0, .string ⟨#[]⟩, .bool false] 36)).alloc (.cells #[.int .i64 kd, .string nm, .slice none 0 0, .string ⟨#[]⟩, .bool false] 36)).below (by simp; omega) b1
  have F1 := ((Five.new (w.alloc (.cells #[.int .i64 kd, .string nm, .slice a at'.length cap, .string tx, .bool sf] 33)) (.int .i64 0) (.string ⟨#[]⟩) (.slice none 0 0) (.string ⟨#[]⟩) (.bool false) 36).alloc (.cells #[.int .i64 kd, .string nm, .slice none 0 0, .string ⟨#[]⟩, .bool false] 36)).below (by simp) b1
  have F2 := (Five.new ((w.alloc (.cells #[.int .i64 kd, .string nm, .slice a at'.length cap, .string tx, .bool sf] 33)).alloc (.cells #[.int .i64 0, .string ⟨#[]⟩, .slice none 0 0, .string ⟨#[]⟩, .bool false] 36)) (.int .i64 kd) (.string nm) (.slice none 0 0) (.string ⟨#[]⟩) (.bool false) 36).below (by simp) b1
  have bW : Below w.heap.size w w1 := ((((Below.refl _ _).alloc (Nat.le_refl _) _).alloc (by simp) _).alloc (by simp; omega) _).trans (b1.mono (by simp; omega))
  have o2 := own_mono (B := w.heap.size) o1 (by simp; omega)
  have e1 : (w.alloc (.cells #[.int .i64 kd, .string nm, .slice a at'.length cap, .string tx, .bool sf] 33)).heap.size = w.heap.size + 1 := by simp
  have e2 : ((w.alloc (.cells #[.int .i64 kd, .string nm, .slice a at'.length cap, .string tx, .bool sf] 33)).alloc (.cells #[.int .i64 0, .string ⟨#[]⟩, .slice none 0 0, .string ⟨#[]⟩, .bool false] 36)).heap.size = w.heap.size + 1 + 1 := by simp
  have e3 : (((w.alloc (.cells #[.int .i64 kd, .string nm, .slice a at'.length cap, .string tx, .bool sf] 33)).alloc (.cells #[.int .i64 0, .string ⟨#[]⟩, .slice none 0 0, .string ⟨#[]⟩, .bool false] 36)).alloc (.cells #[.int .i64 kd, .string nm, .slice none 0 0, .string ⟨#[]⟩, .bool false] 36)).heap.size = w.heap.size + 1 + 1 + 1 := by simp
  rw [e1] at F1
  rw [e2] at F2
  rw [e3] at o1 o2 ⊢
  clear b1 e1 e2 e3 HA
  have HE1 : Hid (w.heap.size < w.heap.size + 1) := Nat.lt_succ_self _
  have HE2 : Hid (w.heap.size + 1 < w.heap.size + 1 + 1) := Nat.lt_succ_self _
  have HE3 : Hid (w.heap.size + 1 + 1 < w.heap.size + 1 + 1 + 1) := Nat.lt_succ_self _
  generalize w.heap.size + 1 + 1 + 1 = c3 at *
  generalize w.heap.size + 1 + 1 = c2 at *
  generalize w.heap.size + 1 = c1 at *
  have x3 := (F0.2 3 (by omega)).1
  have x4 := (F0.2 4 (by omega)).1
  have y0 := (F2.2 0 (by omega)).1
  have y1 := (F2.2 1 (by omega)).1
  have y2 := (F2.2 2 (by omega)).1
  have y3 := (F2.2 3 (by omega)).1
  have y4 := (F2.2 4 (by omega)).1
  have z2 := (F2.2 2 (by omega)).2
  have z3 := (F2.2 3 (by omega)).2
  have z4 := (F2.2 4 (by omega)).2
  have r0 := (F1.2 0 (by omega)).1
  have r1 := (F1.2 1 (by omega)).1
  have r2 := (F1.2 2 (by omega)).1
  have r3 := (F1.2 3 (by omega)).1
  have r4 := (F1.2 4 (by omega)).1
  have s0 := (F1.2 0 (by omega)).2
  have s1 := (F1.2 1 (by omega)).2
  have s2 := (F1.2 2 (by omega)).2
  have s3 := (F1.2 3 (by omega)).2
  have s4 := (F1.2 4 (by omega)).2
  simp only [List.getD_cons_zero, List.getD_cons_succ] at x3 x4 y0 y1 y2 y3 y4 r0 r1 r2 r3 r4
  have n12 : c1 ≠ c2 := Nat.ne_of_lt HE2.out
  have n21 : c2 ≠ c1 := Nat.ne_of_gt HE2.out
  have n02 : w.heap.size ≠ c2 := by have := HE1.out; have := HE2.out; omega
  have n20 : c2 ≠ w.heap.size := Ne.symm n02
  have HF1 : Hid (Five w1 c1 _) := F1
  clear F0 F1 F2
  have n32 : c3 ≠ c2 := Nat.ne_of_gt HE3.out
  have n31 : c3 ≠ c1 := by have := HE2.out; have := HE3.out; omega
  have FF := (((((((HF1.out.other n21 (.slice (some ⟨c3, 0, none⟩) at'.length at'.length) (i := 2)).other n21 (.string tx) (i := 3)).other n21 (.bool sf) (i := 4)).set (i := 0) (by omega) (.int .i64 kd)).set (i := 1) (by omega) (.string nm)).set (i := 2) (by omega) (.slice (some ⟨c3, 0, none⟩) at'.length at'.length)).set (i := 3) (by omega) (.string tx)).set (i := 4) (by omega) (.bool sf)
  have HFF : Hid (Five _ c1 _) := FF
  have o3 := owns_grown o2 (grown_trans (grown_trans (grown_set w1 c2 2 (.slice (some ⟨c3, 0, none⟩) at'.length at'.length)) (grown_set _ c2 3 (.string tx))) (grown_set _ c2 4 (.bool sf))) (fun b hb h => by cases hb; exact n32 (Option.some.inj h).symm)
  have o4 := owns_grown o3 (grown_trans (grown_trans (grown_trans (grown_trans (grown_set _ c1 0 (.int .i64 kd)) (grown_set _ c1 1 (.string nm))) (grown_set _ c1 2 (.slice (some ⟨c3, 0, none⟩) at'.length at'.length))) (grown_set _ c1 3 (.string tx))) (grown_set _ c1 4 (.bool sf))) (fun b hb h => by cases hb; exact n31 (Option.some.inj h).symm)
  have HO4 : Hid (World.ownsRow _ w.heap.size 59 2 (.slice (some ⟨c3, 0, none⟩) at'.length at'.length) at'.length (attrCells at')) := o4
  have l1 : w.heap.size ≤ c1 := Nat.le_of_lt HE1.out
  have l2 : w.heap.size ≤ c2 := by have := HE1.out; have := HE2.out; omega
  have HB4 := (((((((bW.setCell (p := ⟨c2, 2, none⟩) l2 (.slice (some ⟨c3, 0, none⟩) at'.length at'.length)).setCell (p := ⟨c2, 3, none⟩) l2 (.string tx)).setCell (p := ⟨c2, 4, none⟩) l2 (.bool sf)).setCell (p := ⟨c1, 0, none⟩) l1 (.int .i64 kd)).setCell (p := ⟨c1, 1, none⟩) l1 (.string nm)).setCell (p := ⟨c1, 2, none⟩) l1 (.slice (some ⟨c3, 0, none⟩) at'.length at'.length)).setCell (p := ⟨c1, 3, none⟩) l1 (.string tx)).setCell (p := ⟨c1, 4, none⟩) l1 (.bool sf)
  clear FF o3 o4 o1 o2
  go_wp2_with fail
  refine bodyPost_ret (v := .agg #[.int .i64 kd, .string nm, .slice (some ⟨c3, 0, none⟩) at'.length at'.length, .string tx, .bool sf]) ?_ rfl ⟨_, rfl, HO4.out, HB4⟩
  have t0 := (HFF.out.2 0 (by omega)).1
  have t1 := (HFF.out.2 1 (by omega)).1
  have t2 := (HFF.out.2 2 (by omega)).1
  have t3 := (HFF.out.2 3 (by omega)).1
  have t4 := (HFF.out.2 4 (by omega)).1
  simp at t0 t1 t2 t3 t4
  simp [results, Tryd.results16, go_sem, t0, t1, t2, t3, t4]

end Go.Proofs.YtmambbknljgjcaaDoor.Sg

namespace Go.Proofs.YtmambbknljgjcaaDoor.Sg
open Go.ChangeShapes Go.WideShapes Go.ChangeAt Go.RowKit

theorem info_tok' : (Tryd.prog.info? 36).map (fun i => (i.zero, i.size, i.bytes)) = some (some (.agg #[.int .i64 0, .string ⟨#[]⟩, .slice none 0 0, .string ⟨#[]⟩, .bool false]), 5, 72) := by kernel_rfl

def tokZ : Array Value := #[.int .i64 0, .string ⟨#[]⟩, .slice none 0 0, .string ⟨#[]⟩, .bool false]
def tokZf (j : Nat) : Value := tokZ[j % 5]!

theorem make_toks (n : Nat) (hn : n ≤ 1099511627776) (w : World) :
    (Instr.makeSlice 25 (.int .i64 (n : Int)) (.int .i64 (n : Int))).run Tryd.prog w = .ok (.slice (some ⟨w.heap.size, 0, none⟩) n n) (w.alloc (.cells (madeCells tokZ (n * 5)) 36)) := by
  obtain ⟨i, hi, hz, hs, hb⟩ := info_parts info_tok'
  have hr := run_make (P := Tryd.prog) w 25 36 i _ Tryd.underlying25 hi hz .i64 .i64 n n (by omega) (Int.le_refl _) (by rw [hb]; omega) (by omega)
  simp only [Int.toNat_natCast, hs] at hr
  exact hr
theorem made_five (w : World) (m : Nat) (t : TypeId) : (w.alloc (.cells (madeCells tokZ m) t)).rowIs w.heap.size t m tokZf := by
  have h := World.rowIs_alloc w (madeCells tokZ m) t tokZf (fun i hi => by
    rw [size_madeCells] at hi
    simp [madeCells, hi, tokZf, tokZ])
  rw [size_madeCells] at h
  exact h

theorem tok_get {L : List (TokB × Value)} {p : TokB × Value} {j : Nat} (h : j < 5) : (tokCells (L ++ [p]))[L.length * 5 + j]? = (tokV p)[j]? := by
  have hk : L.length < (L ++ [p]).length := by simp
  rw [tokCells_at (L ++ [p]) L.length j hk h]
  simp
theorem tok_old {L : List (TokB × Value)} {p : TokB × Value} {j : Nat} (h : j < L.length * 5) : (tokCells (L ++ [p]))[j]? = (tokCells L)[j]? := by
  rw [tokCells_more, List.getElem?_append_left (by rw [tokCells_length]; exact h)]

set_option maxRecDepth 20000 in
set_option maxHeartbeats 4000000 in
theorem toTokenS_any (l : List TokB) (a : Option Addr) (n cap : Nat) (w : World) (ha : ToksIn w a l) (hl : l.length = n) (hn : n ≤ 1099511627776) (hat : ∀ t ∈ l, t.2.2.1.length ≤ 1099511627776) :
    Calls Tryd.prog 7 #[.slice a n cap] w fun e w' => e = .returned (.slice (some ⟨w.heap.size, 0, none⟩) n n) ∧ OwnToks w' w.heap.size (.slice (some ⟨w.heap.size, 0, none⟩) n n) l ∧ Below w.heap.size w w' := by
  have Ha : Hid (ToksIn w a l) := ha
  have Hl : Hid (l.length = n) := hl
  have Hat : Hid (∀ t ∈ l, t.2.2.1.length ≤ 1099511627776) := hat
  have hmk := make_toks n hn
  have hmade : Hid ((w.alloc (.cells (madeCells tokZ (n * 5)) 36)).rowIs w.heap.size 36 (n * 5) (fun j => if j < 5 * 0 then ((tokCells [])[j]?).getD (tokZf j) else tokZf j)) := by
    show World.rowIs _ _ _ _ _
    simpa using made_five w (n * 5) 36
  have hbel0 : Below w.heap.size w (w.alloc (.cells (madeCells tokZ (n * 5)) 36)) := (Below.refl _ _).alloc (Nat.le_refl _) _
  have hO : Hid (OwnEach (w.alloc (.cells (madeCells tokZ (n * 5)) 36)) w.heap.size []) := ⟨fun _ h => absurd h List.not_mem_nil, List.Pairwise.nil⟩
  clear ha hl hat
  go_enter Tryd.func7, Tryd.ntmps7
  go_wp2
  go_loopw [4] (fun i wr => ∃ (k : Nat) (L : List (TokB × Value)), k ≤ n ∧ i = .int .i64 k ∧ L.length = k ∧ Hid (L.map (·.1) = l.take k) ∧ Hid (wr.rowIs w.heap.size 36 (n * 5) (fun j => if j < 5 * k then ((tokCells L)[j]?).getD (tokZf j) else tokZf j)) ∧ Hid (OwnEach wr w.heap.size L) ∧ Below w.heap.size w wr) (fun i _ => n - (intOf i).toNat)
  case atStart => exact ⟨0, [], Nat.zero_le _, rfl, rfl, rfl, hmade, hO, hbel0⟩
  case round =>
    obtain ⟨k, L, hk, rfl, hLk, Hmap, Hrow, HO, hbel⟩ := hrel
    clear hmade hbel0 hmk hO
    by_cases hlt : k < n
    · have hkl : k < l.length := by rw [Hl.out]; exact hlt
      rcases Ha.out.keep hbel with h | ⟨b, off, rfl, hb, hc⟩
      · rw [h] at hkl
        exact absurd hkl (Nat.not_lt_zero _)
      obtain ⟨c0, c1, ⟨sv, c2, hS⟩, c3, c4⟩ := hc k hkl
      have Htake : Hid (l.take (k + 1) = l.take k ++ [l[k]'hkl]) := by
        show _ = _
        rw [List.take_add_one, List.getElem?_eq_getElem hkl]
        rfl
      have hp := Hat.out _ (List.getElem_mem hkl)
      clear hc
      generalize l[k]'hkl = p at *
      clear hkl
      have Hs := toToken_any p sv wr hS hp
      clear hS hp
      have k0 : (0 : Int) ≤ (k : Int) := by omega
      have k1 : (k : Int) < (n : Int) := by omega
      have hsz := hbel.size
      obtain ⟨kd, nm, at', tx, sf⟩ := p
      simp only [tokV] at Hs
      simp only at c0 c1 c3 c4
      go_wp2_with fail
      refine Hs.mono ?_
      rintro e w1 ⟨sv', rfl, o1, b1⟩
      obtain ⟨sa, sc, esv, _⟩ := attrs_of_own o1
      subst esv
      have hr1 := rowIs_below Hrow.out b1
      have HO1 := HO.out.keep b1
      have hfar : ∀ q ∈ L, ∀ bb, q.2.ownBlock = some bb → (Value.slice sa at'.length sc).ownBlock ≠ some bb := fun q hq bb hbb h2 => by
        have h3 := ((HO.out.1 q hq).lt bb hbb).2
        have h4 := (o1.lt bb h2).1
        omega
      have o1' := own_mono o1 hsz
      have HOn : OwnEach w1 w.heap.size (L ++ [((kd, nm, at', tx, sf), Value.slice sa at'.length sc)]) := by
        refine ⟨fun q hq => ?_, ?_⟩
        · rcases List.mem_append.1 hq with h | h
          · exact HO1.1 q h
          · rw [List.mem_singleton.1 h]
            exact o1'
        · rw [List.pairwise_append]
          refine ⟨HO1.2, List.pairwise_singleton _ _, fun q hq r hr => ?_⟩
          rw [List.mem_singleton.1 hr]
          exact hfar q hq
      have hty : ∀ q ∈ L ++ [((kd, nm, at', tx, sf), Value.slice sa at'.length sc)], ∀ bb, q.2.ownBlock = some bb → some w.heap.size ≠ some bb := fun q hq bb hbb h2 => by
        obtain ⟨cc, hcc, _, _⟩ := hr1
        exact owns_not (HOn.1 q hq) hcc tok_type (by rw [hbb]; exact h2.symm)
      clear HO1 hfar o1 o1'
      have d0 := hr1.cell (i := k * 5) (by omega)
      have d1 := hr1.cell (i := k * 5 + 1) (by omega)
      have d2 := hr1.cell (i := k * 5 + 2) (by omega)
      have d3 := hr1.cell (i := k * 5 + 3) (by omega)
      have d4 := hr1.cell (i := k * 5 + 4) (by omega)
      have f0 := hr1.frozen (k * 5)
      have f1 := hr1.frozen (k * 5 + 1)
      have f2 := hr1.frozen (k * 5 + 2)
      have f3 := hr1.frozen (k * 5 + 3)
      have f4 := hr1.frozen (k * 5 + 4)
      rw [if_neg (by omega)] at d0 d1 d2 d3 d4
      generalize tokZf (k * 5) = u0 at d0
      generalize tokZf (k * 5 + 1) = u1 at d1
      generalize tokZf (k * 5 + 2) = u2 at d2
      generalize tokZf (k * 5 + 3) = u3 at d3
      generalize tokZf (k * 5 + 4) = u4 at d4
      have Hr3 : Hid (World.rowIs _ w.heap.size 36 (n * 5) _) := ((((hr1.set (k * 5) (.int .i64 kd)).set (k * 5 + 1) (.string nm)).set (k * 5 + 2) (.slice sa at'.length sc)).set (k * 5 + 3) (.string tx)).set (k * 5 + 4) (.bool sf)
      have b3 := ((((((hbel.trans (b1.mono hsz)).setCell (p := ⟨w.heap.size, k * 5, none⟩) (Nat.le_refl _) (.int .i64 kd)).setCell (p := ⟨w.heap.size, k * 5 + 1, none⟩) (Nat.le_refl _) (.string nm)).setCell (p := ⟨w.heap.size, k * 5 + 2, none⟩) (Nat.le_refl _) (.slice sa at'.length sc)).setCell (p := ⟨w.heap.size, k * 5 + 3, none⟩) (Nat.le_refl _) (.string tx)).setCell (p := ⟨w.heap.size, k * 5 + 4, none⟩) (Nat.le_refl _) (.bool sf))
      have HO3 : Hid (OwnEach _ w.heap.size (L ++ [((kd, nm, at', tx, sf), Value.slice sa at'.length sc)])) := HOn.grown (grown_trans (grown_trans (grown_trans (grown_trans (grown_set w1 w.heap.size (k * 5) (.int .i64 kd)) (grown_set _ w.heap.size (k * 5 + 1) (.string nm))) (grown_set _ w.heap.size (k * 5 + 2) (.slice sa at'.length sc))) (grown_set _ w.heap.size (k * 5 + 3) (.string tx))) (grown_set _ w.heap.size (k * 5 + 4) (.bool sf))) hty
      have HM3 : Hid ((L ++ [((kd, nm, at', tx, sf), Value.slice sa at'.length sc)]).map (·.1) = l.take (k + 1)) := by
        show _ = _
        rw [Htake.out, ← Hmap.out]
        simp
      clear hr1 HOn hty b1 Htake Hmap
      go_wp2_with fail
      go_roundw
      case rel =>
        refine ⟨k + 1, L ++ [((kd, nm, at', tx, sf), Value.slice sa at'.length sc)], by omega, by go_num, by rw [List.length_append, hLk]; rfl, HM3, ?_, HO3, b3⟩
        refine Hr3.out.congr fun j hj => ?_
        have tg : ∀ i, i < 5 → (tokCells (L ++ [((kd, nm, at', tx, sf), Value.slice sa at'.length sc)]))[k * 5 + i]? = (tokV ((kd, nm, at', tx, sf), Value.slice sa at'.length sc))[i]? := fun i hi => by rw [← hLk]; exact tok_get hi
        by_cases q4 : j = k * 5 + 4
        · subst q4
          rw [if_pos rfl, if_pos (by omega), tg 4 (by omega)]
          rfl
        · by_cases q3 : j = k * 5 + 3
          · subst q3
            rw [if_neg (by omega), if_pos rfl, if_pos (by omega), tg 3 (by omega)]
            rfl
          · by_cases q2 : j = k * 5 + 2
            · subst q2
              rw [if_neg (by omega), if_neg (by omega), if_pos rfl, if_pos (by omega), tg 2 (by omega)]
              rfl
            · by_cases q1 : j = k * 5 + 1
              · subst q1
                rw [if_neg (by omega), if_neg (by omega), if_neg (by omega), if_pos rfl, if_pos (by omega), tg 1 (by omega)]
                rfl
              · by_cases q0 : j = k * 5
                · subst q0
                  rw [if_neg (by omega), if_neg (by omega), if_neg (by omega), if_neg (by omega), if_pos rfl, if_pos (by omega)]
                  have := tg 0 (by omega)
                  rw [Nat.add_zero] at this
                  rw [this]
                  rfl
                · rw [if_neg q4, if_neg q3, if_neg q2, if_neg q1, if_neg q0]
                  by_cases q5 : j < 5 * k
                  · rw [if_pos q5, if_pos (by omega), tok_old (by rw [hLk]; omega)]
                  · rw [if_neg q5, if_neg (by omega)]
      case measure => simp [intOf]; omega
    · have hkn : k = n := by omega
      subst hkn
      have g2 : decide ((k : Int) < (k : Int)) = false := by simp
      go_wp2
      go_ret
      refine ⟨rfl, ⟨L, ?_, ?_, HO.out⟩, hbel⟩
      · rw [Hmap.out, List.take_of_length_le (by rw [Hl.out]; exact Nat.le_refl _)]
      · rw [hLk]
        refine own_of_list (Nat.le_refl _) (by unfold maxLen; omega) Hrow.out (by rw [tokCells_length, hLk]) (fun j hj => ?_)
        rw [if_pos (by omega)]
        have hj2 : j < (tokCells L).length := by rw [tokCells_length, hLk]; exact hj
        simp [hj2]

end Go.Proofs.YtmambbknljgjcaaDoor.Sg

namespace Go.Proofs.YtmambbknljgjcaaDoor.Sg
open Go.ChangeShapes Go.WideShapes Go.ChangeAt Go.RowKit

def strOf : Value → ByteArray
  | .string s => s
  | _ => ⟨#[]⟩
theorem add_plain (b off i : Nat) : (⟨b, off, none⟩ : Addr).add i = ⟨b, off + i, none⟩ := by unfold Addr.add; split <;> simp_all
theorem cell_block {w : World} {b i : Nat} {v : Value} (h : w.cell? ⟨b, i, none⟩ = some v) : b < w.heap.size := by
  rcases Nat.lt_or_ge b w.heap.size with g | g
  · exact g
  · simp [World.cell?, Array.getElem?_eq_none g] at h

theorem attrs_came {H : Type} {enc : TypeId × Value → H} {W : World} {base : Nat} {spare : Nat → Bool} {held : Bool} {fuel : Nat} {v : Value} {x : DataW H × List MemPlace}
    (h : DataW.trod enc Tryd.prog W base spare held fuel 31 [v] = some x) : ∃ l : List AttrB, SlAttrsIn W v l ∧ AttrsHeld l := by
  rcases Deep.open_slice_pairs Tryd.underlying31 Tryd.underlying72 (by kernel_rfl) rfl rfl (by kernel_rfl) (by kernel_rfl) h with ⟨hv, _⟩ | ⟨a, len, cap, m, n, V0, V1, D0, D1, P0, P1, hv, _, hlc, hcm, hm, _, hx⟩
  · obtain rfl : v = .slice none 0 0 := by simpa using hv
    exact ⟨[], ⟨none, 0, rfl, .inl rfl⟩, ⟨Nat.zero_le _, fun _ hp => absurd hp List.not_mem_nil⟩⟩
  · obtain rfl : v = .slice (some a) len cap := by simpa using hv
    have hlm : len ≤ m := by rw [hm]; split <;> omega
    have hs : ∀ i, i < len → ∃ s0 s1 : ByteArray, V0 i = .string s0 ∧ V1 i = .string s1 ∧ s0.size ≤ maxLen ∧ s1.size ≤ maxLen := fun i hi => by
      obtain ⟨_, _, t0, t1⟩ := hx i (by omega)
      obtain ⟨s0, e0, _, m0⟩ := DataW.trod_string Tryd.underlying9 t0
      obtain ⟨s1, e1, _, m1⟩ := DataW.trod_string Tryd.underlying9 t1
      exact ⟨s0, s1, by simpa using e0, by simpa using e1, m0, m1⟩
    refine ⟨(List.range len).map fun i => (strOf (V0 i), strOf (V1 i)), ⟨some a, cap, by simp, ?_⟩, ?_, ?_⟩
    · by_cases h0 : len = 0
      · subst h0
        exact .inl rfl
      · obtain ⟨b, off, spot⟩ := a
        obtain ⟨c0, _, _, _⟩ := hx 0 (by omega)
        have hspot : spot = none := by simpa [Addr.add] using World.cell?_spot c0
        subst hspot
        rw [add_plain] at c0
        refine .inr ⟨b, off, rfl, cell_block c0, fun k hk => ?_⟩
        have hk' : k < len := by simpa using hk
        obtain ⟨c1, c2, _, _⟩ := hx k (by omega)
        obtain ⟨s0, s1, e0, e1, _, _⟩ := hs k hk'
        rw [add_plain] at c1 c2
        rw [e0] at c1
        rw [e1] at c2
        refine ⟨?_, ?_⟩
        · rw [c1]
          simp [e0, strOf]
        · rw [show off + k * 2 + 1 = off + (k * 2 + 1) by omega, c2]
          simp [e1, strOf]
    · unfold maxLen at hcm
      simp
      omega
    · intro p hp
      obtain ⟨i, hi, rfl⟩ := List.mem_map.1 hp
      obtain ⟨s0, s1, e0, e1, m0, m1⟩ := hs i (List.mem_range.1 hi)
      unfold maxLen at m0 m1
      rw [e0, e1]
      exact ⟨m0, m1⟩

set_option maxRecDepth 100000 in
theorem toks_came {H : Type} {enc : TypeId × Value → H} {W : World} {m : Nat} {rd : Nat → Bool} {sp : Bool} {a : Option Addr} {len cap : Nat} {d : DataW H} {p : List MemPlace}
    (h : DataW.Trod enc Tryd.prog W m rd sp 22 (.slice a len cap) d p) : ∃ l : List TokB, len = l.length ∧ ToksIn W a l ∧ ToksHeld l := by
  obtain ⟨fuel, hf⟩ := h
  rcases Deep.open_slice Tryd.underlying22 hf with ⟨hcs, _⟩ | ⟨x, l, c, mm, nn, D, Pl, hcs, _, hlc, hcm, hm, _, hx⟩
  · simp [Value.cells] at hcs
    obtain ⟨rfl, rfl, rfl⟩ := hcs
    exact ⟨[], rfl, .inl rfl, ⟨Nat.zero_le _, fun _ hp => absurd hp List.not_mem_nil⟩⟩
  · simp [Value.cells] at hcs
    obtain ⟨rfl, rfl, rfl⟩ := hcs
    have hlm : len ≤ mm := by rw [hm]; split <;> omega
    have ce : Tryd.prog.cellsOf 33 = 5 := by kernel_rfl
    have each : ∀ i, i < len → ∃ (kd : Int) (nm : ByteArray) (sv : Value) (at' : List AttrB) (tx : ByteArray) (sf : Bool), W.cell? (x.add (i * 5)) = some (.int .i64 kd) ∧ W.cell? (x.add (i * 5 + 1)) = some (.string nm) ∧ W.cell? (x.add (i * 5 + 2)) = some sv ∧ SlAttrsIn W sv at' ∧ W.cell? (x.add (i * 5 + 3)) = some (.string tx) ∧ W.cell? (x.add (i * 5 + 4)) = some (.bool sf) ∧ TokHeld (kd, nm, at', tx, sf) := by
      intro i hi
      obtain ⟨cs', h1, h2⟩ := hx i (by omega)
      rw [ce] at h1
      obtain ⟨_, hlen, hcell⟩ := World.cells?_some h1
      obtain ⟨xs, k, hk, _, _, hxl, hfl⟩ := DataW.trod_struct Tryd.underlying33 h2
      have k3 : Tryd.prog.cellsOf 3 = 1 := by kernel_rfl
      have k9 : Tryd.prog.cellsOf 9 = 1 := by kernel_rfl
      have ka : Tryd.prog.cellsOf 31 = 1 := by kernel_rfl
      have k4 : Tryd.prog.cellsOf 4 = 1 := by kernel_rfl
      match xs, hxl, cs', hlen with
      | [y0, y1, y2, y3, y4], _, [v0, v1, v2, v3, v4], _ =>
        have g0 := hfl 0 _ rfl
        have g1 := hfl 1 _ rfl
        have g2 := hfl 2 _ rfl
        have g3 := hfl 3 _ rfl
        have g4 := hfl 4 _ rfl
        simp [k3, k9, ka, k4] at g0 g1 g2 g3 g4
        obtain ⟨kd, e0, _, _⟩ := DataW.trod_int Tryd.underlying3 g0
        obtain ⟨nm, e1, _, m1⟩ := DataW.trod_string Tryd.underlying9 g1
        obtain ⟨at', S2, h2'⟩ := attrs_came g2
        obtain ⟨tx, e3, _, m3⟩ := DataW.trod_string Tryd.underlying9 g3
        obtain ⟨sf, e4, _⟩ := DataW.trod_bool Tryd.underlying4 g4
        have c0 := hcell 0 (by omega)
        have c1 := hcell 1 (by omega)
        have c2 := hcell 2 (by omega)
        have c3 := hcell 3 (by omega)
        have c4 := hcell 4 (by omega)
        rw [Deep.add_add] at c0 c1 c2 c3 c4
        have f0 : v0 = .int .i64 kd := by simpa using e0
        have f1 : v1 = .string nm := by simpa using e1
        have f3 : v3 = .string tx := by simpa using e3
        have f4 : v4 = .bool sf := by simpa using e4
        unfold maxLen at m1 m3
        refine ⟨kd, nm, v2, at', tx, sf, ?_, ?_, ?_, S2, ?_, ?_, ⟨m1, h2', m3⟩⟩
        · rw [← f0]; simpa using c0
        · rw [← f1]; simpa using c1
        · simpa using c2
        · rw [← f3]; simpa using c3
        · rw [← f4]; simpa using c4
    have pick : ∀ i, ∃ q : TokB × Value, i < len → W.cell? (x.add (i * 5)) = some (.int .i64 q.1.1) ∧ W.cell? (x.add (i * 5 + 1)) = some (.string q.1.2.1) ∧ W.cell? (x.add (i * 5 + 2)) = some q.2 ∧ SlAttrsIn W q.2 q.1.2.2.1 ∧ W.cell? (x.add (i * 5 + 3)) = some (.string q.1.2.2.2.1) ∧ W.cell? (x.add (i * 5 + 4)) = some (.bool q.1.2.2.2.2) ∧ TokHeld q.1 := fun i => by
      by_cases hi : i < len
      · obtain ⟨kd, nm, sv, at', tx, sf, h⟩ := each i hi
        exact ⟨((kd, nm, at', tx, sf), sv), fun _ => h⟩
      · exact ⟨(tok0, .slice none 0 0), fun h => absurd h hi⟩
    obtain ⟨q, hq⟩ := Classical.axiomOfChoice pick
    refine ⟨(List.range len).map fun i => (q i).1, by simp, ?_, ?_, ?_⟩
    · by_cases h0 : len = 0
      · subst h0
        exact .inl rfl
      · obtain ⟨b, off, spot⟩ := x
        obtain ⟨c0, _⟩ := hq 0 (by omega)
        have hspot : spot = none := by simpa [Addr.add] using World.cell?_spot c0
        subst hspot
        rw [add_plain] at c0
        refine .inr ⟨b, off, rfl, cell_block c0, fun k hk => ?_⟩
        have hk' : k < len := by simpa using hk
        obtain ⟨c0, c1, c2, hS, c3, c4, _⟩ := hq k hk'
        rw [add_plain] at c0 c1 c2 c3 c4
        have e : ((List.range len).map fun i => (q i).1)[k]'hk = (q k).1 := by simp
        rw [e]
        exact ⟨c0, by rw [Nat.add_assoc]; exact c1, ⟨_, by rw [Nat.add_assoc]; exact c2, hS⟩, by rw [Nat.add_assoc]; exact c3, by rw [Nat.add_assoc]; exact c4⟩
    · unfold maxLen at hcm
      simp
      omega
    · intro t ht
      obtain ⟨i, hi, rfl⟩ := List.mem_map.1 ht
      exact (hq i (List.mem_range.1 hi)).2.2.2.2.2.2

end Go.Proofs.YtmambbknljgjcaaDoor.Sg
