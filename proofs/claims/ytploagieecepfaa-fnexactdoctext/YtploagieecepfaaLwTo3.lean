/- The laws' attributes, laid anew. -/
import Derived.Test.YtploagieecepfaaLwToA
namespace Go.Proofs.Ytploagieecepfaa.Sg
open Go.ChangeShapes Go.WideShapes Go.ChangeAt Go.RowKit

theorem own_of_list {w : World} {B g n z : Nat} {e : TypeId} {f : Nat → Value} {xs : List Value} (hB : B ≤ g) (hm : n ≤ maxLen) (h : w.rowIs g e (n * z) f) (hl : xs.length = n * z) (hf : ∀ j, j < n * z → xs[j]? = some (f j)) :
    w.ownsRow B e z (.slice (some ⟨g, 0, none⟩) n n) n xs := by
  obtain ⟨c, hb, hc, hv⟩ := h
  refine ⟨hl, .inr ⟨g, n, c, rfl, hB, hb, Nat.le_refl _, hm, hc, ?_⟩⟩
  apply List.ext_getElem?
  intro j
  by_cases hj : j < n * z
  · rw [List.getElem?_take_of_lt hj, Array.getElem?_toList, hv j hj, hf j hj]
  · rw [List.getElem?_eq_none (by simp; omega), List.getElem?_eq_none (by omega)]

theorem info_attr' : (Try.prog.info? 74).map (fun i => (i.zero, i.size, i.bytes)) = some (some (.agg #[.string ⟨#[]⟩, .string ⟨#[]⟩]), 2, 32) := by kernel_rfl

theorem make_attrs (n : Nat) (hn : n ≤ 1099511627776) (w : World) :
    (Instr.makeSlice 33 (.int .i64 (n : Int)) (.int .i64 (n : Int))).run Try.prog w = .ok (.slice (some ⟨w.heap.size, 0, none⟩) n n) (w.alloc (.cells (madeCells #[.string ⟨#[]⟩, .string ⟨#[]⟩] (n * 2)) 74)) := by
  obtain ⟨i, hi, hz, hs, hb⟩ := info_parts info_attr'
  have hr := run_make (P := Try.prog) w 33 74 i _ Try.underlying33 hi hz .i64 .i64 n n (by omega) (Int.le_refl _) (by rw [hb]; omega) (by omega)
  simp only [Int.toNat_natCast, hs] at hr
  exact hr

theorem made_two (w : World) (z : Value) (m : Nat) (t : TypeId) : (w.alloc (.cells (madeCells #[z, z] m) t)).rowIs w.heap.size t m (fun _ => z) := by
  have h := World.rowIs_alloc w (madeCells #[z, z] m) t (fun _ => z) (fun i hi => by
    rw [size_madeCells] at hi
    have h2 : i % 2 = 0 ∨ i % 2 = 1 := by omega
    rcases h2 with h2 | h2 <;> simp [madeCells, hi, h2])
  rw [size_madeCells] at h
  exact h

set_option maxHeartbeats 1000000 in
theorem toAttr_any (x y : ByteArray) (w : World) :
    Calls Try.prog 35 #[.agg #[.string x, .string y]] w fun e w' => e = .returned (.agg #[.string x, .string y]) ∧ Below w.heap.size w w' := by
  go_enter Try.func35, Try.ntmps35
  go_wp2
  refine bodyPost_ret (v := .agg #[.string x, .string y]) ?_ rfl ⟨rfl, (((Below.refl _ _).alloc (Nat.le_refl _) _).alloc (by simp) _).alloc (by simp; omega) _⟩
  simp [results, Try.results35, go_sem]

theorem attrs_get {l : List AttrB} {k : Nat} (h : k < l.length) : (attrCells l)[k * 2]? = some (.string (l[k]'h).1) ∧ (attrCells l)[k * 2 + 1]? = some (.string (l[k]'h).2) := by
  have e : l.getD k (ByteArray.empty, ByteArray.empty) = l[k]'h := by simp [List.getD, h]
  rw [← e]
  exact attrCells_at l k h

set_option maxHeartbeats 2000000 in
theorem toAttrS_any (l : List AttrB) (a : Option Addr) (n cap : Nat) (w : World) (ha : AttrsIn w a l) (hl : l.length = n) (hn : n ≤ 1099511627776) :
    Calls Try.prog 24 #[.slice a n cap] w fun e w' => e = .returned (.slice (some ⟨w.heap.size, 0, none⟩) n n) ∧ w'.ownsRow w.heap.size 74 2 (.slice (some ⟨w.heap.size, 0, none⟩) n n) l.length (attrCells l) ∧ Below w.heap.size w w' := by
  have Ha : Hid (AttrsIn w a l) := ha
  have Hl : Hid (l.length = n) := hl
  have hmk := make_attrs n hn
  have hmade : Hid ((w.alloc (.cells (madeCells #[.string ⟨#[]⟩, .string ⟨#[]⟩] (n * 2)) 74)).rowIs w.heap.size 74 (n * 2) (fun j => if j < 2 * 0 then ((attrCells l)[j]?).getD (.string ⟨#[]⟩) else .string ⟨#[]⟩)) := by
    show World.rowIs _ _ _ _ _
    simpa using made_two w (.string ⟨#[]⟩) (n * 2) 74
  have hbel0 : Below w.heap.size w (w.alloc (.cells (madeCells #[.string ⟨#[]⟩, .string ⟨#[]⟩] (n * 2)) 74)) := (Below.refl _ _).alloc (Nat.le_refl _) _
  clear ha hl
  go_enter Try.func24, Try.ntmps24
  go_wp2
  go_loopw [4] (fun i wr => ∃ k : Nat, k ≤ n ∧ i = .int .i64 k ∧ Hid (wr.rowIs w.heap.size 74 (n * 2) (fun j => if j < 2 * k then ((attrCells l)[j]?).getD (.string ⟨#[]⟩) else .string ⟨#[]⟩)) ∧ Below w.heap.size w wr) (fun i _ => n - (intOf i).toNat)
  case atStart => exact ⟨0, Nat.zero_le _, rfl, hmade, hbel0⟩
  case round =>
    obtain ⟨k, hk, rfl, Hrow, hbel⟩ := hrel
    clear hmade hbel0 hmk
    by_cases hlt : k < n
    · have hkl : k < l.length := by rw [Hl.out]; exact hlt
      rcases Ha.out with h | ⟨b, off, rfl, hb, hc⟩
      · rw [h] at hkl
        exact absurd hkl (Nat.not_lt_zero _)
      obtain ⟨c1, c2⟩ := hc k hkl
      obtain ⟨e1, e2⟩ := attrs_get hkl
      clear hc
      generalize l[k]'hkl = p at *
      clear hkl
      obtain ⟨x, y⟩ := p
      simp only at c1 c2 e1 e2
      have c1' := (hbel.cell (p := ⟨b, off + k * 2, none⟩) hb).trans c1
      have c2' := (hbel.cell (p := ⟨b, off + k * 2 + 1, none⟩) hb).trans c2
      have E1 : Hid ((attrCells l)[k * 2]? = some (.string x)) := e1
      have E2 : Hid ((attrCells l)[k * 2 + 1]? = some (.string y)) := e2
      clear c1 c2 e1 e2
      have k0 : (0 : Int) ≤ (k : Int) := by omega
      have k1 : (k : Int) < (n : Int) := by omega
      have hsz := hbel.size
      go_wp2_with fail
      refine (toAttr_any x y _).mono ?_
      rintro e w1 ⟨rfl, b1⟩
      have hr1 := rowIs_below Hrow.out b1
      have d1 := hr1.cell (i := k * 2) (by omega)
      have d2 := hr1.cell (i := k * 2 + 1) (by omega)
      have f1 := hr1.frozen (k * 2)
      have f2 := hr1.frozen (k * 2 + 1)
      rw [if_neg (by omega)] at d1 d2
      have hr3 := (hr1.set (k * 2) (.string x)).set (k * 2 + 1) (.string y)
      have Hr3 : Hid (World.rowIs _ w.heap.size 74 (n * 2) _) := hr3
      have b3 : Below w.heap.size w ((w1.setCell ⟨w.heap.size, k * 2, none⟩ (.string x)).setCell ⟨w.heap.size, k * 2 + 1, none⟩ (.string y)) := ((hbel.trans (b1.mono hsz)).setCell (Nat.le_refl _) _).setCell (Nat.le_refl _) _
      clear hr1 hr3 b1
      go_wp2_with fail
      go_roundw
      case rel =>
        refine ⟨k + 1, by omega, by go_num, ?_, b3⟩
        refine Hr3.out.congr fun j hj => ?_
        by_cases q1 : j = k * 2 + 1
        · subst q1
          rw [if_pos rfl, if_pos (by omega), E2.out]
          rfl
        · by_cases q0 : j = k * 2
          · subst q0
            rw [if_neg (by omega), if_pos rfl, if_pos (by omega), E1.out]
            rfl
          · by_cases q2 : j < 2 * k
            · rw [if_neg q1, if_neg q0, if_pos q2, if_pos (by omega)]
            · rw [if_neg q1, if_neg q0, if_neg q2, if_neg (by omega)]
      case measure => simp [intOf]; omega
    · have hkn : k = n := by omega
      subst hkn
      have g2 : decide ((k : Int) < (k : Int)) = false := by simp
      go_wp2
      go_ret
      refine ⟨rfl, ?_, hbel⟩
      rw [Hl.out]
      refine own_of_list (Nat.le_refl _) (by unfold maxLen; omega) Hrow.out (by rw [attrCells_length, Hl.out]) (fun j hj => ?_)
      rw [if_pos (by omega)]
      have hj2 : j < (attrCells l).length := by rw [attrCells_length, Hl.out]; exact hj
      simp [hj2]

end Go.Proofs.Ytploagieecepfaa.Sg
