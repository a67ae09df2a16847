/- The laws' slices of words, laid anew. -/
import Derived.Test.YtploagieecepfaaDoorLwTo4
namespace Go.Proofs.YtploagieecepfaaDoor.Sg
open Go.ChangeShapes Go.WideShapes Go.ChangeAt Go.RowKit

theorem info_tok' : (Tryd.prog.info? 29).map (fun i => (i.zero, i.size, i.bytes)) = some (some (.agg #[.int .i64 0, .string ⟨#[]⟩, .slice none 0 0, .string ⟨#[]⟩, .bool false]), 5, 72) := by kernel_rfl

def tokZ : Array Value := #[.int .i64 0, .string ⟨#[]⟩, .slice none 0 0, .string ⟨#[]⟩, .bool false]
def tokZf (j : Nat) : Value := tokZ[j % 5]!

theorem make_toks (n : Nat) (hn : n ≤ 1099511627776) (w : World) :
    (Instr.makeSlice 36 (.int .i64 (n : Int)) (.int .i64 (n : Int))).run Tryd.prog w = .ok (.slice (some ⟨w.heap.size, 0, none⟩) n n) (w.alloc (.cells (madeCells tokZ (n * 5)) 29)) := by
  obtain ⟨i, hi, hz, hs, hb⟩ := info_parts info_tok'
  have hr := run_make (P := Tryd.prog) w 36 29 i _ Tryd.underlying36 hi hz .i64 .i64 n n (by omega) (Int.le_refl _) (by rw [hb]; omega) (by omega)
  simp only [Int.toNat_natCast, hs] at hr
  exact hr
theorem made_five (w : World) (m : Nat) (t : TypeId) : (w.alloc (.cells (madeCells tokZ m) t)).rowIs w.heap.size t m tokZf := by
  have h := World.rowIs_alloc w (madeCells tokZ m) t tokZf (fun i hi => by
    rw [size_madeCells] at hi
    simp [madeCells, hi, tokZf, tokZ])
  rw [size_madeCells] at h
  exact h

theorem tok_get {L : List (TokB × Value)} {p : TokB × Value} {j : Nat} (h : j < 5) : (tokCells (L ++ [p]))[L.length * 5 + j]? = (tokV p)[j]? := by
  have hk : L.length < (L ++ [p]).length := by simp
  rw [tokCells_at (L ++ [p]) L.length j hk h]
  simp
theorem tok_old {L : List (TokB × Value)} {p : TokB × Value} {j : Nat} (h : j < L.length * 5) : (tokCells (L ++ [p]))[j]? = (tokCells L)[j]? := by
  rw [tokCells_more, List.getElem?_append_left (by rw [tokCells_length]; exact h)]

set_option maxRecDepth 20000 in
set_option maxHeartbeats 4000000 in
theorem toTokenS_any (l : List TokB) (a : Option Addr) (n cap : Nat) (w : World) (ha : ToksIn w a l) (hl : l.length = n) (hn : n ≤ 1099511627776) (hat : ∀ t ∈ l, t.2.2.1.length ≤ 1099511627776) :
    Calls Tryd.prog 12 #[.slice a n cap] w fun e w' => e = .returned (.slice (some ⟨w.heap.size, 0, none⟩) n n) ∧ OwnToks w' w.heap.size (.slice (some ⟨w.heap.size, 0, none⟩) n n) l ∧ Below w.heap.size w w' := by
  have Ha : Hid (ToksIn w a l) := ha
  have Hl : Hid (l.length = n) := hl
  have Hat : Hid (∀ t ∈ l, t.2.2.1.length ≤ 1099511627776) := hat
  have hmk := make_toks n hn
  have hmade : Hid ((w.alloc (.cells (madeCells tokZ (n * 5)) 29)).rowIs w.heap.size 29 (n * 5) (fun j => if j < 5 * 0 then ((tokCells [])[j]?).getD (tokZf j) else tokZf j)) := by
    show World.rowIs _ _ _ _ _
    simpa using made_five w (n * 5) 29
  have hbel0 : Below w.heap.size w (w.alloc (.cells (madeCells tokZ (n * 5)) 29)) := (Below.refl _ _).alloc (Nat.le_refl _) _
  have hO : Hid (OwnEach (w.alloc (.cells (madeCells tokZ (n * 5)) 29)) w.heap.size []) := ⟨fun _ h => absurd h List.not_mem_nil, List.Pairwise.nil⟩
  clear ha hl hat
  go_enter Tryd.func12, Tryd.ntmps12
  go_wp2
  go_loopw [4] (fun i wr => ∃ (k : Nat) (L : List (TokB × Value)), k ≤ n ∧ i = .int .i64 k ∧ L.length = k ∧ Hid (L.map (·.1) = l.take k) ∧ Hid (wr.rowIs w.heap.size 29 (n * 5) (fun j => if j < 5 * k then ((tokCells L)[j]?).getD (tokZf j) else tokZf j)) ∧ Hid (OwnEach wr w.heap.size L) ∧ Below w.heap.size w wr) (fun i _ => n - (intOf i).toNat)
  case atStart => exact ⟨0, [], Nat.zero_le _, rfl, rfl, rfl, hmade, hO, hbel0⟩
  case round =>
    obtain ⟨k, L, hk, rfl, hLk, Hmap, Hrow, HO, hbel⟩ := hrel
    clear hmade hbel0 hmk hO
    by_cases hlt : k < n
    · have hkl : k < l.length := by rw [Hl.out]; exact hlt
      rcases Ha.out.keep hbel with h | ⟨b, off, rfl, hb, hc⟩
      · rw [h] at hkl
        exact absurd hkl (Nat.not_lt_zero _)
      obtain ⟨c0, c1, ⟨sv, c2, hS⟩, c3, c4⟩ := hc k hkl
      have Htake : Hid (l.take (k + 1) = l.take k ++ [l[k]'hkl]) := by
        show _ = _
        rw [List.take_add_one, List.getElem?_eq_getElem hkl]
        rfl
      have hp := Hat.out _ (List.getElem_mem hkl)
      clear hc
      generalize l[k]'hkl = p at *
      clear hkl
      have Hs := toToken_any p sv wr hS hp
      clear hS hp
      have k0 : (0 : Int) ≤ (k : Int) := by omega
      have k1 : (k : Int) < (n : Int) := by omega
      have hsz := hbel.size
      obtain ⟨kd, nm, at', tx, sf⟩ := p
      simp only [tokV] at Hs
      simp only at c0 c1 c3 c4
      go_wp2_with fail
      refine Hs.mono ?_
      rintro e w1 ⟨sv', rfl, o1, b1⟩
      obtain ⟨sa, sc, esv, _⟩ := attrs_of_own o1
      subst esv
      have hr1 := rowIs_below Hrow.out b1
      have HO1 := HO.out.keep b1
      have hfar : ∀ q ∈ L, ∀ bb, q.2.ownBlock = some bb → (Value.slice sa at'.length sc).ownBlock ≠ some bb := fun q hq bb hbb h2 => by
        have h3 := ((HO.out.1 q hq).lt bb hbb).2
        have h4 := (o1.lt bb h2).1
        omega
      have o1' := own_mono o1 hsz
      have HOn : OwnEach w1 w.heap.size (L ++ [((kd, nm, at', tx, sf), Value.slice sa at'.length sc)]) := by
        refine ⟨fun q hq => ?_, ?_⟩
        · rcases List.mem_append.1 hq with h | h
          · exact HO1.1 q h
          · rw [List.mem_singleton.1 h]
            exact o1'
        · rw [List.pairwise_append]
          refine ⟨HO1.2, List.pairwise_singleton _ _, fun q hq r hr => ?_⟩
          rw [List.mem_singleton.1 hr]
          exact hfar q hq
      have hty : ∀ q ∈ L ++ [((kd, nm, at', tx, sf), Value.slice sa at'.length sc)], ∀ bb, q.2.ownBlock = some bb → some w.heap.size ≠ some bb := fun q hq bb hbb h2 => by
        obtain ⟨cc, hcc, _, _⟩ := hr1
        exact owns_not (HOn.1 q hq) hcc tok_type (by rw [hbb]; exact h2.symm)
      clear HO1 hfar o1 o1'
      have d0 := hr1.cell (i := k * 5) (by omega)
      have d1 := hr1.cell (i := k * 5 + 1) (by omega)
      have d2 := hr1.cell (i := k * 5 + 2) (by omega)
      have d3 := hr1.cell (i := k * 5 + 3) (by omega)
      have d4 := hr1.cell (i := k * 5 + 4) (by omega)
      have f0 := hr1.frozen (k * 5)
      have f1 := hr1.frozen (k * 5 + 1)
      have f2 := hr1.frozen (k * 5 + 2)
      have f3 := hr1.frozen (k * 5 + 3)
      have f4 := hr1.frozen (k * 5 + 4)
      rw [if_neg (by omega)] at d0 d1 d2 d3 d4
      generalize tokZf (k * 5) = u0 at d0
      generalize tokZf (k * 5 + 1) = u1 at d1
      generalize tokZf (k * 5 + 2) = u2 at d2
      generalize tokZf (k * 5 + 3) = u3 at d3
      generalize tokZf (k * 5 + 4) = u4 at d4
      have Hr3 : Hid (World.rowIs _ w.heap.size 29 (n * 5) _) := ((((hr1.set (k * 5) (.int .i64 kd)).set (k * 5 + 1) (.string nm)).set (k * 5 + 2) (.slice sa at'.length sc)).set (k * 5 + 3) (.string tx)).set (k * 5 + 4) (.bool sf)
      have b3 := ((((((hbel.trans (b1.mono hsz)).setCell (p := ⟨w.heap.size, k * 5, none⟩) (Nat.le_refl _) (.int .i64 kd)).setCell (p := ⟨w.heap.size, k * 5 + 1, none⟩) (Nat.le_refl _) (.string nm)).setCell (p := ⟨w.heap.size, k * 5 + 2, none⟩) (Nat.le_refl _) (.slice sa at'.length sc)).setCell (p := ⟨w.heap.size, k * 5 + 3, none⟩) (Nat.le_refl _) (.string tx)).setCell (p := ⟨w.heap.size, k * 5 + 4, none⟩) (Nat.le_refl _) (.bool sf))
      have HO3 : Hid (OwnEach _ w.heap.size (L ++ [((kd, nm, at', tx, sf), Value.slice sa at'.length sc)])) := HOn.grown (grown_trans (grown_trans (grown_trans (grown_trans (grown_set w1 w.heap.size (k * 5) (.int .i64 kd)) (grown_set _ w.heap.size (k * 5 + 1) (.string nm))) (grown_set _ w.heap.size (k * 5 + 2) (.slice sa at'.length sc))) (grown_set _ w.heap.size (k * 5 + 3) (.string tx))) (grown_set _ w.heap.size (k * 5 + 4) (.bool sf))) hty
      have HM3 : Hid ((L ++ [((kd, nm, at', tx, sf), Value.slice sa at'.length sc)]).map (·.1) = l.take (k + 1)) := by
        show _ = _
        rw [Htake.out, ← Hmap.out]
        simp
      clear hr1 HOn hty b1 Htake Hmap
      go_wp2_with fail
      go_roundw
      case rel =>
        refine ⟨k + 1, L ++ [((kd, nm, at', tx, sf), Value.slice sa at'.length sc)], by omega, by go_num, by rw [List.length_append, hLk]; rfl, HM3, ?_, HO3, b3⟩
        refine Hr3.out.congr fun j hj => ?_
        have tg : ∀ i, i < 5 → (tokCells (L ++ [((kd, nm, at', tx, sf), Value.slice sa at'.length sc)]))[k * 5 + i]? = (tokV ((kd, nm, at', tx, sf), Value.slice sa at'.length sc))[i]? := fun i hi => by rw [← hLk]; exact tok_get hi
        by_cases q4 : j = k * 5 + 4
        · subst q4
          rw [if_pos rfl, if_pos (by omega), tg 4 (by omega)]
          rfl
        · by_cases q3 : j = k * 5 + 3
          · subst q3
            rw [if_neg (by omega), if_pos rfl, if_pos (by omega), tg 3 (by omega)]
            rfl
          · by_cases q2 : j = k * 5 + 2
            · subst q2
              rw [if_neg (by omega), if_neg (by omega), if_pos rfl, if_pos (by omega), tg 2 (by omega)]
              rfl
            · by_cases q1 : j = k * 5 + 1
              · subst q1
                rw [if_neg (by omega), if_neg (by omega), if_neg (by omega), if_pos rfl, if_pos (by omega), tg 1 (by omega)]
                rfl
              · by_cases q0 : j = k * 5
                · subst q0
                  rw [if_neg (by omega), if_neg (by omega), if_neg (by omega), if_neg (by omega), if_pos rfl, if_pos (by omega)]
                  have := tg 0 (by omega)
                  rw [Nat.add_zero] at this
                  rw [this]
                  rfl
                · rw [if_neg q4, if_neg q3, if_neg q2, if_neg q1, if_neg q0]
                  by_cases q5 : j < 5 * k
                  · rw [if_pos q5, if_pos (by omega), tok_old (by rw [hLk]; omega)]
                  · rw [if_neg q5, if_neg (by omega)]
      case measure => simp [intOf]; omega
    · have hkn : k = n := by omega
      subst hkn
      have g2 : decide ((k : Int) < (k : Int)) = false := by simp
      go_wp2
      go_ret
      refine ⟨rfl, ⟨L, ?_, ?_, HO.out⟩, hbel⟩
      · rw [Hmap.out, List.take_of_length_le (by rw [Hl.out]; exact Nat.le_refl _)]
      · rw [hLk]
        refine own_of_list (Nat.le_refl _) (by unfold maxLen; omega) Hrow.out (by rw [tokCells_length, hLk]) (fun j hj => ?_)
        rw [if_pos (by omega)]
        have hj2 : j < (tokCells L).length := by rw [tokCells_length, hLk]; exact hj
        simp [hj2]

end Go.Proofs.YtploagieecepfaaDoor.Sg
