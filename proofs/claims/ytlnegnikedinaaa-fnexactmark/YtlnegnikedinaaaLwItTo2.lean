/- The laws' slices of items, laid anew. -/
import Derived.Test.YtlnegnikedinaaaLwItTo
namespace Go.Proofs.Ytlnegnikedinaaa.Sg
open Go.ChangeShapes Go.WideShapes Go.ChangeAt Go.RowKit

theorem info_it' : (Try.prog.info? 50).map (fun i => (i.zero, i.size, i.bytes)) = some (some (.agg #[.int .i64 0, .int .i64 0, .string ⟨#[]⟩, .slice none 0 0, .string ⟨#[]⟩, .int .i64 0, .slice none 0 0]), 7, 104) := by kernel_rfl

def itZ : Array Value := #[.int .i64 0, .int .i64 0, .string ⟨#[]⟩, .slice none 0 0, .string ⟨#[]⟩, .int .i64 0, .slice none 0 0]
def itZf (j : Nat) : Value := itZ[j % 7]!

theorem make_its (n : Nat) (hn : n ≤ 1099511627776) (w : World) :
    (Instr.makeSlice 22 (.int .i64 (n : Int)) (.int .i64 (n : Int))).run Try.prog w = .ok (.slice (some ⟨w.heap.size, 0, none⟩) n n) (w.alloc (.cells (madeCells itZ (n * 7)) 50)) := by
  obtain ⟨i, hi, hz, hs, hb⟩ := info_parts info_it'
  have hr := run_make (P := Try.prog) w 22 50 i _ Try.underlying22 hi hz .i64 .i64 n n (by omega) (Int.le_refl _) (by rw [hb]; omega) (by omega)
  simp only [Int.toNat_natCast, hs] at hr
  exact hr
theorem made_seven (w : World) (m : Nat) (t : TypeId) : (w.alloc (.cells (madeCells itZ m) t)).rowIs w.heap.size t m itZf := by
  have h := World.rowIs_alloc w (madeCells itZ m) t itZf (fun i hi => by
    rw [size_madeCells] at hi
    simp [madeCells, hi, itZf, itZ])
  rw [size_madeCells] at h
  exact h

theorem it_get {L : List (ItB × Value × Value)} {p : ItB × Value × Value} {j : Nat} (h : j < 7) : (itCells (L ++ [p]))[L.length * 7 + j]? = (itV p)[j]? := by
  have hk : L.length < (L ++ [p]).length := by simp
  rw [itCells_at (L ++ [p]) L.length j hk h]
  simp
theorem it_old {L : List (ItB × Value × Value)} {p : ItB × Value × Value} {j : Nat} (h : j < L.length * 7) : (itCells (L ++ [p]))[j]? = (itCells L)[j]? := by
  rw [itCells_more, List.getElem?_append_left (by rw [itCells_length]; exact h)]

theorem OwnEachI.grown {w w' : World} {B : Nat} {L : List (ItB × Value × Value)} {r : Option Nat} (h : OwnEachI w B L) (hg : w.grownBy w' r) (hne : ∀ p ∈ L, (∀ b, p.2.1.ownBlock = some b → r ≠ some b) ∧ (∀ b, p.2.2.ownBlock = some b → r ≠ some b)) : OwnEachI w' B L :=
  ⟨fun p hp => ⟨owns_grown (h.1 p hp).1 hg (hne p hp).1, owns_grown (h.1 p hp).2 hg (hne p hp).2⟩, h.2⟩

set_option maxRecDepth 20000 in
set_option maxHeartbeats 8000000 in
theorem toItemS_any (l : List ItB) (a : Option Addr) (n cap : Nat) (w : World) (ha : ItsIn w a l) (hl : l.length = n) (hn : n ≤ 1099511627776) (hat : ∀ t ∈ l, t.ats.length ≤ 1099511627776 ∧ t.kids.length ≤ 1099511627776) :
    Calls Try.prog 20 #[.slice a n cap] w fun e w' => e = .returned (.slice (some ⟨w.heap.size, 0, none⟩) n n) ∧ OwnIts w' w.heap.size (.slice (some ⟨w.heap.size, 0, none⟩) n n) l ∧ Below w.heap.size w w' := by
  have Ha : Hid (ItsIn w a l) := ha
  have Hl : Hid (l.length = n) := hl
  have Hat : Hid (∀ t ∈ l, t.ats.length ≤ 1099511627776 ∧ t.kids.length ≤ 1099511627776) := hat
  have hmk := make_its n hn
  have hmade : Hid ((w.alloc (.cells (madeCells itZ (n * 7)) 50)).rowIs w.heap.size 50 (n * 7) (fun j => if j < 7 * 0 then ((itCells [])[j]?).getD (itZf j) else itZf j)) := by
    show World.rowIs _ _ _ _ _
    simpa using made_seven w (n * 7) 50
  have hbel0 : Below w.heap.size w (w.alloc (.cells (madeCells itZ (n * 7)) 50)) := (Below.refl _ _).alloc (Nat.le_refl _) _
  have hO : Hid (OwnEachI (w.alloc (.cells (madeCells itZ (n * 7)) 50)) w.heap.size []) := ⟨fun _ h => absurd h List.not_mem_nil, List.Pairwise.nil⟩
  clear ha hl hat
  go_enter Try.func20, Try.ntmps20
  go_wp2
  go_loopw [4] (fun i wr => ∃ (k : Nat) (L : List (ItB × Value × Value)), k ≤ n ∧ i = .int .i64 k ∧ L.length = k ∧ Hid (L.map (·.1) = l.take k) ∧ Hid (wr.rowIs w.heap.size 50 (n * 7) (fun j => if j < 7 * k then ((itCells L)[j]?).getD (itZf j) else itZf j)) ∧ Hid (OwnEachI wr w.heap.size L) ∧ Below w.heap.size w wr) (fun i _ => n - (intOf i).toNat)
  case atStart => exact ⟨0, [], Nat.zero_le _, rfl, rfl, rfl, hmade, hO, hbel0⟩
  case round =>
    obtain ⟨k, L, hk, rfl, hLk, Hmap, Hrow, HO, hbel⟩ := hrel
    clear hmade hbel0 hmk hO
    by_cases hlt : k < n
    · have hkl : k < l.length := by rw [Hl.out]; exact hlt
      rcases Ha.out.keep hbel with h | ⟨b, off, rfl, hb, hc⟩
      · rw [h] at hkl
        exact absurd hkl (Nat.not_lt_zero _)
      obtain ⟨c0, c1, c2, ⟨sv, c3, hS⟩, c4, c5, ⟨kv, c6, hI⟩⟩ := hc k hkl
      have Htake : Hid (l.take (k + 1) = l.take k ++ [l[k]'hkl]) := by
        show _ = _
        rw [List.take_add_one, List.getElem?_eq_getElem hkl]
        rfl
      have hp := Hat.out _ (List.getElem_mem hkl)
      clear hc
      generalize l[k]'hkl = p at *
      clear hkl
      have Hs := toItem_any p sv kv wr hS hI hp.1 hp.2
      clear hS hI hp
      have k0 : (0 : Int) ≤ (k : Int) := by omega
      have k1 : (k : Int) < (n : Int) := by omega
      have hsz := hbel.size
      obtain ⟨kd, sp, nm, at', tx, up, kids⟩ := p
      simp only [itV] at Hs
      simp only at c0 c1 c2 c4 c5
      go_wp2_with fail
      refine Hs.mono ?_
      rintro e w1 ⟨sv', kv', rfl, o1, q1, b1⟩
      obtain ⟨sa, sc, esv, _⟩ := room_of_own o1
      subst esv
      obtain ⟨ka, kc, ekv, _⟩ := ints_of_own q1
      subst ekv
      have hr1 := rowIs_below Hrow.out b1
      have HO1 := HO.out.keep b1
      have hfar : ∀ q ∈ L, (∀ bb, q.2.1.ownBlock = some bb → (Value.slice sa at'.length sc).ownBlock ≠ some bb) ∧ (∀ bb, q.2.2.ownBlock = some bb → (Value.slice ka kids.length kc).ownBlock ≠ some bb) := fun q hq => ⟨fun bb hbb h2 => by
        have h3 := ((HO.out.1 q hq).1.lt bb hbb).2
        have h4 := (o1.lt bb h2).1
        omega, fun bb hbb h2 => by
        have h3 := ((HO.out.1 q hq).2.lt bb hbb).2
        have h4 := (q1.lt bb h2).1
        omega⟩
      have o1' := own_mono o1 hsz
      have q1' := own_mono q1 hsz
      have HOn : OwnEachI w1 w.heap.size (L ++ [(⟨kd, sp, nm, at', tx, up, kids⟩, Value.slice sa at'.length sc, Value.slice ka kids.length kc)]) := by
        refine ⟨fun q hq => ?_, ?_⟩
        · rcases List.mem_append.1 hq with h | h
          · exact HO1.1 q h
          · rw [List.mem_singleton.1 h]
            exact ⟨o1', q1'⟩
        · rw [List.pairwise_append]
          refine ⟨HO1.2, List.pairwise_singleton _ _, fun q hq r hr => ?_⟩
          rw [List.mem_singleton.1 hr]
          exact hfar q hq
      have hty : ∀ q ∈ L ++ [(⟨kd, sp, nm, at', tx, up, kids⟩, Value.slice sa at'.length sc, Value.slice ka kids.length kc)], (∀ bb, q.2.1.ownBlock = some bb → some w.heap.size ≠ some bb) ∧ (∀ bb, q.2.2.ownBlock = some bb → some w.heap.size ≠ some bb) := fun q hq => by
        obtain ⟨cc, hcc, _, _⟩ := hr1
        exact ⟨fun bb hbb h2 => owns_not (HOn.1 q hq).1 hcc it_type.1 (by rw [hbb]; exact h2.symm), fun bb hbb h2 => owns_not (HOn.1 q hq).2 hcc it_type.2.1 (by rw [hbb]; exact h2.symm)⟩
      clear HO1 hfar o1 o1' q1 q1'
      have d0 := hr1.cell (i := k * 7) (by omega)
      have d1 := hr1.cell (i := k * 7 + 1) (by omega)
      have d2 := hr1.cell (i := k * 7 + 2) (by omega)
      have d3 := hr1.cell (i := k * 7 + 3) (by omega)
      have d4 := hr1.cell (i := k * 7 + 4) (by omega)
      have d5 := hr1.cell (i := k * 7 + 5) (by omega)
      have d6 := hr1.cell (i := k * 7 + 6) (by omega)
      have f0 := hr1.frozen (k * 7)
      have f1 := hr1.frozen (k * 7 + 1)
      have f2 := hr1.frozen (k * 7 + 2)
      have f3 := hr1.frozen (k * 7 + 3)
      have f4 := hr1.frozen (k * 7 + 4)
      have f5 := hr1.frozen (k * 7 + 5)
      have f6 := hr1.frozen (k * 7 + 6)
      rw [if_neg (by omega)] at d0 d1 d2 d3 d4 d5 d6
      generalize itZf (k * 7) = u0 at d0
      generalize itZf (k * 7 + 1) = u1 at d1
      generalize itZf (k * 7 + 2) = u2 at d2
      generalize itZf (k * 7 + 3) = u3 at d3
      generalize itZf (k * 7 + 4) = u4 at d4
      generalize itZf (k * 7 + 5) = u5 at d5
      generalize itZf (k * 7 + 6) = u6 at d6
      have Hr3 : Hid (World.rowIs _ w.heap.size 50 (n * 7) _) := (((((((hr1.set (k * 7) (.int .i64 kd)).set (k * 7 + 1) (.int .i64 sp)).set (k * 7 + 2) (.string nm)).set (k * 7 + 3) (.slice sa at'.length sc)).set (k * 7 + 4) (.string tx)).set (k * 7 + 5) (.int .i64 up)).set (k * 7 + 6) (.slice ka kids.length kc))
      have b3 := ((((((((hbel.trans (b1.mono hsz)).setCell (p := ⟨w.heap.size, k * 7, none⟩) (Nat.le_refl _) (.int .i64 kd)).setCell (p := ⟨w.heap.size, k * 7 + 1, none⟩) (Nat.le_refl _) (.int .i64 sp)).setCell (p := ⟨w.heap.size, k * 7 + 2, none⟩) (Nat.le_refl _) (.string nm)).setCell (p := ⟨w.heap.size, k * 7 + 3, none⟩) (Nat.le_refl _) (.slice sa at'.length sc)).setCell (p := ⟨w.heap.size, k * 7 + 4, none⟩) (Nat.le_refl _) (.string tx)).setCell (p := ⟨w.heap.size, k * 7 + 5, none⟩) (Nat.le_refl _) (.int .i64 up)).setCell (p := ⟨w.heap.size, k * 7 + 6, none⟩) (Nat.le_refl _) (.slice ka kids.length kc))
      have HO3 : Hid (OwnEachI _ w.heap.size (L ++ [(⟨kd, sp, nm, at', tx, up, kids⟩, Value.slice sa at'.length sc, Value.slice ka kids.length kc)])) := HOn.grown (grown_trans (grown_trans (grown_trans (grown_trans (grown_trans (grown_trans (grown_set w1 w.heap.size (k * 7) (.int .i64 kd)) (grown_set _ w.heap.size (k * 7 + 1) (.int .i64 sp))) (grown_set _ w.heap.size (k * 7 + 2) (.string nm))) (grown_set _ w.heap.size (k * 7 + 3) (.slice sa at'.length sc))) (grown_set _ w.heap.size (k * 7 + 4) (.string tx))) (grown_set _ w.heap.size (k * 7 + 5) (.int .i64 up))) (grown_set _ w.heap.size (k * 7 + 6) (.slice ka kids.length kc))) hty
      have HM3 : Hid ((L ++ [((⟨kd, sp, nm, at', tx, up, kids⟩ : ItB), Value.slice sa at'.length sc, Value.slice ka kids.length kc)]).map (·.1) = l.take (k + 1)) := by
        show _ = _
        rw [Htake.out, ← Hmap.out]
        simp
      clear hr1 HOn hty b1 Htake Hmap
      go_wp2_with fail
      go_roundw
      case rel =>
        refine ⟨k + 1, L ++ [(⟨kd, sp, nm, at', tx, up, kids⟩, Value.slice sa at'.length sc, Value.slice ka kids.length kc)], by omega, by go_num, by rw [List.length_append, hLk]; rfl, HM3, ?_, HO3, b3⟩
        refine Hr3.out.congr fun j hj => ?_
        have tg : ∀ i, i < 7 → (itCells (L ++ [((⟨kd, sp, nm, at', tx, up, kids⟩ : ItB), Value.slice sa at'.length sc, Value.slice ka kids.length kc)]))[k * 7 + i]? = (itV (⟨kd, sp, nm, at', tx, up, kids⟩, Value.slice sa at'.length sc, Value.slice ka kids.length kc))[i]? := fun i hi => by rw [← hLk]; exact it_get hi
        by_cases q6 : j = k * 7 + 6
        · subst q6
          rw [if_pos rfl, if_pos (by omega), tg 6 (by omega)]
          rfl
        by_cases q5 : j = k * 7 + 5
        · subst q5
          rw [if_neg (by omega), if_pos rfl, if_pos (by omega), tg 5 (by omega)]
          rfl
        by_cases q4 : j = k * 7 + 4
        · subst q4
          rw [if_neg (by omega), if_neg (by omega), if_pos rfl, if_pos (by omega), tg 4 (by omega)]
          rfl
        by_cases q3 : j = k * 7 + 3
        · subst q3
          rw [if_neg (by omega), if_neg (by omega), if_neg (by omega), if_pos rfl, if_pos (by omega), tg 3 (by omega)]
          rfl
        by_cases q2 : j = k * 7 + 2
        · subst q2
          rw [if_neg (by omega), if_neg (by omega), if_neg (by omega), if_neg (by omega), if_pos rfl, if_pos (by omega), tg 2 (by omega)]
          rfl
        by_cases q1 : j = k * 7 + 1
        · subst q1
          rw [if_neg (by omega), if_neg (by omega), if_neg (by omega), if_neg (by omega), if_neg (by omega), if_pos rfl, if_pos (by omega), tg 1 (by omega)]
          rfl
        by_cases q0 : j = k * 7
        · subst q0
          rw [if_neg (by omega), if_neg (by omega), if_neg (by omega), if_neg (by omega), if_neg (by omega), if_neg (by omega), if_pos rfl, if_pos (by omega)]
          have := tg 0 (by omega)
          rw [Nat.add_zero] at this
          rw [this]
          rfl
        rw [if_neg q6, if_neg q5, if_neg q4, if_neg q3, if_neg q2, if_neg q1, if_neg q0]
        by_cases q7 : j < 7 * k
        · rw [if_pos q7, if_pos (by omega), it_old (by rw [hLk]; omega)]
        · rw [if_neg q7, if_neg (by omega)]
      case measure => simp [intOf]; omega
    · have hkn : k = n := by omega
      subst hkn
      have g2 : decide ((k : Int) < (k : Int)) = false := by simp
      go_wp2
      go_ret
      refine ⟨rfl, ⟨L, ?_, ?_, HO.out⟩, hbel⟩
      · rw [Hmap.out, List.take_of_length_le (by rw [Hl.out]; exact Nat.le_refl _)]
      · rw [hLk]
        refine own_of_list (Nat.le_refl _) (by unfold maxLen; omega) Hrow.out (by rw [itCells_length, hLk]) (fun j hj => ?_)
        rw [if_pos (by omega)]
        have hj2 : j < (itCells L).length := by rw [itCells_length, hLk]; exact hj
        simp [hj2]

end Go.Proofs.Ytlnegnikedinaaa.Sg
