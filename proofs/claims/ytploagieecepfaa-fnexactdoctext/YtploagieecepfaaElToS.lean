/- The laws' slices of elements, laid anew; one and several, joined. -/
import Derived.Test.YtploagieecepfaaElTo
namespace Go.Proofs.Ytploagieecepfaa.Sg
open Go.ChangeShapes Go.WideShapes Go.ChangeAt Go.RowKit

theorem info_el : (Try.prog.info? 35).map (fun i => (i.zero, i.size, i.bytes)) = some (some (.agg #[.int .i64 0, .int .i64 0, .string ⟨#[]⟩, .slice none 0 0, .string ⟨#[]⟩, .slice none 0 0]), 6, 96) := by kernel_rfl
def elZ : Array Value := #[.int .i64 0, .int .i64 0, .string ⟨#[]⟩, .slice none 0 0, .string ⟨#[]⟩, .slice none 0 0]
def elZf (j : Nat) : Value := elZ[j % 6]!
theorem make_els (n : Nat) (hn : n ≤ 1099511627776) (w : World) :
    (Instr.makeSlice 25 (.int .i64 (n : Int)) (.int .i64 (n : Int))).run Try.prog w = .ok (.slice (some ⟨w.heap.size, 0, none⟩) n n) (w.alloc (.cells (madeCells elZ (n * 6)) 35)) := by
  obtain ⟨i, hi, hz, hs, hb⟩ := info_parts info_el
  have hr := run_make (P := Try.prog) w 25 35 i _ Try.underlying25 hi hz .i64 .i64 n n (by omega) (Int.le_refl _) (by rw [hb]; omega) (by omega)
  simp only [Int.toNat_natCast, hs] at hr
  exact hr
theorem made_six (w : World) (m : Nat) (t : TypeId) : (w.alloc (.cells (madeCells elZ m) t)).rowIs w.heap.size t m elZf := by
  have h := World.rowIs_alloc w (madeCells elZ m) t elZf (fun i hi => by
    rw [size_madeCells] at hi
    simp [madeCells, hi, elZf, elZ])
  rw [size_madeCells] at h
  exact h
/-- The value of six cells. -/
def sixV (C : List Value) (i : Nat) : Value := .agg #[C.getD (i * 6) undef, C.getD (i * 6 + 1) undef, C.getD (i * 6 + 2) undef, C.getD (i * 6 + 3) undef, C.getD (i * 6 + 4) undef, C.getD (i * 6 + 5) undef]
theorem getD_old {C D : List Value} {j : Nat} (h : j < C.length) : (C ++ D).getD j undef = C.getD j undef := by
  simp only [List.getD_eq_getElem?_getD]
  rw [List.getElem?_append_left h]
theorem getD_new {C D : List Value} {j : Nat} : (C ++ D).getD (C.length + j) undef = D.getD j undef := by
  simp only [List.getD_eq_getElem?_getD]
  rw [List.getElem?_append_right (by omega), show C.length + j - C.length = j by omega]

theorem getD_new0 {C D : List Value} : (C ++ D).getD C.length undef = D.getD 0 undef := getD_new (j := 0)

set_option maxRecDepth 20000 in
set_option maxHeartbeats 8000000 in
theorem toElS_of (l : List ElB) (hA : ∀ e ∈ l, ToElC e) : ToElSC l := by
  intro a n cap w ha hl hn hli
  have Ha : Hid (KidsIn SlAttrsIn anyB w a l) := ha
  have Hl : Hid (l.length = n) := hl
  have HL : Hid (ElsLight l) := hli
  have HA : Hid (∀ e ∈ l, ToElC e) := hA
  have hmk := make_els n hn
  have hmade : Hid ((w.alloc (.cells (madeCells elZ (n * 6)) 35)).rowIs w.heap.size 35 (n * 6) (fun j => if j < 6 * 0 then ([] : List Value).getD j undef else elZf j)) := by
    show World.rowIs _ _ _ _ _
    simpa using made_six w (n * 6) 35
  have hbel0 : Below w.heap.size w (w.alloc (.cells (madeCells elZ (n * 6)) 35)) := (Below.refl _ _).alloc (Nat.le_refl _) _
  have hs0 : w.heap.size + 1 ≤ (w.alloc (.cells (madeCells elZ (n * 6)) 35)).heap.size := by simp
  clear ha hl hli hA
  go_enter Try.func7, Try.ntmps7
  go_wp2
  go_loopw [4] (fun i wr => ∃ (k : Nat) (C : List Value), k ≤ n ∧ i = .int .i64 (k : Int) ∧ C.length = k * 6 ∧ Hid (wr.rowIs w.heap.size 35 (n * 6) (fun j => if j < 6 * k then C.getD j undef else elZf j)) ∧ Hid (∀ i (hi : i < l.length), i < k → ElV (QA (w.heap.size + 1)) (w.heap.size + 1 ≤ ·) wr (sixV C i) (l[i]'hi) ∧ CapV (w.heap.size + 1 ≤ ·) wr (sixV C i) (l[i]'hi)) ∧ w.heap.size + 1 ≤ wr.heap.size ∧ Below w.heap.size w wr) (fun i _ => n - (intOf i).toNat)
  case atStart => exact ⟨0, [], Nat.zero_le _, rfl, rfl, hmade, fun i _ h => absurd h (by omega), hs0, hbel0⟩
  case round =>
    obtain ⟨k, C, hk, rfl, hC, Hrow, HV, hs1, hbel⟩ := hrel
    clear hmade hbel0 hmk hs0
    by_cases hlt : k < n
    · have hkl : k < l.length := by rw [Hl.out]; exact hlt
      rcases Ha.out.keep lies_in hbel with h | ⟨b, off, rfl, _, hc⟩
      · rw [h] at hkl
        exact absurd hkl (Nat.not_lt_zero _)
      obtain ⟨v0, v1, v2, v3, v4, v5, c0, c1, c2, c3, c4, c5, hE⟩ := (hc.get k hkl).cells
      have Hs := HA.out _ (List.getElem_mem hkl) _ wr hE (HL.out.get _ (List.getElem_mem hkl))
      clear hc hE
      have k0 : (0 : Int) ≤ (k : Int) := by omega
      have k1 : (k : Int) < (n : Int) := by omega
      have hsz := hbel.size
      obtain ⟨p, Hp⟩ : ∃ p, Hid (l[k]'hkl = p) := ⟨_, rfl⟩
      rw [Hp.out] at Hs
      go_wp2_with fail
      refine Hs.mono ?_
      rintro e w1 ⟨v', rfl, hE1, hC1, b1⟩
      obtain ⟨kd, sp, nm, ats, tx, ks⟩ := p
      obtain ⟨av, ka, kc, rfl, hq, hks⟩ := hE1
      have hE1 : ElV (QA wr.heap.size) (wr.heap.size ≤ ·) w1 (.agg #[.int .i64 kd, .int .i64 sp, .string nm, av, .string tx, .slice ka ks.length kc]) (.mk kd sp nm ats tx ks) := ⟨av, ka, kc, rfl, hq, hks⟩
      obtain ⟨sa, sc, rfl⟩ := (QA.lies _).slice hq
      clear hq hks
      have hr1 := rowIs_below Hrow.out b1
      have d0 := hr1.cell (i := k * 6) (by omega)
      have d1 := hr1.cell (i := k * 6 + 1) (by omega)
      have d2 := hr1.cell (i := k * 6 + 2) (by omega)
      have d3 := hr1.cell (i := k * 6 + 3) (by omega)
      have d4 := hr1.cell (i := k * 6 + 4) (by omega)
      have d5 := hr1.cell (i := k * 6 + 5) (by omega)
      have f0 := hr1.frozen (k * 6)
      have f1 := hr1.frozen (k * 6 + 1)
      have f2 := hr1.frozen (k * 6 + 2)
      have f3 := hr1.frozen (k * 6 + 3)
      have f4 := hr1.frozen (k * 6 + 4)
      have f5 := hr1.frozen (k * 6 + 5)
      rw [if_neg (by omega)] at d0 d1 d2 d3 d4 d5
      generalize elZf (k * 6) = u0 at d0
      generalize elZf (k * 6 + 1) = u1 at d1
      generalize elZf (k * 6 + 2) = u2 at d2
      generalize elZf (k * 6 + 3) = u3 at d3
      generalize elZf (k * 6 + 4) = u4 at d4
      generalize elZf (k * 6 + 5) = u5 at d5
      have Hr3 : Hid (World.rowIs _ w.heap.size 35 (n * 6) _) := (((((hr1.set (k * 6) (.int .i64 kd)).set (k * 6 + 1) (.int .i64 sp)).set (k * 6 + 2) (.string nm)).set (k * 6 + 3) (.slice sa ats.length sc)).set (k * 6 + 4) (.string tx)).set (k * 6 + 5) (.slice ka ks.length kc)
      have b3 := ((((((hbel.trans (b1.mono hsz)).setCell (p := ⟨w.heap.size, k * 6, none⟩) (Nat.le_refl _) (.int .i64 kd)).setCell (p := ⟨w.heap.size, k * 6 + 1, none⟩) (Nat.le_refl _) (.int .i64 sp)).setCell (p := ⟨w.heap.size, k * 6 + 2, none⟩) (Nat.le_refl _) (.string nm)).setCell (p := ⟨w.heap.size, k * 6 + 3, none⟩) (Nat.le_refl _) (.slice sa ats.length sc)).setCell (p := ⟨w.heap.size, k * 6 + 4, none⟩) (Nat.le_refl _) (.string tx)).setCell (p := ⟨w.heap.size, k * 6 + 5, none⟩) (Nat.le_refl _) (.slice ka ks.length kc)
      have lt : w.heap.size < w.heap.size + 1 := Nat.lt_succ_self _
      have AG := (((((Agr.set w1 (k * 6) (.int .i64 kd) lt).trans (Agr.set _ (k * 6 + 1) (.int .i64 sp) lt)).trans (Agr.set _ (k * 6 + 2) (.string nm) lt)).trans (Agr.set _ (k * 6 + 3) (.slice sa ats.length sc) lt)).trans (Agr.set _ (k * 6 + 4) (.string tx) lt)).trans (Agr.set _ (k * 6 + 5) (.slice ka ks.length kc) lt)
      have hs3 : w.heap.size + 1 ≤ ((((((w1.setCell ⟨w.heap.size, k * 6, none⟩ (.int .i64 kd)).setCell ⟨w.heap.size, k * 6 + 1, none⟩ (.int .i64 sp)).setCell ⟨w.heap.size, k * 6 + 2, none⟩ (.string nm)).setCell ⟨w.heap.size, k * 6 + 3, none⟩ (.slice sa ats.length sc)).setCell ⟨w.heap.size, k * 6 + 4, none⟩ (.string tx)).setCell ⟨w.heap.size, k * 6 + 5, none⟩ (.slice ka ks.length kc)).heap.size := Nat.le_trans hs1 (Nat.le_trans b1.size AG.2)
      have HV3 : Hid (∀ i (hi : i < l.length), i < k + 1 → ElV (QA (w.heap.size + 1)) (w.heap.size + 1 ≤ ·) ((((((w1.setCell ⟨w.heap.size, k * 6, none⟩ (.int .i64 kd)).setCell ⟨w.heap.size, k * 6 + 1, none⟩ (.int .i64 sp)).setCell ⟨w.heap.size, k * 6 + 2, none⟩ (.string nm)).setCell ⟨w.heap.size, k * 6 + 3, none⟩ (.slice sa ats.length sc)).setCell ⟨w.heap.size, k * 6 + 4, none⟩ (.string tx)).setCell ⟨w.heap.size, k * 6 + 5, none⟩ (.slice ka ks.length kc)) (sixV (C ++ [.int .i64 kd, .int .i64 sp, .string nm, .slice sa ats.length sc, .string tx, .slice ka ks.length kc]) i) (l[i]'hi) ∧ CapV (w.heap.size + 1 ≤ ·) ((((((w1.setCell ⟨w.heap.size, k * 6, none⟩ (.int .i64 kd)).setCell ⟨w.heap.size, k * 6 + 1, none⟩ (.int .i64 sp)).setCell ⟨w.heap.size, k * 6 + 2, none⟩ (.string nm)).setCell ⟨w.heap.size, k * 6 + 3, none⟩ (.slice sa ats.length sc)).setCell ⟨w.heap.size, k * 6 + 4, none⟩ (.string tx)).setCell ⟨w.heap.size, k * 6 + 5, none⟩ (.slice ka ks.length kc)) (sixV (C ++ [.int .i64 kd, .int .i64 sp, .string nm, .slice sa ats.length sc, .string tx, .slice ka ks.length kc]) i) (l[i]'hi)) := by
        intro i hi hik
        by_cases hlast : i = k
        · subst hlast
          rw [Hp.out]
          have e : sixV (C ++ [.int .i64 kd, .int .i64 sp, .string nm, .slice sa ats.length sc, .string tx, .slice ka ks.length kc]) i = .agg #[.int .i64 kd, .int .i64 sp, .string nm, .slice sa ats.length sc, .string tx, .slice ka ks.length kc] := by
            unfold sixV
            rw [← hC, getD_new0, getD_new, getD_new, getD_new, getD_new, getD_new]
            rfl
          rw [e]
          exact ⟨(hE1.wider (fun v l hq => hq.wider hs1) (fun b hb => Nat.le_trans hs1 hb)).agree (QA.liesP _) AG.1 AG.2, (hC1.agree (fun b hb => Nat.le_trans hs1 hb) fun b hb => rfl).agree (fun b hb => hb) AG.1⟩
        · have h := HV.out i hi (by omega)
          have e : sixV (C ++ [.int .i64 kd, .int .i64 sp, .string nm, .slice sa ats.length sc, .string tx, .slice ka ks.length kc]) i = sixV C i := by
            unfold sixV
            rw [getD_old (by omega), getD_old (by omega), getD_old (by omega), getD_old (by omega), getD_old (by omega), getD_old (by omega)]
          rw [e]
          exact ⟨(h.1.keep (QA.lies _) b1).agree (QA.liesP _) AG.1 AG.2, (h.2.keep b1).agree (fun b hb => hb) AG.1⟩
      clear hr1 hE1 hC1 b1 Hp HV AG lt
      go_wp2_with fail
      go_roundw
      case rel =>
        refine ⟨k + 1, C ++ [.int .i64 kd, .int .i64 sp, .string nm, .slice sa ats.length sc, .string tx, .slice ka ks.length kc], by omega, by go_num, by rw [List.length_append, hC]; simp; omega, ?_, HV3, hs3, b3⟩
        refine Hr3.out.congr fun j hj => ?_
        have tg : ∀ i, (C ++ [Value.int .i64 kd, .int .i64 sp, .string nm, .slice sa ats.length sc, .string tx, .slice ka ks.length kc]).getD (k * 6 + i) undef = ([.int .i64 kd, .int .i64 sp, .string nm, .slice sa ats.length sc, .string tx, .slice ka ks.length kc] : List Value).getD i undef := fun i => by rw [← hC]; exact getD_new
        by_cases q5 : j = k * 6 + 5
        · subst q5
          rw [if_pos rfl, if_pos (by omega), tg 5]
          rfl
        by_cases q4 : j = k * 6 + 4
        · subst q4
          rw [if_neg (by omega), if_pos rfl, if_pos (by omega), tg 4]
          rfl
        by_cases q3 : j = k * 6 + 3
        · subst q3
          rw [if_neg (by omega), if_neg (by omega), if_pos rfl, if_pos (by omega), tg 3]
          rfl
        by_cases q2 : j = k * 6 + 2
        · subst q2
          rw [if_neg (by omega), if_neg (by omega), if_neg (by omega), if_pos rfl, if_pos (by omega), tg 2]
          rfl
        by_cases q1 : j = k * 6 + 1
        · subst q1
          rw [if_neg (by omega), if_neg (by omega), if_neg (by omega), if_neg (by omega), if_pos rfl, if_pos (by omega), tg 1]
          rfl
        by_cases q0 : j = k * 6
        · subst q0
          rw [if_neg (by omega), if_neg (by omega), if_neg (by omega), if_neg (by omega), if_neg (by omega), if_pos rfl, if_pos (by omega)]
          have := tg 0
          rw [Nat.add_zero] at this
          rw [this]
          rfl
        rw [if_neg q5, if_neg q4, if_neg q3, if_neg q2, if_neg q1, if_neg q0]
        by_cases q7 : j < 6 * k
        · rw [if_pos q7, if_pos (by omega), getD_old (by omega)]
        · rw [if_neg q7, if_neg (by omega)]
      case measure => simp [intOf]; omega
    · have hkn : k = n := by omega
      subst hkn
      have g2 : decide ((k : Int) < (k : Int)) = false := by simp
      go_wp2
      go_ret
      by_cases h0 : k = 0
      · exact ⟨rfl, .inl (by rw [Hl.out]; exact h0), .inl (by rw [Hl.out]; exact h0), hbel⟩
      · have cell : ∀ i j, i < k → j < 6 → wr.cell? ⟨w.heap.size, i * 6 + j, none⟩ = some (C.getD (i * 6 + j) undef) := fun i j hi hj => by
          have := Hrow.out.cell (i := i * 6 + j) (by omega)
          rw [if_pos (by omega)] at this
          exact this
        refine ⟨rfl, .inr ⟨w.heap.size, 0, rfl, Nat.le_refl _, ElsIn.of fun i hi => ?_⟩, .inr ⟨w.heap.size, 0, rfl, Nat.le_refl _, CapS.of fun i hi => ?_⟩, hbel⟩
        · have hik : i < k := by rw [← Hl.out]; exact hi
          have h := (HV.out i hi hik).1.wider (Q' := QA w.heap.size) (P' := (w.heap.size ≤ ·)) (fun v l hq => hq.wider (Nat.le_succ _)) (fun b hb => Nat.le_trans (Nat.le_succ _) hb)
          rw [Nat.zero_add]
          exact ElV.cells h (cell i 0 hik (by omega)) (cell i 1 hik (by omega)) (cell i 2 hik (by omega)) (cell i 3 hik (by omega)) (cell i 4 hik (by omega)) (cell i 5 hik (by omega))
        · have hik : i < k := by rw [← Hl.out]; exact hi
          rw [Nat.zero_add]
          exact CapV.cells ((HV.out i hi hik).2.agree (fun b hb => Nat.le_trans (Nat.le_succ _) hb) fun b hb => rfl) (cell i 5 hik (by omega))

mutual
theorem toEl_cap : ∀ e : ElB, ToElC e
  | .mk kd sp nm ats tx ks => toEl_of kd sp nm ats tx ks (toElS_of ks (toEl_all ks))
theorem toEl_all : ∀ es : List ElB, ∀ e ∈ es, ToElC e
  | [], _, h => nomatch h
  | x :: xs, e, h => (List.mem_cons.1 h).elim (fun he => he ▸ toEl_cap x) (fun hm => toEl_all xs e hm)
end
theorem toElS_cap (es : List ElB) : ToElSC es := toElS_of es fun e _ => toEl_cap e
theorem toEl_any (e : ElB) : ToEl e := fun v w h hl => (toEl_cap e v w h hl).mono fun _ _ ⟨v', e1, h1, _, h3⟩ => ⟨v', e1, h1, h3⟩
theorem toElS_any (es : List ElB) : ToElS es := fun a n cap w h1 h2 h3 h4 => (toElS_cap es a n cap w h1 h2 h3 h4).mono fun _ _ h => ⟨h.1, h.2.1, h.2.2.2⟩

end Go.Proofs.Ytploagieecepfaa.Sg
