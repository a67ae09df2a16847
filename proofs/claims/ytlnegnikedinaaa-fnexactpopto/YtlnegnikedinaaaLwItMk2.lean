/- Contract of the laws' marks of items. -/
import Derived.Test.YtlnegnikedinaaaLwItMk
namespace Go.Proofs.Ytlnegnikedinaaa.Sg
open Go.ChangeShapes Go.WideShapes Go.ChangeAt Go.RowKit

theorem MkSt.start {B g cap n : Nat} {L0 : List It3} {w wr : World} {L : List It3} (h : MkSt B g cap n L0 w wr L) {i : Nat} (hi : i < L.length) : MkSt B g cap n L0 w wr (L.set i (L[i]'hi)) := by
  rw [List.set_getElem_self]
  exact h
theorem MkSt.cell' {B g cap n : Nat} {L0 : List It3} {w wr : World} {L : List It3} {p0 : It3} {i : Nat} (hi : i < L.length) (h : MkSt B g cap n L0 w wr (L.set i p0)) {c : Nat} (hc : c < 7) : wr.cell? ⟨g, i * 7 + c, none⟩ = (itV p0)[c]? ∧ wr.frozen? ⟨g, i * 7 + c, none⟩ = false := by
  have h1 := h.cell (i := i) (by simpa using hi) hc
  rwa [List.getElem_set_self] at h1
theorem MkSt.put' {B g cap n : Nat} {L0 : List It3} {w wr : World} {L : List It3} {p0 : It3} {i : Nat} (hi : i < L.length) (h : MkSt B g cap n L0 w wr (L.set i p0)) {c : Nat} (hc : c < 7) (p : It3) (x : Value) (hv : itV p = (itV p0).set c x) (hp : p.2 = p0.2) (ha : p.1.ats = p0.1.ats) (hk : p.1.kids = p0.1.kids) :
    MkSt B g cap n L0 w (wr.setCell ⟨g, i * 7 + c, none⟩ x) (L.set i p) := by
  have h1 := h.put (i := i) (by simpa using hi) hc p x (by rw [List.getElem_set_self]; exact hv) (by rw [List.getElem_set_self]; exact hp) (by rw [List.getElem_set_self]; exact ha) (by rw [List.getElem_set_self]; exact hk)
  rwa [List.set_set] at h1
theorem MkSt.rows' {B g cap n : Nat} {L0 : List It3} {w wr : World} {L : List It3} {p0 : It3} {i : Nat} (hi : i < L.length) (h : MkSt B g cap n L0 w wr (L.set i p0)) : wr.ownsRow B 84 2 p0.2.1 p0.1.ats.length (attrCells p0.1.ats) ∧ wr.ownsRow B 3 1 p0.2.2 p0.1.kids.length (intCellsI p0.1.kids) := by
  have h1 := h.each.1 _ (List.getElem_mem (l := L.set i p0) (n := i) (by simpa using hi))
  rwa [List.getElem_set_self] at h1
theorem MkSt.attrs' {B g cap n : Nat} {L0 : List It3} {w wr : World} {L : List It3} {p0 : It3} {i : Nat} (hi : i < L.length) (h : MkSt B g cap n L0 w wr (L.set i p0)) (p : It3) {w' : World} (hv : itV p = itV p0) (hp : p.2 = p0.2) (hk : p.1.kids = p0.1.kids)
    (ho : w'.ownsRow B 84 2 p0.2.1 p.1.ats.length (attrCells p.1.ats)) (hg : wr.grownBy w' p0.2.1.ownBlock) : MkSt B g cap n L0 w w' (L.set i p) := by
  have h1 := h.attrs (i := i) (by simpa using hi) p (w' := w') (by rw [List.getElem_set_self]; exact hv) (by rw [List.getElem_set_self]; exact hp) (by rw [List.getElem_set_self]; exact hk) (by rw [List.getElem_set_self]; exact ho) (by rw [List.getElem_set_self]; exact hg)
  rwa [List.set_set] at h1
theorem MkSt.kids' {B g cap n : Nat} {L0 : List It3} {w wr : World} {L : List It3} {p0 : It3} {i : Nat} (hi : i < L.length) (h : MkSt B g cap n L0 w wr (L.set i p0)) (p : It3) {w' : World} (hv : itV p = itV p0) (hp : p.2 = p0.2) (ha : p.1.ats = p0.1.ats)
    (ho : w'.ownsRow B 3 1 p0.2.2 p.1.kids.length (intCellsI p.1.kids)) (hg : wr.grownBy w' p0.2.2.ownBlock) : MkSt B g cap n L0 w w' (L.set i p) := by
  have h1 := h.kids (i := i) (by simpa using hi) p (w' := w') (by rw [List.getElem_set_self]; exact hv) (by rw [List.getElem_set_self]; exact hp) (by rw [List.getElem_set_self]; exact ha) (by rw [List.getElem_set_self]; exact ho) (by rw [List.getElem_set_self]; exact hg)
  rwa [List.set_set] at h1

theorem take_set_it {X : Type} (l m : List X) (i : Nat) (x : X) (hi : i < l.length) (hm : m.length = i) : (m ++ l.drop i).set i x = (m ++ [x]) ++ l.drop (i + 1) := by
  rw [List.set_append_right _ _ (by omega), List.drop_eq_getElem_cons hi, hm, Nat.sub_self, List.set_cons_zero, List.append_assoc]
  rfl

/-- The blocks of a slice of items, and of their lists. -/
def MkB (v : Value) (L : List It3) (b : Nat) : Prop := v.ownBlock = some b ∨ ∃ q ∈ L, q.2.1.ownBlock = some b ∨ q.2.2.ownBlock = some b
theorem MkB.of {g n c b : Nat} {L : List It3} (h : MkS g L b) : MkB (.slice (some ⟨g, 0, none⟩) n c) L b := h.imp (fun e => by rw [e]; rfl) id

set_option maxRecDepth 20000 in
set_option maxHeartbeats 8000000 in
theorem markItemS_any (L0 : List It3) (v : Value) (k B : Nat) (w : World) (hrow : w.ownsRow B 50 7 v L0.length (itCells L0)) (heach : OwnEachI w B L0) (hk : k ≤ 1048576) (hn : L0.length ≤ 1048576) (hm : markIs (L0.map (·.1)) ≤ 549755813888) (hat : ∀ q ∈ L0, q.1.ats.length ≤ 1048576 ∧ q.1.kids.length ≤ 1048576) :
    Calls Try.prog 24 #[v, .int .i64 (k : Int)] w fun e w' => e = .returned (.int .i64 ((k + markIs (L0.map (·.1)) : Nat) : Int)) ∧ ∃ L : List It3, L.map (·.1) = markIts k (L0.map (·.1)) ∧ L.map (·.2) = L0.map (·.2) ∧ w'.ownsRow B 50 7 v L0.length (itCells L) ∧ OwnEachI w' B L ∧ Kb w w' (MkB v L0) := by
  rcases hrow with ⟨hlc, ⟨rfl, h0⟩ | ⟨g, cap, cur, rfl, hrest⟩⟩
  · have : L0 = [] := List.eq_nil_of_length_eq_zero h0
    subst this
    go_enter Try.func24, Try.ntmps24
    go_wp2
    refine wp_loop_rounds 1 ?_
    rw [rounds_succ]
    go_wp2
    go_ret
    exact ⟨rfl, [], rfl, rfl, ⟨rfl, .inl ⟨rfl, rfl⟩⟩, heach, Kb.refl _ _⟩
  have hrow : w.ownsRow B 50 7 (.slice (some ⟨g, 0, none⟩) L0.length cap) L0.length (itCells L0) := ⟨hlc, .inr ⟨g, cap, cur, rfl, hrest⟩⟩
  clear hlc hrest
  obtain ⟨n, Hn⟩ : ∃ n, Hid (L0.length = n) := ⟨_, rfl⟩
  have Hat : Hid (∀ t ∈ L0.map (·.1), t.ats.length ≤ 1048576 ∧ t.kids.length ≤ 1048576) := fun t ht => by obtain ⟨q, hq, rfl⟩ := List.mem_map.1 ht; exact hat q hq
  have Hm : Hid (markIs (L0.map (·.1)) ≤ 549755813888) := hm
  clear hat hm
  rw [Hn.out] at hrow hn ⊢
  have HS : Hid (MkSt B g cap n L0 w w L0) := ⟨Hn.out, rfl, hrow, heach, Kb.refl _ _⟩
  clear hrow heach
  go_enter Try.func24, Try.ntmps24
  go_wp2
  go_loopw [1, 5] (fun kv iv wr => ∃ (i : Nat) (L : List It3), i ≤ n ∧ iv = .int .i64 (i : Int) ∧ kv = .int .i64 ((k + markIs ((L0.map (·.1)).take i) : Nat) : Int) ∧ Hid (L.map (·.1) = markIts k ((L0.map (·.1)).take i) ++ (L0.map (·.1)).drop i) ∧ Hid (MkSt B g cap n L0 w wr L)) (fun _ iv _ => n - (intOf iv).toNat)
  case atStart => exact ⟨0, L0, Nat.zero_le _, rfl, rfl, rfl, HS⟩
  case round =>
    clear HS
    obtain ⟨i, L, hi, rfl, rfl, Hmap, HS⟩ := hrel
    by_cases hlt : i < n
    · have hil : i < (L0.map (·.1)).length := by rw [List.length_map, Hn.out]; exact hlt
      have hiL : i < L.length := by rw [HS.out.len]; exact hlt
      have hmt : (markIts k ((L0.map (·.1)).take i)).length = i := by rw [markIts_length, List.length_take]; omega
      have hp1 : (L[i]'hiL).1 = (L0.map (·.1))[i]'hil := by
        have h1 : (L.map (·.1))[i]? = some ((L0.map (·.1))[i]'hil) := by
          rw [Hmap.out, List.getElem?_append_right (by omega), hmt, Nat.sub_self, List.getElem?_drop, Nat.add_zero, List.getElem?_eq_getElem hil]
        rw [List.getElem?_map, List.getElem?_eq_getElem hiL] at h1
        exact Option.some.inj h1
      obtain ⟨hsp1, hsp2⟩ := markIs_split (L0.map (·.1)) i hil
      have hlen := Hat.out _ (List.getElem_mem hil)
      have hmk := markIts_more ((L0.map (·.1)).take i) ((L0.map (·.1))[i]'hil) k
      have htk : (L0.map (·.1)).take (i + 1) = (L0.map (·.1)).take i ++ [(L0.map (·.1))[i]'hil] := by
        rw [List.take_add_one, List.getElem?_eq_getElem hil]
        rfl
      have hbig := Hm.out
      rw [← hp1] at hsp1 hsp2 hlen hmk htk
      obtain ⟨K, HK⟩ : ∃ K, Hid (k + markIs ((L0.map (·.1)).take i) = K) := ⟨_, rfl⟩
      rw [HK.out] at hmk ⊢
      have S0 := HS.out.start hiL
      have HL1 : Hid (∀ p : It3, (L.set i p).map (·.1) = (markIts k ((L0.map (·.1)).take i) ++ [p.1]) ++ (L0.map (·.1)).drop (i + 1)) := fun p => by
        rw [List.map_set, Hmap.out, take_set_it _ _ i _ hil hmt]
      obtain ⟨⟨⟨kd, sp, nm, ats, tx, up, kids⟩, sv, kv⟩, hpe⟩ : ∃ p : It3, L[i]'hiL = p := ⟨_, rfl⟩
      rw [hpe] at S0 hsp1 hsp2 hlen hmk htk
      have HE1 : Hid (markIs ((L0.map (·.1)).take (i + 1)) = markIs ((L0.map (·.1)).take i) + (5 + 2 * ats.length + kids.length)) := hsp2
      have HMK : Hid (markIts k ((L0.map (·.1)).take (i + 1)) = markIts k ((L0.map (·.1)).take i) ++ [markIt K ⟨kd, sp, nm, ats, tx, up, kids⟩]) := by show _ = _; rw [htk]; exact hmk
      have hKb : K ≤ 549756862464 := by rw [← HK.out]; omega
      simp only at hlen
      obtain ⟨ha, hc⟩ := hlen
      have hiL' : Hid (i < L.length) := hiL
      clear hsp1 hsp2 hmk htk hp1 hpe Hmap HS hmt
      have rr := S0.rows' hiL
      simp only at rr
      obtain ⟨sa, sc, rfl, _⟩ := attrs_of_own rr.1
      obtain ⟨ka, kc, rfl, _, _⟩ := ints_of_own rr.2
      clear rr
      have c0 : wr.cell? ⟨g, i * 7, none⟩ = some (.int .i64 kd) := (S0.cell' hiL (c := 0) (by omega)).1
      have f0 : wr.frozen? ⟨g, i * 7, none⟩ = false := (S0.cell' hiL (c := 0) (by omega)).2
      have c1 : wr.cell? ⟨g, i * 7 + 1, none⟩ = some (.int .i64 sp) := (S0.cell' hiL (c := 1) (by omega)).1
      have f1 : wr.frozen? ⟨g, i * 7 + 1, none⟩ = false := (S0.cell' hiL (c := 1) (by omega)).2
      have S1 : MkSt B g cap n L0 w (wr.setCell ⟨g, i * 7, none⟩ (.int .i64 (K : Int))) (L.set i (⟨(K : Int), sp, nm, ats, tx, up, kids⟩, .slice sa ats.length sc, .slice ka kids.length kc)) := S0.put' hiL (c := 0) (by omega) _ _ rfl rfl rfl rfl
      have S2 : Hid (MkSt B g cap n L0 w ((wr.setCell ⟨g, i * 7, none⟩ (.int .i64 (K : Int))).setCell ⟨g, i * 7 + 1, none⟩ (.int .i64 ((K : Int) + 1))) (L.set i (⟨(K : Int), (K : Int) + 1, nm, ats, tx, up, kids⟩, .slice sa ats.length sc, .slice ka kids.length kc))) := S1.put' hiL (c := 1) (by omega) _ _ rfl rfl rfl rfl
      have k0 : (0 : Int) ≤ (i : Int) := by omega
      have k1 : (i : Int) < (n : Int) := by omega
      clear S0 S1
      have Hk1 : Hid (∀ W : World, Calls Try.prog 45 #[.int .i64 ((K : Int) + 1 + 1)] W fun e w' => e = .returned (.string (markB (K + 2))) ∧ Below W.heap.size W w') := fun W => markText_any (K + 2) W (by omega)
      go_wp2_with fail
      refine (Hk1.out _).mono ?_
      rintro e w2 ⟨rfl, b2⟩
      have T2 := S2.out.keep b2
      clear b2 S2 c0 c1 f0 f1 Hk1
      have c2 : w2.cell? ⟨g, i * 7 + 2, none⟩ = some (.string nm) := (T2.cell' hiL'.out (c := 2) (by omega)).1
      have f2 : w2.frozen? ⟨g, i * 7 + 2, none⟩ = false := (T2.cell' hiL'.out (c := 2) (by omega)).2
      have c3 : w2.cell? ⟨g, i * 7 + 3, none⟩ = some (.slice sa ats.length sc) := (T2.cell' hiL'.out (c := 3) (by omega)).1
      have S3 : Hid (MkSt B g cap n L0 w (w2.setCell ⟨g, i * 7 + 2, none⟩ (.string (markB (K + 2)))) (L.set i (⟨(K : Int), (K : Int) + 1, markB (K + 2), ats, tx, up, kids⟩, .slice sa ats.length sc, .slice ka kids.length kc))) := T2.put' hiL'.out (c := 2) (by omega) _ _ rfl rfl rfl rfl
      clear T2
      obtain ⟨K1, HK1⟩ : ∃ K1, Hid (K + 3 + 2 * ats.length = K1) := ⟨_, rfl⟩
      have hK1b : K1 ≤ 549758959620 := by have := HK1.out; omega
      have HA : Hid (∀ W, W = w2.setCell ⟨g, i * 7 + 2, none⟩ (.string (markB (K + 2))) → Calls Try.prog 46 #[.slice sa ats.length sc, .int .i64 ((K : Int) + 1 + 1 + 1)] W fun e w' => e = .returned (.int .i64 (K1 : Int)) ∧ w'.ownsRow B 84 2 (.slice sa ats.length sc) ats.length (attrCells (markL (K + 3) ats.length)) ∧ W.grownBy w' (Value.slice sa ats.length sc).ownBlock) := fun W hW => by
        subst hW
        have h := markAttrS_grown ats (.slice sa ats.length sc) (K + 3) B _ (S3.out.rows' hiL'.out).1 (by omega) (by omega)
        rw [HK1.out] at h
        exact h
      go_wp2_with fail
      refine (HA.out _ rfl).mono ?_
      rintro e w4 ⟨rfl, o4, g4⟩
      have T4 : MkSt B g cap n L0 w w4 (L.set i (⟨(K : Int), (K : Int) + 1, markB (K + 2), markL (K + 3) ats.length, tx, up, kids⟩, .slice sa ats.length sc, .slice ka kids.length kc)) := S3.out.attrs' hiL'.out _ rfl rfl rfl (by show World.ownsRow _ B _ 2 _ (markL (K + 3) ats.length).length _; rw [markL_length]; exact o4) g4
      clear o4 g4 S3 c2 f2 c3 HA
      have Hk3 : Hid (∀ W : World, Calls Try.prog 45 #[.int .i64 (K1 : Int)] W fun e w' => e = .returned (.string (markB K1)) ∧ Below W.heap.size W w') := fun W => markText_any K1 W (by omega)
      go_wp2_with fail
      refine (Hk3.out _).mono ?_
      rintro e w5 ⟨rfl, b5⟩
      have T5 := T4.keep b5
      clear T4 b5 Hk3
      have c4 : w5.cell? ⟨g, i * 7 + 4, none⟩ = some (.string tx) := (T5.cell' hiL'.out (c := 4) (by omega)).1
      have f4 : w5.frozen? ⟨g, i * 7 + 4, none⟩ = false := (T5.cell' hiL'.out (c := 4) (by omega)).2
      have c5 : w5.cell? ⟨g, i * 7 + 5, none⟩ = some (.int .i64 up) := (T5.cell' hiL'.out (c := 5) (by omega)).1
      have f5 : w5.frozen? ⟨g, i * 7 + 5, none⟩ = false := (T5.cell' hiL'.out (c := 5) (by omega)).2
      have c6 : w5.cell? ⟨g, i * 7 + 6, none⟩ = some (.slice ka kids.length kc) := (T5.cell' hiL'.out (c := 6) (by omega)).1
      have S6 : MkSt B g cap n L0 w (w5.setCell ⟨g, i * 7 + 4, none⟩ (.string (markB K1))) (L.set i (⟨(K : Int), (K : Int) + 1, markB (K + 2), markL (K + 3) ats.length, markB K1, up, kids⟩, .slice sa ats.length sc, .slice ka kids.length kc)) := T5.put' hiL'.out (c := 4) (by omega) _ _ rfl rfl rfl rfl
      have S7 : Hid (MkSt B g cap n L0 w ((w5.setCell ⟨g, i * 7 + 4, none⟩ (.string (markB K1))).setCell ⟨g, i * 7 + 5, none⟩ (.int .i64 ((K1 : Int) + 1))) (L.set i (⟨(K : Int), (K : Int) + 1, markB (K + 2), markL (K + 3) ats.length, markB K1, (K1 : Int) + 1, kids⟩, .slice sa ats.length sc, .slice ka kids.length kc))) := S6.put' hiL'.out (c := 5) (by omega) _ _ rfl rfl rfl rfl
      clear T5 S6
      have HKi : Hid (∀ W, W = (w5.setCell ⟨g, i * 7 + 4, none⟩ (.string (markB K1))).setCell ⟨g, i * 7 + 5, none⟩ (.int .i64 ((K1 : Int) + 1)) → Calls Try.prog 28 #[.slice ka kids.length kc, .int .i64 ((K1 : Int) + 1 + 1)] W fun e w' => e = .returned (.int .i64 ((K1 + 2 + kids.length : Nat) : Int)) ∧ w'.ownsRow B 3 1 (.slice ka kids.length kc) kids.length (intCellsI (cntL (K1 + 2) kids.length)) ∧ W.grownBy w' (Value.slice ka kids.length kc).ownBlock) := fun W hW => by
        subst hW
        exact markIntS_grown kids (.slice ka kids.length kc) (K1 + 2) B _ (S7.out.rows' hiL'.out).2 (by omega) (by omega)
      go_wp2_with fail
      refine (HKi.out _ rfl).mono ?_
      rintro e w8 ⟨rfl, o8, g8⟩
      have T8 : MkSt B g cap n L0 w w8 (L.set i (⟨(K : Int), (K : Int) + 1, markB (K + 2), markL (K + 3) ats.length, markB K1, (K1 : Int) + 1, cntL (K1 + 2) kids.length⟩, .slice sa ats.length sc, .slice ka kids.length kc)) := S7.out.kids' hiL'.out _ rfl rfl rfl (by show World.ownsRow _ B _ 1 _ (cntL (K1 + 2) kids.length).length _; rw [cntL_length]; exact o8) g8
      clear o8 g8 S7 c4 f4 c5 f5 c6 HKi
      have HT8 : Hid (MkSt B g cap n L0 w w8 (L.set i (⟨(K : Int), (K : Int) + 1, markB (K + 2), markL (K + 3) ats.length, markB K1, (K1 : Int) + 1, cntL (K1 + 2) kids.length⟩, .slice sa ats.length sc, .slice ka kids.length kc))) := T8
      clear T8
      have HM : Hid ((L.set i (⟨(K : Int), (K : Int) + 1, markB (K + 2), markL (K + 3) ats.length, markB K1, (K1 : Int) + 1, cntL (K1 + 2) kids.length⟩, .slice sa ats.length sc, .slice ka kids.length kc)).map (·.1) = markIts k ((L0.map (·.1)).take (i + 1)) ++ (L0.map (·.1)).drop (i + 1)) := by
        show _ = _
        rw [HL1.out, HMK.out]
        congr 3
        have e := HK1.out
        subst e
        unfold markIt
        simp only
        congr 1 <;> first | rfl | omega | (congr 1; omega)
      have HKK : Hid ((K1 + 2 + kids.length : Nat) = k + markIs ((L0.map (·.1)).take (i + 1))) := by
        show _ = _
        rw [HE1.out, ← HK1.out, ← HK.out]
        omega
      rw [HKK.out]
      go_wp2_with fail
      go_roundw
      case rel => exact ⟨i + 1, _, by omega, by go_num, rfl, HM, HT8⟩
      case measure => simp [intOf]; omega
    · have hin : i = n := by omega
      subst hin
      have hfull : (L0.map (·.1)).take i = L0.map (·.1) := List.take_of_length_le (by rw [List.length_map, Hn.out]; exact Nat.le_refl _)
      have hemp : (L0.map (·.1)).drop i = [] := List.drop_eq_nil_of_le (by rw [List.length_map, Hn.out]; exact Nat.le_refl _)
      have Hend : Hid (L.map (·.1) = markIts k (L0.map (·.1))) := by
        show _ = _
        rw [Hmap.out, hfull, hemp, List.append_nil]
      rw [hfull]
      clear hfull hemp Hmap
      go_wp2_with fail
      go_ret
      exact ⟨rfl, L, Hend.out, HS.out.vals, HS.out.row, HS.out.each, HS.out.kb.more fun _ hb => MkB.of hb⟩

end Go.Proofs.Ytlnegnikedinaaa.Sg
