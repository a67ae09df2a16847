/- Contract of the laws' marks of elements. -/
import Derived.Test.YtbmmghkieolpkaaGreatDoorMR2114
import Derived.Test.YtbmmghkieolpkaaGreatDoorLwMark
namespace Go.Proofs.YtbmmghkieolpkaaGreatDoor.Sg
open Go.ChangeShapes Go.WideShapes Go.ChangeAt Go.RowKit

theorem six_get {C : List Value} {i N : Nat} (hC : C.length = N * 6) (hi : i < N) {v0 v1 v2 v3 v4 v5 : Value} (h : sixV C i = .agg #[v0, v1, v2, v3, v4, v5]) : C[i * 6]? = some v0 ∧ C[i * 6 + 1]? = some v1 ∧ C[i * 6 + 2]? = some v2 ∧ C[i * 6 + 3]? = some v3 ∧ C[i * 6 + 4]? = some v4 ∧ C[i * 6 + 5]? = some v5 := by
  have g : ∀ j, j < 6 → C[i * 6 + j]? = some (C.getD (i * 6 + j) undef) := fun j hj => by
    rw [List.getD_eq_getElem?_getD, List.getElem?_eq_getElem (by omega)]
    rfl
  unfold sixV at h
  injection h with h
  simp at h
  obtain ⟨h0, h1, h2, h3, h4, h5⟩ := h
  refine ⟨?_, ?_, ?_, ?_, ?_, ?_⟩
  · have := g 0 (by omega)
    rw [Nat.add_zero] at this
    rw [this, List.getD_eq_getElem?_getD, h0]
  · rw [g 1 (by omega), List.getD_eq_getElem?_getD, h1]
  · rw [g 2 (by omega), List.getD_eq_getElem?_getD, h2]
  · rw [g 3 (by omega), List.getD_eq_getElem?_getD, h3]
  · rw [g 4 (by omega), List.getD_eq_getElem?_getD, h4]
  · rw [g 5 (by omega), List.getD_eq_getElem?_getD, h5]
theorem six_same {C D : List Value} {i : Nat} (h : ∀ j, j < 6 → D[i * 6 + j]? = C[i * 6 + j]?) : sixV D i = sixV C i := by
  have h0 := h 0 (by omega)
  rw [Nat.add_zero] at h0
  unfold sixV
  simp only [List.getD_eq_getElem?_getD]
  rw [h0, h 1 (by omega), h 2 (by omega), h 3 (by omega), h 4 (by omega), h 5 (by omega)]
/-- Four cells of element i are written. -/
def set4 (C : List Value) (i : Nat) (a b c d : Value) : List Value := (((C.set (i * 6) a).set (i * 6 + 1) b).set (i * 6 + 2) c).set (i * 6 + 4) d
theorem set4_other {C : List Value} {i j : Nat} (h : j ≠ i) (a b c d : Value) : sixV (set4 C i a b c d) j = sixV C j := by
  refine six_same fun k hk => ?_
  unfold set4
  rw [List.getElem?_set_ne (by omega), List.getElem?_set_ne (by omega), List.getElem?_set_ne (by omega), List.getElem?_set_ne (by omega)]
theorem set4_self {C : List Value} {i N : Nat} (hC : C.length = N * 6) (hi : i < N) {v0 v1 v2 v3 v4 v5 : Value} (h : sixV C i = .agg #[v0, v1, v2, v3, v4, v5]) (a b c d : Value) : sixV (set4 C i a b c d) i = .agg #[a, b, c, v3, d, v5] := by
  obtain ⟨_, _, _, h3, _, h5⟩ := six_get hC hi h
  have e0 : (set4 C i a b c d)[i * 6]? = some a := by
    unfold set4
    rw [List.getElem?_set_ne (by omega), List.getElem?_set_ne (by omega), List.getElem?_set_ne (by omega), List.getElem?_set_self (by omega)]
  have e1 : (set4 C i a b c d)[i * 6 + 1]? = some b := by
    unfold set4
    rw [List.getElem?_set_ne (by omega), List.getElem?_set_ne (by omega), List.getElem?_set_self (by simp; omega)]
  have e2 : (set4 C i a b c d)[i * 6 + 2]? = some c := by
    unfold set4
    rw [List.getElem?_set_ne (by omega), List.getElem?_set_self (by simp; omega)]
  have e3 : (set4 C i a b c d)[i * 6 + 3]? = some v3 := by
    unfold set4
    rw [List.getElem?_set_ne (by omega), List.getElem?_set_ne (by omega), List.getElem?_set_ne (by omega), List.getElem?_set_ne (by omega), h3]
  have e4 : (set4 C i a b c d)[i * 6 + 4]? = some d := by
    unfold set4
    rw [List.getElem?_set_self (by simp; omega)]
  have e5 : (set4 C i a b c d)[i * 6 + 5]? = some v5 := by
    unfold set4
    rw [List.getElem?_set_ne (by omega), List.getElem?_set_ne (by omega), List.getElem?_set_ne (by omega), List.getElem?_set_ne (by omega), h5]
  unfold sixV
  simp only [List.getD_eq_getElem?_getD]
  rw [e0, e1, e2, e3, e4, e5]
  rfl

/-- While a row of elements is marked: those ahead of i are. -/
structure MkW (B g cap n k : Nat) (l : List ElB) (Fs : Nat → Foot) (F : Foot) (w wr : World) (i : Nat) (C : List Value) : Prop where
  row : wr.ownsRow B 25 6 (.slice (some ⟨g, 0, none⟩) l.length cap) l.length C
  each : ∀ j (hj : j < l.length), ElOwn (OwnS wr B n) wr B (if j < i then mkE (l[j]'hj) (k + cntEs (l.take j)) else l[j]'hj) (sixV C j) (Fs j)
  kb : Kb w wr F

theorem Kb.row {a b : World} {g : Nat} (h : a.grownBy b (some g)) : Kb a b (fun k => k = g) := Kb.of_grown h fun _ e => (Option.some.inj e).symm

set_option maxRecDepth 20000 in
set_option maxHeartbeats 8000000 in
theorem markElS_step (n : Nat) (IH : ∀ (l : List ElB) (v : Value) (k B : Nat) (F : Foot) (w : World), OwnS w B n l v F → k + cntEs l ≤ 549755813888 → Calls Tryz.prog 14 #[v, .int .i64 (k : Int)] w fun e w' => e = .returned (.int .i64 ((k + cntEs l : Nat) : Int)) ∧ OwnS w' B n (mkEs l k) v F ∧ Kb w w' F)
    (l : List ElB) (N g cap k B : Nat) (F : Foot) (Fs : Nat → Foot) (C : List Value) (w : World) (hrow : w.ownsRow B 25 6 (.slice (some ⟨g, 0, none⟩) N cap) N C) (hN : l.length = N)
    (hF : F g) (hFs : ∀ i, i < l.length → ∀ b, Fs i b → F b ∧ b ≠ g) (hpw : ∀ i j, i < l.length → j < l.length → i ≠ j → ∀ b, Fs i b → ¬ Fs j b) (heach : ∀ i (hi : i < l.length), ElOwn (OwnS w B n) w B (l[i]'hi) (sixV C i) (Fs i)) (hk : k + cntEs l ≤ 549755813888) (hlen : N ≤ 549755813888) :
    Calls Tryz.prog 14 #[.slice (some ⟨g, 0, none⟩) N cap, .int .i64 (k : Int)] w fun e w' => e = .returned (.int .i64 ((k + cntEs l : Nat) : Int)) ∧ Kb w w' F ∧ ∃ C', w'.ownsRow B 25 6 (.slice (some ⟨g, 0, none⟩) N cap) N C' ∧ ∀ i (hi : i < l.length), ElOwn (OwnS w' B n) w' B (mkE (l[i]'hi) (k + cntEs (l.take i))) (sixV C' i) (Fs i) := by
  have HS : Hid (MkW B g cap n k l Fs F w w 0 C) := ⟨by rw [hN]; exact hrow, fun j hj => by rw [if_neg (Nat.not_lt_zero _)]; exact heach j hj, Kb.refl _ _⟩
  have HF : Hid (F g ∧ ∀ i, i < l.length → ∀ b, Fs i b → F b ∧ b ≠ g) := ⟨hF, hFs⟩
  have HP : Hid (∀ i j, i < l.length → j < l.length → i ≠ j → ∀ b, Fs i b → ¬ Fs j b) := hpw
  have HI : Hid (∀ (l : List ElB) (v : Value) (k B : Nat) (F : Foot) (w : World), OwnS w B n l v F → k + cntEs l ≤ 549755813888 → Calls Tryz.prog 14 #[v, .int .i64 (k : Int)] w fun e w' => e = .returned (.int .i64 ((k + cntEs l : Nat) : Int)) ∧ OwnS w' B n (mkEs l k) v F ∧ Kb w w' F) := IH
  have HN : Hid (l.length = N) := hN
  clear hrow hF hFs hpw heach IH hN
  go_enter Tryz.func14, Tryz.ntmps14
  go_wp2_with fail
  go_loopw [1, 5] (fun kv iv wr => ∃ (i : Nat) (C : List Value), i ≤ N ∧ iv = .int .i64 (i : Int) ∧ kv = .int .i64 ((k + cntEs (l.take i) : Nat) : Int) ∧ Hid (MkW B g cap n k l Fs F w wr i C)) (fun _ iv _ => N - (intOf iv).toNat)
  case atStart => exact ⟨0, C, Nat.zero_le _, rfl, rfl, HS⟩
  case round =>
    clear HS
    obtain ⟨i, C, hi, rfl, rfl, HS⟩ := hrel
    by_cases hlt : i < N
    · have hil : i < l.length := by rw [HN.out]; exact hlt
      obtain ⟨hc1, hc2⟩ := cntEs_take l i hil
      have hE := HS.out.each i hil
      rw [if_neg (Nat.lt_irrefl _)] at hE
      have hC6 : C.length = l.length * 6 := HS.out.row.1
      obtain ⟨K, HK⟩ : ∃ K, Hid (k + cntEs (l.take i) = K) := ⟨_, rfl⟩
      rw [HK.out]
      have hmkE : mkE (l[i]'hil) (k + cntEs (l.take i)) = mkE (l[i]'hil) K := by rw [HK.out]
      have Hmk : Hid (mkE (l[i]'hil) (k + cntEs (l.take i)) = mkE (l[i]'hil) K) := hmkE
      generalize hel : l[i]'hil = el at hE hc1 hc2 Hmk
      have Hel : Hid (l[i]'hil = el) := hel
      clear hel hmkE
      obtain ⟨kd, sp, nm, ats, tx, ks⟩ := el
      obtain ⟨av, kv, Fk, eV, hat, hab, hks, hkf⟩ := hE
      rw [cntE_ats] at hc1 hc2
      have eK := HK.out
      have hKb : K + (4 + 2 * ats.length + cntEs ks) ≤ 549755813888 := by omega
      have HEnd : Hid (k + cntEs (l.take (i + 1)) = K + 4 + 2 * ats.length + cntEs ks) := by show _ = _; omega
      clear hc1 hc2 eK
      obtain ⟨sa, sc, rfl, _⟩ := attrs_of_own hat
      obtain ⟨ka, kc, rfl, _⟩ := OwnS.kids n hks
      obtain ⟨q0, q1, q2, q3, q4, q5⟩ := six_get hC6 hil eV
      have HeV : Hid (sixV C i = _) := eV
      have Hat : Hid (wr.ownsRow B 73 2 (.slice sa ats.length sc) ats.length (attrCells ats)) := hat
      have Hab : Hid (∀ b, (Value.slice sa ats.length sc).ownBlock = some b → Fs i b ∧ ¬ Fk b) := hab
      have Hks : Hid (OwnS wr B n ks (.slice ka ks.length kc) Fk) := hks
      have Hkf : Hid (∀ b, Fk b → Fs i b) := hkf
      have hga : ∀ b, (Value.slice sa ats.length sc).ownBlock = some b → b ≠ g := fun b hb => (HF.out.2 i hil b (hab b hb).1).2
      have Hga : Hid (∀ b, (Value.slice sa ats.length sc).ownBlock = some b → b ≠ g) := hga
      have R0 := HS.out.row
      rw [HN.out] at R0
      have cell : ∀ {W : World} {D : List Value}, W.ownsRow B 25 6 (.slice (some ⟨g, 0, none⟩) N cap) N D → ∀ c, c < 6 → W.cell? ⟨g, i * 6 + c, none⟩ = D[i * 6 + c]? ∧ W.frozen? ⟨g, i * 6 + c, none⟩ = false := fun h c hc => own_cell h (by omega)
      have Hcell : Hid (∀ {W : World} {D : List Value}, W.ownsRow B 25 6 (.slice (some ⟨g, 0, none⟩) N cap) N D → ∀ c, c < 6 → W.cell? ⟨g, i * 6 + c, none⟩ = D[i * 6 + c]? ∧ W.frozen? ⟨g, i * 6 + c, none⟩ = false) := cell
      have c0 : wr.cell? ⟨g, i * 6, none⟩ = some (.int .i64 kd) := (cell R0 0 (by omega)).1.trans q0
      have f0 : wr.frozen? ⟨g, i * 6, none⟩ = false := (cell R0 0 (by omega)).2
      have c1 : wr.cell? ⟨g, i * 6 + 1, none⟩ = some (.int .i64 sp) := (cell R0 1 (by omega)).1.trans q1
      have f1 : wr.frozen? ⟨g, i * 6 + 1, none⟩ = false := (cell R0 1 (by omega)).2
      have HQ : Hid (C[i * 6 + 2]? = some (.string nm) ∧ C[i * 6 + 3]? = some (.slice sa ats.length sc) ∧ C[i * 6 + 4]? = some (.string tx) ∧ C[i * 6 + 5]? = some (.slice ka ks.length kc)) := ⟨q2, q3, q4, q5⟩
      clear q0 q1 q2 q3 q4 q5 eV hat hab hks hkf hga cell hC6
      have R2 : Hid (((wr.setCell ⟨g, i * 6, none⟩ (.int .i64 (K : Int))).setCell ⟨g, i * 6 + 1, none⟩ (.int .i64 ((K : Int) + 1))).ownsRow B 25 6 (.slice (some ⟨g, 0, none⟩) N cap) N ((C.set (i * 6) (.int .i64 (K : Int))).set (i * 6 + 1) (.int .i64 ((K : Int) + 1)))) := owns_set (owns_set R0 _ _) _ _
      have K2 : Hid (Kb wr ((wr.setCell ⟨g, i * 6, none⟩ (.int .i64 (K : Int))).setCell ⟨g, i * 6 + 1, none⟩ (.int .i64 ((K : Int) + 1))) (fun b => b = g)) := (Kb.row (grown_set _ _ _ _)).trans (Kb.row (grown_set _ _ _ _))
      clear R0
      have k0 : (0 : Int) ≤ (i : Int) := by omega
      have k1 : (i : Int) < (N : Int) := by omega
      have Hk1 : Hid (∀ W : World, Calls Tryz.prog 36 #[.int .i64 ((K : Int) + 1 + 1)] W fun e w' => e = .returned (.string (markB (K + 2))) ∧ Below W.heap.size W w') := fun W => markText_any (K + 2) W (by omega)
      go_wp2_with fail
      refine (Hk1.out _).mono ?_
      rintro e w3 ⟨rfl, b3⟩
      have R3 := owns_below R2.out (Nat.le_refl _) b3
      have K3 := K2.out.trans (Kb.of_below b3 _)
      clear b3 R2 K2 c0 f0 c1 f1 Hk1
      have c2 : w3.cell? ⟨g, i * 6 + 2, none⟩ = some (.string nm) := (Hcell.out R3 2 (by omega)).1.trans (by rw [List.getElem?_set_ne (by omega), List.getElem?_set_ne (by omega)]; exact HQ.out.1)
      have f2 : w3.frozen? ⟨g, i * 6 + 2, none⟩ = false := (Hcell.out R3 2 (by omega)).2
      have c3 : w3.cell? ⟨g, i * 6 + 3, none⟩ = some (.slice sa ats.length sc) := (Hcell.out R3 3 (by omega)).1.trans (by rw [List.getElem?_set_ne (by omega), List.getElem?_set_ne (by omega)]; exact HQ.out.2.1)
      have R4 : Hid ((w3.setCell ⟨g, i * 6 + 2, none⟩ (.string (markB (K + 2)))).ownsRow B 25 6 (.slice (some ⟨g, 0, none⟩) N cap) N (((C.set (i * 6) (.int .i64 (K : Int))).set (i * 6 + 1) (.int .i64 ((K : Int) + 1))).set (i * 6 + 2) (.string (markB (K + 2))))) := owns_set R3 _ _
      have K4 : Hid (Kb wr (w3.setCell ⟨g, i * 6 + 2, none⟩ (.string (markB (K + 2)))) (fun b => b = g)) := K3.trans (Kb.row (grown_set _ _ _ _))
      clear R3 K3
      obtain ⟨K1, HK1⟩ : ∃ K1, Hid (K + 3 + 2 * ats.length = K1) := ⟨_, rfl⟩
      have hK1b : K1 + 1 + cntEs ks ≤ 549755813888 := by have := HK1.out; omega
      have HA : Hid (∀ W, W = w3.setCell ⟨g, i * 6 + 2, none⟩ (.string (markB (K + 2))) → Calls Tryz.prog 25 #[.slice sa ats.length sc, .int .i64 ((K : Int) + 1 + 1 + 1)] W fun e w' => e = .returned (.int .i64 (K1 : Int)) ∧ w'.ownsRow B 73 2 (.slice sa ats.length sc) ats.length (attrCells (markL (K + 3) ats.length)) ∧ W.grownBy w' (Value.slice sa ats.length sc).ownBlock) := fun W hW => by
        subst hW
        have h := markAttrS_grown ats (.slice sa ats.length sc) (K + 3) B _ (K4.out.owns Hat.out Hga.out) (by omega) (by omega)
        rw [HK1.out] at h
        exact h
      go_wp2_with fail
      refine (HA.out _ rfl).mono ?_
      rintro e w5 ⟨rfl, o5, g5⟩
      have R5 := owns_grown R4.out g5 (fun b hb e => Hga.out b e (by cases hb; rfl))
      have K5 : Hid (Kb wr w5 (fun b => b = g ∨ (Value.slice sa ats.length sc).ownBlock = some b)) := (K4.out.more (fun b hb => .inl hb)).trans (Kb.of_grown g5 (fun b hb => .inr hb))
      clear g5 R4 K4 c2 f2 c3 HA
      have Hk3 : Hid (∀ W : World, Calls Tryz.prog 36 #[.int .i64 (K1 : Int)] W fun e w' => e = .returned (.string (markB K1)) ∧ Below W.heap.size W w') := fun W => markText_any K1 W (by omega)
      go_wp2_with fail
      refine (Hk3.out _).mono ?_
      rintro e w6 ⟨rfl, b6⟩
      have R6 := owns_below R5 (Nat.le_refl _) b6
      have o6 := owns_below o5 (Nat.le_refl _) b6
      have K6 := K5.out.trans (Kb.of_below b6 _)
      clear R5 o5 K5 b6 Hk3
      have c4 : w6.cell? ⟨g, i * 6 + 4, none⟩ = some (.string tx) := (Hcell.out R6 4 (by omega)).1.trans (by rw [List.getElem?_set_ne (by omega), List.getElem?_set_ne (by omega), List.getElem?_set_ne (by omega)]; exact HQ.out.2.2.1)
      have f4 : w6.frozen? ⟨g, i * 6 + 4, none⟩ = false := (Hcell.out R6 4 (by omega)).2
      have c5 : w6.cell? ⟨g, i * 6 + 5, none⟩ = some (.slice ka ks.length kc) := (Hcell.out R6 5 (by omega)).1.trans (by rw [List.getElem?_set_ne (by omega), List.getElem?_set_ne (by omega), List.getElem?_set_ne (by omega)]; exact HQ.out.2.2.2)
      have R7 : Hid ((w6.setCell ⟨g, i * 6 + 4, none⟩ (.string (markB K1))).ownsRow B 25 6 (.slice (some ⟨g, 0, none⟩) N cap) N (set4 C i (.int .i64 (K : Int)) (.int .i64 ((K : Int) + 1)) (.string (markB (K + 2))) (.string (markB K1)))) := owns_set R6 _ _
      have O7 : Hid ((w6.setCell ⟨g, i * 6 + 4, none⟩ (.string (markB K1))).ownsRow B 73 2 (.slice sa ats.length sc) ats.length (attrCells (markL (K + 3) ats.length))) := owns_grown o6 (grown_set _ _ _ _) (fun b hb e => Hga.out b hb (Option.some.inj e).symm)
      have K7 : Hid (Kb wr (w6.setCell ⟨g, i * 6 + 4, none⟩ (.string (markB K1))) (fun b => b = g ∨ (Value.slice sa ats.length sc).ownBlock = some b)) := K6.trans ((Kb.row (grown_set _ _ _ _)).more (fun b hb => .inl hb))
      clear R6 o6 K6
      have HM : Hid (∀ W, W = w6.setCell ⟨g, i * 6 + 4, none⟩ (.string (markB K1)) → Calls Tryz.prog 14 #[.slice ka ks.length kc, .int .i64 ((K1 : Int) + 1)] W fun e w' => e = .returned (.int .i64 ((K1 + 1 + cntEs ks : Nat) : Int)) ∧ OwnS w' B n (mkEs ks (K1 + 1)) (.slice ka ks.length kc) Fk ∧ Kb W w' Fk) := fun W hW => by
        subst hW
        exact HI.out ks (.slice ka ks.length kc) (K1 + 1) B Fk _ (OwnS.stay n Hks.out (fun b hb hb2 => K7.out.block b hb2 (fun h => h.elim (fun h => (HF.out.2 i hil b (Hkf.out b hb)).2 h) (fun h => (Hab.out b h).2 hb)))) (by omega)
      go_wp2_with fail
      refine (HM.out _ rfl).mono ?_
      rintro e w8 ⟨rfl, o8, k8⟩
      have hgk : ∀ b, Fk b → b ≠ g := fun b hb => (HF.out.2 i hil b (Hkf.out b hb)).2
      have R8 := k8.owns R7.out (fun b hb h => hgk b h (by cases hb; rfl))
      have O8 := k8.owns O7.out (fun b hb h => (Hab.out b hb).2 h)
      have K8 : Kb wr w8 (fun b => b = g ∨ Fs i b) := (K7.out.more (fun b hb => hb.imp id (fun h => (Hab.out b h).1))).trans (k8.more (fun b hb => .inr (Hkf.out b hb)))
      have HN8 : Hid (MkW B g cap n k l Fs F w w8 (i + 1) (set4 C i (.int .i64 (K : Int)) (.int .i64 ((K : Int) + 1)) (.string (markB (K + 2))) (.string (markB K1)))) := by
        refine ⟨by rw [HN.out]; exact R8, fun j hj => ?_, HS.out.kb.trans (K8.more (fun b hb => hb.elim (fun h => h ▸ HF.out.1) (fun h => (HF.out.2 i hil b h).1)))⟩
        by_cases hji : j = i
        · subst hji
          rw [if_pos (Nat.lt_succ_self _), Hel.out, HK.out, mkE, set4_self HS.out.row.1 hil HeV.out]
          have e1 := HK1.out
          refine ⟨.slice sa ats.length sc, .slice ka ks.length kc, Fk, ?_, ?_, Hab.out, ?_, Hkf.out⟩
          · rw [e1]
          · rw [markL_length]
            exact O8
          · have e2 : K + 4 + 2 * ats.length = K1 + 1 := by omega
            rw [e2]
            exact o8
        · rw [set4_other hji]
          have e : (if j < i + 1 then mkE (l[j]'hj) (k + cntEs (l.take j)) else l[j]'hj) = (if j < i then mkE (l[j]'hj) (k + cntEs (l.take j)) else l[j]'hj) := by
            by_cases h : j < i
            · rw [if_pos h, if_pos (by omega)]
            · rw [if_neg h, if_neg (by omega)]
          rw [e]
          have st : ∀ b, Fs j b → b < wr.heap.size → w8.heap[b]? = wr.heap[b]? := fun b hb hb2 => K8.block b hb2 (fun h => h.elim (fun h => (HF.out.2 j hj b hb).2 h) (fun h => HP.out j i hj hil hji b hb h))
          exact (HS.out.each j hj).stay (fun _ _ _ hF' hs => OwnS.stay n hs (fun b hb hb2 => st b (hF' b hb) hb2)) st
      have HKK : Hid ((K1 + 1 + cntEs ks : Nat) = k + cntEs (l.take (i + 1))) := by
        show _ = _
        rw [HEnd.out, ← HK1.out]
        omega
      clear o8 k8 R8 O8 K8 hgk R7 O7 K7 HS Hks Hat Hab Hkf Hga HQ HeV Hcell c4 f4 c5 HM
      rw [HKK.out]
      go_wp2_with fail
      go_roundw
      case rel => exact ⟨i + 1, _, by omega, by go_num, rfl, HN8⟩
      case measure => simp [intOf]; omega
    · have hin : i = N := by omega
      have hfull : l.take i = l := List.take_of_length_le (by rw [HN.out]; omega)
      rw [hfull]
      have g2 : decide ((i : Int) < (N : Int)) = false := decide_eq_false (by omega)
      go_wp2_with fail
      go_ret
      refine ⟨rfl, HS.out.kb, C, by have h := HS.out.row; rw [HN.out] at h; exact h, fun j hj => ?_⟩
      have h := HS.out.each j hj
      rw [if_pos (by have := HN.out; omega)] at h
      exact h

theorem cntEs_len : ∀ es : List ElB, es.length ≤ cntEs es
  | [] => by simp [cntEs]
  | .mk kd sp nm ats tx ks :: es => by
    have := cntEs_len es
    rw [cntEs, cntE, List.length_cons]
    omega
set_option maxHeartbeats 1000000 in
theorem markElS_none (a : Option Addr) (c : Nat) (k : Nat) (w : World) : Calls Tryz.prog 14 #[.slice a 0 c, .int .i64 (k : Int)] w fun e w' => e = .returned (.int .i64 (k : Int)) ∧ w' = w := by
  go_enter Tryz.func14, Tryz.ntmps14
  go_wp2
  refine wp_loop_rounds 1 ?_
  rw [rounds_succ]
  go_wp2
  go_ret
  exact ⟨rfl, rfl⟩
theorem markElS_any : ∀ (n : Nat) (l : List ElB) (v : Value) (k B : Nat) (F : Foot) (w : World), OwnS w B n l v F → k + cntEs l ≤ 549755813888 → Calls Tryz.prog 14 #[v, .int .i64 (k : Int)] w fun e w' => e = .returned (.int .i64 ((k + cntEs l : Nat) : Int)) ∧ OwnS w' B n (mkEs l k) v F ∧ Kb w w' F
  | 0, l, v, k, B, F, w, h, _ => by
    obtain ⟨a, c, rfl, _⟩ := OwnS.kids 0 h
    have hl : l = [] := h.1
    subst hl
    refine (markElS_none a c k w).mono ?_
    rintro e w' ⟨rfl, rfl⟩
    refine ⟨by rw [cntEs]; rfl, ?_, Kb.refl _ _⟩
    rw [mkEs]
    exact h
  | n + 1, l, v, k, B, F, w, h, hk => by
    have hlen := cntEs_len l
    have h' := h
    obtain ⟨C, Fs, ho, h2, h3, h4, h5⟩ := h'
    rcases ho.2 with ⟨rfl, h0⟩ | ⟨g, cap, cur, rfl, _⟩
    · have hl : l = [] := List.eq_nil_of_length_eq_zero h0
      subst hl
      refine (markElS_none none 0 k w).mono ?_
      rintro e w' ⟨rfl, rfl⟩
      refine ⟨by rw [cntEs]; rfl, ?_, Kb.refl _ _⟩
      rw [mkEs]
      exact h
    · refine (markElS_step n (markElS_any n) l l.length g cap k B F Fs C w ho rfl (h2 g rfl) (fun i hi b hb => ⟨(h3 i hi b hb).1, fun e => (h3 i hi b hb).2 (by rw [e]; rfl)⟩) h4 h5 hk (by omega)).mono ?_
      rintro e w' ⟨rfl, hkb, C', ho', he'⟩
      refine ⟨rfl, ⟨C', Fs, by rw [mkEs_length]; exact ho', h2, fun i hi => h3 i (by rwa [mkEs_length] at hi), fun i j hi hj => h4 i j (by rwa [mkEs_length] at hi) (by rwa [mkEs_length] at hj), fun i hi => ?_⟩, hkb⟩
      have hi' : i < l.length := by rwa [mkEs_length] at hi
      rw [mkEs_get l k i hi' hi]
      exact he' i hi'

end Go.Proofs.YtbmmghkieolpkaaGreatDoor.Sg
