/- The laws' pages, laid anew. -/
import Derived.Test.YtlnegnikedinaaaMDMark02
namespace Go.Proofs.Ytlnegnikedinaaa.Sg
open Go.ChangeShapes Go.WideShapes Go.ChangeAt Go.RowKit

/-- A row is not written by a store below it. -/
theorem row_set_low {w : World} {B : Nat} {e : TypeId} {size : Nat} {v : Value} {n : Nat} {xs : List Value} (h : w.ownsRow B e size v n xs) {c i : Nat} (hc : c < B) (x : Value) : (w.setCell ⟨c, i, none⟩ x).ownsRow B e size v n xs :=
  owns_grown h (grown_set w c i x) (fun b hb h2 => by have := (h.lt b hb).1; have := Option.some.inj h2; omega)
theorem OwnIts.set_low {w : World} {B : Nat} {v : Value} {l : List ItB} (h : OwnIts w B v l) {c i : Nat} (hc : c < B) (x : Value) : OwnIts (w.setCell ⟨c, i, none⟩ x) B v l := by
  obtain ⟨L, h1, h2, h3⟩ := h
  exact ⟨L, h1, row_set_low h2 hc x, ⟨fun p hp => ⟨row_set_low (h3.1 p hp).1 hc x, row_set_low (h3.1 p hp).2 hc x⟩, h3.2⟩⟩
theorem OwnIts.base {w : World} {B B' : Nat} {v : Value} {l : List ItB} (h : OwnIts w B v l) (hB : B' ≤ B) : OwnIts w B' v l := by
  obtain ⟨L, h1, h2, h3⟩ := h
  exact ⟨L, h1, own_mono h2 hB, ⟨fun p hp => ⟨own_mono (h3.1 p hp).1 hB, own_mono (h3.1 p hp).2 hB⟩, h3.2⟩⟩
/-- A row that was there is not one that is new. -/
theorem own_new {w : World} {B : Nat} {e : TypeId} {size : Nat} {v : Value} {n : Nat} {xs : List Value} {g m c : Nat} (h : w.ownsRow B e size v n xs) (hg : w.heap.size ≤ g) (b : Nat) (hb : v.ownBlock = some b) : (Value.slice (some ⟨g, 0, none⟩) m c).ownBlock ≠ some b := by
  intro h2
  have h3 := (h.lt b hb).2
  have : g = b := by simpa [Value.ownBlock] using h2
  omega

theorem OwnPg3.set_low {w : World} {B : Nat} {iv ov fv : Value} {p : PgB} (h : OwnPg3 w B iv ov fv p) {c i : Nat} (hc : c < B) (x : Value) : OwnPg3 (w.setCell ⟨c, i, none⟩ x) B iv ov fv p := by
  obtain ⟨L, h1, h2, h3, h4, h5, h6⟩ := h
  exact ⟨L, h1, row_set_low h2 hc x, ⟨fun q hq => ⟨row_set_low (h3.1 q hq).1 hc x, row_set_low (h3.1 q hq).2 hc x⟩, h3.2⟩, row_set_low h4 hc x, row_set_low h5 hc x, h6⟩
theorem OwnPg3.base {w : World} {B B' : Nat} {iv ov fv : Value} {p : PgB} (h : OwnPg3 w B iv ov fv p) (hB : B' ≤ B) : OwnPg3 w B' iv ov fv p := by
  obtain ⟨L, h1, h2, h3, h4, h5, h6⟩ := h
  exact ⟨L, h1, own_mono h2 hB, ⟨fun q hq => ⟨own_mono (h3.1 q hq).1 hB, own_mono (h3.1 q hq).2 hB⟩, h3.2⟩, own_mono h4 hB, own_mono h5 hB, h6⟩

/-- While a page is laid anew: three blocks of five cells, and nothing that was there has turned. -/
def PgSt (w W : World) (c0 c1 c2 : Nat) (f0 f1 f2 : Nat → Value) : Prop := Many 5 W c0 f0 ∧ Many 5 W c1 f1 ∧ Many 5 W c2 f2 ∧ Below w.heap.size w W
theorem PgSt.below {w W W' : World} {c0 c1 c2 : Nat} {f0 f1 f2 : Nat → Value} (h : PgSt w W c0 c1 c2 f0 f1 f2) (hb : Below W.heap.size W W') : PgSt w W' c0 c1 c2 f0 f1 f2 :=
  ⟨h.1.below h.1.1 hb, h.2.1.below h.2.1.1 hb, h.2.2.1.below h.2.2.1.1 hb, h.2.2.2.trans (hb.mono h.2.2.2.size)⟩
theorem PgSt.set {w W : World} {c0 c1 c2 : Nat} {f0 f1 f2 : Nat → Value} (h : PgSt w W c0 c1 c2 f0 f1 f2) (n0 : c2 ≠ c0) (n1 : c2 ≠ c1) (l2 : w.heap.size ≤ c2) (i : Nat) (x : Value) : PgSt w (W.setCell ⟨c2, i, none⟩ x) c0 c1 c2 f0 f1 (fun j => if j = i then x else f2 j) :=
  ⟨h.1.other n0 x, h.2.1.other n1 x, h.2.2.1.set x, h.2.2.2.setCell (p := ⟨c2, i, none⟩) l2 x⟩

set_option maxRecDepth 20000 in
set_option maxHeartbeats 8000000 in
theorem toPage_any (p : PgB) (v : Value) (w : World) (h : PgIn w v p) (hi : p.its.length ≤ 1099511627776) (hat : ∀ t ∈ p.its, t.ats.length ≤ 1099511627776 ∧ t.kids.length ≤ 1099511627776) (ho : p.opn.length ≤ 1099511627776) (hf : p.fms.length ≤ 1099511627776) :
    Calls Try.prog 14 #[v] w fun e w' => ∃ gi go gf : Nat, e = .returned (.agg #[.slice (some ⟨gi, 0, none⟩) p.its.length p.its.length, .slice (some ⟨go, 0, none⟩) p.opn.length p.opn.length, .slice (some ⟨gf, 0, none⟩) p.fms.length p.fms.length, .int .i64 p.hd, .int .i64 p.bd]) ∧ OwnPg3 w' w.heap.size (.slice (some ⟨gi, 0, none⟩) p.its.length p.its.length) (.slice (some ⟨go, 0, none⟩) p.opn.length p.opn.length) (.slice (some ⟨gf, 0, none⟩) p.fms.length p.fms.length) p ∧ Below w.heap.size w w' := by
  obtain ⟨ia, ic, oa, oc, fa, fc, rfl, hI, hO, hF⟩ := h
  obtain ⟨its, opn, fms, hd, bd⟩ := p
  simp only at hI hO hF hi ho hf hat ⊢
  have CI : Hid (∀ W, Below w.heap.size w W → Calls Try.prog 20 #[.slice ia its.length ic] W fun e w' => e = .returned (.slice (some ⟨W.heap.size, 0, none⟩) its.length its.length) ∧ OwnIts w' W.heap.size (.slice (some ⟨W.heap.size, 0, none⟩) its.length its.length) its ∧ Below W.heap.size W w') := fun W hW => toItemS_any its ia its.length ic W (hI.keep hW) rfl hi hat
  have CO : Hid (∀ W, Below w.heap.size w W → Calls Try.prog 35 #[.slice oa opn.length oc] W fun e w' => e = .returned (.slice (some ⟨W.heap.size, 0, none⟩) opn.length opn.length) ∧ w'.rowIs W.heap.size 3 opn.length (fun i => .int .i64 (opn.getD i 0)) ∧ Below W.heap.size W w') := fun W hW => toIntS_any opn oa oc W (hO.below (Nat.le_refl _) hW) (by omega)
  have CF : Hid (∀ W, Below w.heap.size w W → Calls Try.prog 35 #[.slice fa fms.length fc] W fun e w' => e = .returned (.slice (some ⟨W.heap.size, 0, none⟩) fms.length fms.length) ∧ w'.rowIs W.heap.size 3 fms.length (fun i => .int .i64 (fms.getD i 0)) ∧ Below W.heap.size W w') := fun W hW => toIntS_any fms fa fc W (hF.below (Nat.le_refl _) hW) (by omega)
  clear hI hO hF hat
  go_enter Try.func14, Try.ntmps14
  go_wp2_with fail
  refine (CI.out _ ?_).mono ?_
  · exact (((Below.refl _ _).alloc (Nat.le_refl _) _).alloc (by simp) _).alloc (by simp; omega) _
  rintro e w1 ⟨rfl, o1, b1⟩
  have S0 : PgSt w w1 w.heap.size (w.heap.size + 1) (w.heap.size + 1 + 1) (fun i => [Value.slice ia its.length ic, .slice oa opn.length oc, .slice fa fms.length fc, .int .i64 hd, .int .i64 bd].getD i undef) (fun i => [Value.slice none 0 0, .slice none 0 0, .slice none 0 0, .int .i64 0, .int .i64 0].getD i undef) (fun i => [Value.slice none 0 0, .slice none 0 0, .slice none 0 0, .int .i64 0, .int .i64 0].getD i undef) := by
    refine PgSt.below ⟨?_, ?_, ?_, ?_⟩ b1
    · exact (Many.new w [.slice ia its.length ic, .slice oa opn.length oc, .slice fa fms.length fc, .int .i64 hd, .int .i64 bd] 32 undef).below (B := w.heap.size + 1) (Nat.lt_succ_self _) (((Below.refl _ _).alloc (by simp) _).alloc (by simp) _)
    · have h := Many.new (w.alloc (.cells #[.slice ia its.length ic, .slice oa opn.length oc, .slice fa fms.length fc, .int .i64 hd, .int .i64 bd] 32)) [.slice none 0 0, .slice none 0 0, .slice none 0 0, .int .i64 0, .int .i64 0] 25 undef
      rw [show (w.alloc (.cells #[.slice ia its.length ic, .slice oa opn.length oc, .slice fa fms.length fc, .int .i64 hd, .int .i64 bd] 32)).heap.size = w.heap.size + 1 by simp] at h
      exact h.below (B := w.heap.size + 1 + 1) (Nat.lt_succ_self _) ((Below.refl _ _).alloc (by simp) _)
    · have h := Many.new ((w.alloc (.cells #[.slice ia its.length ic, .slice oa opn.length oc, .slice fa fms.length fc, .int .i64 hd, .int .i64 bd] 32)).alloc (.cells #[.slice none 0 0, .slice none 0 0, .slice none 0 0, .int .i64 0, .int .i64 0] 25)) [.slice none 0 0, .slice none 0 0, .slice none 0 0, .int .i64 0, .int .i64 0] 25 undef
      rw [show ((w.alloc (.cells #[.slice ia its.length ic, .slice oa opn.length oc, .slice fa fms.length fc, .int .i64 hd, .int .i64 bd] 32)).alloc (.cells #[.slice none 0 0, .slice none 0 0, .slice none 0 0, .int .i64 0, .int .i64 0] 25)).heap.size = w.heap.size + 1 + 1 by simp] at h
      exact h
    · exact (((Below.refl _ _).alloc (Nat.le_refl _) _).alloc (by simp) _).alloc (by simp; omega) _
  simp only [World.size_alloc] at o1 b1 ⊢
  clear b1 CI
  have HE : Hid (w.heap.size < w.heap.size + 1 ∧ w.heap.size + 1 < w.heap.size + 1 + 1 ∧ w.heap.size + 1 + 1 < w.heap.size + 1 + 1 + 1) := by
    show _ ∧ _ ∧ _
    omega
  generalize w.heap.size + 1 + 1 + 1 = c3 at *
  generalize w.heap.size + 1 + 1 = c2 at *
  generalize w.heap.size + 1 = c1 at *
  have n20 : c2 ≠ w.heap.size := by have := HE.out; omega
  have n02 : w.heap.size ≠ c2 := Ne.symm n20
  have n21 : c2 ≠ c1 := by have := HE.out; omega
  have n12 : c1 ≠ c2 := Ne.symm n21
  have l1 : w.heap.size ≤ c1 := by have := HE.out; omega
  have l2 : w.heap.size ≤ c2 := by have := HE.out; omega
  have l23 : c2 < c3 := HE.out.2.2
  have l13 : c1 < c3 := by have := HE.out; omega
  have x1 := (S0.1.2 1 (by omega)).1
  have y0 := (S0.2.2.1.2 0 (by omega)).1
  have z0 := (S0.2.2.1.2 0 (by omega)).2
  simp only [List.getD_cons_zero, List.getD_cons_succ] at x1 y0
  have S1 : Hid (PgSt w (w1.setCell ⟨c2, 0, none⟩ (.slice (some ⟨c3, 0, none⟩) its.length its.length)) w.heap.size c1 c2 _ _ _) := S0.set n20 n21 l2 0 _
  have O1 : Hid (OwnIts (w1.setCell ⟨c2, 0, none⟩ (.slice (some ⟨c3, 0, none⟩) its.length its.length)) c3 (.slice (some ⟨c3, 0, none⟩) its.length its.length) its) := o1.set_low l23 _
  clear S0 o1
  go_wp2_with fail
  refine (CO.out _ S1.out.2.2.2).mono ?_
  rintro e w2 ⟨rfl, r2, b2⟩
  clear x1 y0 z0 CO
  obtain ⟨W, HW⟩ : ∃ W, Hid (W = w1.setCell ⟨c2, 0, none⟩ (.slice (some ⟨c3, 0, none⟩) its.length its.length)) := ⟨_, rfl⟩
  rw [← HW.out] at S1 O1 r2 b2 ⊢
  clear HW
  obtain ⟨L, hL1, hL2, hL3⟩ := O1.out
  have hg3 : c3 ≤ W.heap.size := Nat.le_of_lt (hL2.lt c3 rfl).2
  have HK2 : Hid (∀ q ∈ L, ∀ b, q.2.2.ownBlock = some b → (Value.slice (some ⟨W.heap.size, 0, none⟩) opn.length opn.length).ownBlock ≠ some b) := fun q hq b hb => own_new (hL3.1 q hq).2 (Nat.le_refl _) b hb
  have S2 := S1.out.below b2
  have hlt2 : W.heap.size < w2.heap.size := r2.lt
  have ok2 := row_own (B := c3) (e := 3) (zs := opn) hg3 (by unfold maxLen; omega) r2
  have o2 : OwnIts w2 c3 (.slice (some ⟨c3, 0, none⟩) its.length its.length) its := O1.out.keep b2
  have HL2 : Hid (L.map (·.1) = its ∧ w2.ownsRow c3 50 7 (.slice (some ⟨c3, 0, none⟩) its.length its.length) L.length (itCells L) ∧ OwnEachI w2 c3 L) := ⟨hL1, owns_below hL2 (Nat.le_refl _) b2, hL3.keep b2⟩
  clear S1 O1 o2 r2 b2 hL1 hL2 hL3
  have HG : Hid (c3 ≤ W.heap.size) := hg3
  clear hg3
  generalize W.heap.size = g at *
  have x2 := (S2.1.2 2 (by omega)).1
  have y1 := (S2.2.2.1.2 1 (by omega)).1
  have z1 := (S2.2.2.1.2 1 (by omega)).2
  simp at x2 y1
  have S3 : Hid (PgSt w (w2.setCell ⟨c2, 1, none⟩ (.slice (some ⟨g, 0, none⟩) opn.length opn.length)) w.heap.size c1 c2 _ _ _) := S2.set n20 n21 l2 1 _
  have HL3 : Hid (L.map (·.1) = its ∧ (w2.setCell ⟨c2, 1, none⟩ (.slice (some ⟨g, 0, none⟩) opn.length opn.length)).ownsRow c3 50 7 (.slice (some ⟨c3, 0, none⟩) its.length its.length) L.length (itCells L) ∧ OwnEachI (w2.setCell ⟨c2, 1, none⟩ (.slice (some ⟨g, 0, none⟩) opn.length opn.length)) c3 L) := ⟨HL2.out.1, row_set_low HL2.out.2.1 l23 _, ⟨fun q hq => ⟨row_set_low (HL2.out.2.2.1 q hq).1 l23 _, row_set_low (HL2.out.2.2.1 q hq).2 l23 _⟩, HL2.out.2.2.2⟩⟩
  have HO3 : Hid (World.ownsRow (w2.setCell ⟨c2, 1, none⟩ (.slice (some ⟨g, 0, none⟩) opn.length opn.length)) c3 3 1 (.slice (some ⟨g, 0, none⟩) opn.length opn.length) opn.length (intCellsI opn)) := row_set_low ok2 l23 _
  clear S2 ok2 HL2
  go_wp2_with fail
  refine (CF.out _ S3.out.2.2.2).mono ?_
  rintro e w3 ⟨rfl, r3, b3⟩
  clear x2 y1 z1 CF
  obtain ⟨W', HW'⟩ : ∃ W', Hid (W' = w2.setCell ⟨c2, 1, none⟩ (.slice (some ⟨g, 0, none⟩) opn.length opn.length)) := ⟨_, rfl⟩
  rw [← HW'.out] at S3 HL3 HO3 r3 b3 ⊢
  clear HW'
  have hg4 : c3 ≤ W'.heap.size := Nat.le_trans HG.out (Nat.le_of_lt (HO3.out.lt g rfl).2)
  have HK3 : Hid (∀ q ∈ L, ∀ b, q.2.2.ownBlock = some b → (Value.slice (some ⟨W'.heap.size, 0, none⟩) fms.length fms.length).ownBlock ≠ some b) := fun q hq b hb => own_new (HL3.out.2.2.1 q hq).2 (Nat.le_refl _) b hb
  have HK4 : Hid (∀ b, (Value.slice (some ⟨g, 0, none⟩) opn.length opn.length).ownBlock = some b → (Value.slice (some ⟨W'.heap.size, 0, none⟩) fms.length fms.length).ownBlock ≠ some b) := fun b hb => own_new HO3.out (Nat.le_refl _) b hb
  have S4 := S3.out.below b3
  have ok3 := row_own (B := c3) (e := 3) (zs := fms) hg4 (by unfold maxLen; omega) r3
  have oo3 := owns_below HO3.out (Nat.le_refl _) b3
  have HL4 : Hid (L.map (·.1) = its ∧ w3.ownsRow c3 50 7 (.slice (some ⟨c3, 0, none⟩) its.length its.length) L.length (itCells L) ∧ OwnEachI w3 c3 L) := ⟨HL3.out.1, owns_below HL3.out.2.1 (Nat.le_refl _) b3, HL3.out.2.2.keep b3⟩
  clear S3 HL3 HO3 r3 b3 hg4
  generalize W'.heap.size = g' at *
  have OP : OwnPg3 w3 c3 (.slice (some ⟨c3, 0, none⟩) its.length its.length) (.slice (some ⟨g, 0, none⟩) opn.length opn.length) (.slice (some ⟨g', 0, none⟩) fms.length fms.length) ⟨its, opn, fms, hd, bd⟩ :=
    ⟨L, HL4.out.1, HL4.out.2.1, HL4.out.2.2, oo3, ok3, HK4.out, fun q hq b hb => ⟨HK2.out q hq b hb, HK3.out q hq b hb⟩⟩
  clear HL4 oo3 ok3 HK2 HK3 HK4 HG hlt2
  have x3 := (S4.1.2 3 (by omega)).1
  have x4 := (S4.1.2 4 (by omega)).1
  have y0 := (S4.2.2.1.2 0 (by omega)).1
  have z0 := (S4.2.2.1.2 0 (by omega)).2
  have r0 := (S4.2.1.2 0 (by omega)).1
  have s0 := (S4.2.1.2 0 (by omega)).2
  have y1 := (S4.2.2.1.2 1 (by omega)).1
  have z1 := (S4.2.2.1.2 1 (by omega)).2
  have r1 := (S4.2.1.2 1 (by omega)).1
  have s1 := (S4.2.1.2 1 (by omega)).2
  have y2 := (S4.2.2.1.2 2 (by omega)).1
  have z2 := (S4.2.2.1.2 2 (by omega)).2
  have r2 := (S4.2.1.2 2 (by omega)).1
  have s2 := (S4.2.1.2 2 (by omega)).2
  have y3 := (S4.2.2.1.2 3 (by omega)).1
  have z3 := (S4.2.2.1.2 3 (by omega)).2
  have r3 := (S4.2.1.2 3 (by omega)).1
  have s3 := (S4.2.1.2 3 (by omega)).2
  have y4 := (S4.2.2.1.2 4 (by omega)).1
  have z4 := (S4.2.2.1.2 4 (by omega)).2
  have r4 := (S4.2.1.2 4 (by omega)).1
  have s4 := (S4.2.1.2 4 (by omega)).2
  simp at x3 x4 y0 y1 y2 y3 y4 r0 r1 r2 r3 r4
  have HM : Hid (Many 5 ((((((((w3.setCell ⟨c2, 2, none⟩ (.slice (some ⟨g', 0, none⟩) fms.length fms.length)).setCell ⟨c2, 3, none⟩ (.int .i64 hd)).setCell ⟨c2, 4, none⟩ (.int .i64 bd)).setCell ⟨c1, 0, none⟩ (.slice (some ⟨c3, 0, none⟩) its.length its.length)).setCell ⟨c1, 1, none⟩ (.slice (some ⟨g, 0, none⟩) opn.length opn.length)).setCell ⟨c1, 2, none⟩ (.slice (some ⟨g', 0, none⟩) fms.length fms.length)).setCell ⟨c1, 3, none⟩ (.int .i64 hd)).setCell ⟨c1, 4, none⟩ (.int .i64 bd)) c1 _) := ((((((((S4.2.1.other n21 (i := 2) (.slice (some ⟨g', 0, none⟩) fms.length fms.length)).other n21 (i := 3) (.int .i64 hd)).other n21 (i := 4) (.int .i64 bd)).set (i := 0) (.slice (some ⟨c3, 0, none⟩) its.length its.length)).set (i := 1) (.slice (some ⟨g, 0, none⟩) opn.length opn.length)).set (i := 2) (.slice (some ⟨g', 0, none⟩) fms.length fms.length)).set (i := 3) (.int .i64 hd)).set (i := 4) (.int .i64 bd))
  have HP : Hid (OwnPg3 ((((((((w3.setCell ⟨c2, 2, none⟩ (.slice (some ⟨g', 0, none⟩) fms.length fms.length)).setCell ⟨c2, 3, none⟩ (.int .i64 hd)).setCell ⟨c2, 4, none⟩ (.int .i64 bd)).setCell ⟨c1, 0, none⟩ (.slice (some ⟨c3, 0, none⟩) its.length its.length)).setCell ⟨c1, 1, none⟩ (.slice (some ⟨g, 0, none⟩) opn.length opn.length)).setCell ⟨c1, 2, none⟩ (.slice (some ⟨g', 0, none⟩) fms.length fms.length)).setCell ⟨c1, 3, none⟩ (.int .i64 hd)).setCell ⟨c1, 4, none⟩ (.int .i64 bd)) w.heap.size (.slice (some ⟨c3, 0, none⟩) its.length its.length) (.slice (some ⟨g, 0, none⟩) opn.length opn.length) (.slice (some ⟨g', 0, none⟩) fms.length fms.length) ⟨its, opn, fms, hd, bd⟩) := OwnPg3.base ((((((((OP.set_low (i := 2) l23 (.slice (some ⟨g', 0, none⟩) fms.length fms.length)).set_low (i := 3) l23 (.int .i64 hd)).set_low (i := 4) l23 (.int .i64 bd)).set_low (i := 0) l13 (.slice (some ⟨c3, 0, none⟩) its.length its.length)).set_low (i := 1) l13 (.slice (some ⟨g, 0, none⟩) opn.length opn.length)).set_low (i := 2) l13 (.slice (some ⟨g', 0, none⟩) fms.length fms.length)).set_low (i := 3) l13 (.int .i64 hd)).set_low (i := 4) l13 (.int .i64 bd)) (Nat.le_trans l2 (Nat.le_of_lt l23))
  have HB : Hid (Below w.heap.size w ((((((((w3.setCell ⟨c2, 2, none⟩ (.slice (some ⟨g', 0, none⟩) fms.length fms.length)).setCell ⟨c2, 3, none⟩ (.int .i64 hd)).setCell ⟨c2, 4, none⟩ (.int .i64 bd)).setCell ⟨c1, 0, none⟩ (.slice (some ⟨c3, 0, none⟩) its.length its.length)).setCell ⟨c1, 1, none⟩ (.slice (some ⟨g, 0, none⟩) opn.length opn.length)).setCell ⟨c1, 2, none⟩ (.slice (some ⟨g', 0, none⟩) fms.length fms.length)).setCell ⟨c1, 3, none⟩ (.int .i64 hd)).setCell ⟨c1, 4, none⟩ (.int .i64 bd))) := ((((((((S4.2.2.2.setCell (p := ⟨c2, 2, none⟩) l2 (.slice (some ⟨g', 0, none⟩) fms.length fms.length)).setCell (p := ⟨c2, 3, none⟩) l2 (.int .i64 hd)).setCell (p := ⟨c2, 4, none⟩) l2 (.int .i64 bd)).setCell (p := ⟨c1, 0, none⟩) l1 (.slice (some ⟨c3, 0, none⟩) its.length its.length)).setCell (p := ⟨c1, 1, none⟩) l1 (.slice (some ⟨g, 0, none⟩) opn.length opn.length)).setCell (p := ⟨c1, 2, none⟩) l1 (.slice (some ⟨g', 0, none⟩) fms.length fms.length)).setCell (p := ⟨c1, 3, none⟩) l1 (.int .i64 hd)).setCell (p := ⟨c1, 4, none⟩) l1 (.int .i64 bd))
  clear S4 OP
  go_wp2_with fail
  refine bodyPost_ret (v := .agg #[(.slice (some ⟨c3, 0, none⟩) its.length its.length), (.slice (some ⟨g, 0, none⟩) opn.length opn.length), (.slice (some ⟨g', 0, none⟩) fms.length fms.length), .int .i64 hd, .int .i64 bd]) ?_ rfl ⟨_, _, _, rfl, HP.out, HB.out⟩
  have t0 := (HM.out.2 0 (by omega)).1
  have t1 := (HM.out.2 1 (by omega)).1
  have t2 := (HM.out.2 2 (by omega)).1
  have t3 := (HM.out.2 3 (by omega)).1
  have t4 := (HM.out.2 4 (by omega)).1
  simp at t0 t1 t2 t3 t4
  simp [results, Try.results14, go_sem, t0, t1, t2, t3, t4]

end Go.Proofs.Ytlnegnikedinaaa.Sg
