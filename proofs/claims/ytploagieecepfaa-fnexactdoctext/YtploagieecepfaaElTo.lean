/- The laws' elements, laid anew: one, where its kids are. First written by mk_elto.py (ToElC, CapV: by hand). -/
import Derived.Test.YtploagieecepfaaElSz
import Derived.Test.YtploagieecepfaaLwTo3
import Derived.Test.YtploagieecepfaaGMany
namespace Go.Proofs.Ytploagieecepfaa.Sg
open Go.ChangeShapes Go.WideShapes Go.ChangeAt Go.RowKit

/-- From some block on two worlds are one. -/
def Agr (lo : Nat) (w w' : World) : Prop := (∀ b, lo ≤ b → w'.heap[b]? = w.heap[b]?) ∧ w.heap.size ≤ w'.heap.size
theorem Agr.refl (lo : Nat) (w : World) : Agr lo w w := ⟨fun _ _ => rfl, Nat.le_refl _⟩
theorem Agr.trans {lo : Nat} {a b c : World} (h : Agr lo a b) (k : Agr lo b c) : Agr lo a c := ⟨fun x hx => (k.1 x hx).trans (h.1 x hx), Nat.le_trans h.2 k.2⟩
theorem Agr.set {lo c : Nat} (w : World) (i : Nat) (v : Value) (h : c < lo) : Agr lo w (w.setCell ⟨c, i, none⟩ v) := ⟨fun b hb => Below.heap_setCell _ _ _ _ (by show b ≠ c; omega), by simp [World.setCell]⟩
/-- Attributes that were laid from some block on. -/
def QA (lo : Nat) (w : World) (v : Value) (l : List AttrB) : Prop := ∃ x c, v = .slice x l.length c ∧ (∀ b o m, x = some ⟨b, o, m⟩ → lo ≤ b) ∧ (∀ b o m, x = some ⟨b, o, m⟩ → b < w.heap.size) ∧ AttrsAt w x l ∧ l.length ≤ c
theorem QA.lies (lo : Nat) : Lies (QA lo) := ⟨fun ⟨x, c, e, h1, h2, h3, h4⟩ hb => ⟨x, c, e, h1, fun b o m h => Nat.lt_of_lt_of_le (h2 b o m h) hb.size, h3.below hb, h4⟩, fun ⟨_, c, e, _⟩ => ⟨_, c, e⟩⟩
theorem QA.liesP (lo : Nat) : LiesP (QA lo) (lo ≤ ·) := ⟨fun {w w' v l} h hb hs => by
  obtain ⟨x, c, e, h1, h2, h3, h6⟩ := h
  refine ⟨x, c, e, h1, fun b o m h => Nat.lt_of_lt_of_le (h2 b o m h) hs, ?_, h6⟩
  rcases h3 with h3 | ⟨b', e', h4, h5⟩
  · exact .inl h3
  · subst e'
    have hc := hb b' (h1 _ _ _ rfl)
    exact .inr ⟨b', rfl, Nat.lt_of_lt_of_le h4 hs, fun k hk => ⟨(cell_agree hc).trans (h5 k hk).1, (cell_agree hc).trans (h5 k hk).2⟩⟩⟩
theorem QA.wider {lo lo' : Nat} (h : lo' ≤ lo) {w : World} {v : Value} {l : List AttrB} (hq : QA lo w v l) : QA lo' w v l := by
  obtain ⟨x, c, e, h1, h2, h3, h4⟩ := hq
  exact ⟨x, c, e, fun b o m hx => Nat.le_trans h (h1 b o m hx), h2, h3, h4⟩
mutual
/-- Lists that can be laid. -/
def ElLight : ElB → Prop
  | .mk _ _ _ ats _ ks => ats.length ≤ 1099511627776 ∧ ks.length ≤ 1099511627776 ∧ ElsLight ks
def ElsLight : List ElB → Prop
  | [] => True
  | e :: es => ElLight e ∧ ElsLight es
end
theorem ElsLight.get : ∀ {es : List ElB}, ElsLight es → ∀ e ∈ es, ElLight e
  | [], _, _, h => nomatch h
  | x :: xs, h, e, hm => by
    unfold ElsLight at h
    rcases List.mem_cons.1 hm with rfl | hm
    · exact h.1
    · exact h.2.get e hm
def ToEl (e : ElB) : Prop := ∀ (v : Value) (w : World), ElV SlAttrsIn anyB w v e → ElLight e → Calls Try.prog 13 #[v] w fun r w' => ∃ v', r = .returned v' ∧ ElV (QA w.heap.size) (w.heap.size ≤ ·) w' v' e ∧ Below w.heap.size w w'
def ToElS (es : List ElB) : Prop := ∀ (a : Option Addr) (n cap : Nat) (w : World), KidsIn SlAttrsIn anyB w a es → es.length = n → n ≤ 1099511627776 → ElsLight es → Calls Try.prog 7 #[.slice a n cap] w fun r w' => r = .returned (.slice (some ⟨w.heap.size, 0, none⟩) n n) ∧ KidsIn (QA w.heap.size) (w.heap.size ≤ ·) w' (some ⟨w.heap.size, 0, none⟩) es ∧ Below w.heap.size w w'
/-- With room for the kids. -/
def ToElC (e : ElB) : Prop := ∀ (v : Value) (w : World), ElV SlAttrsIn anyB w v e → ElLight e → Calls Try.prog 13 #[v] w fun r w' => ∃ v', r = .returned v' ∧ ElV (QA w.heap.size) (w.heap.size ≤ ·) w' v' e ∧ CapV (w.heap.size ≤ ·) w' v' e ∧ Below w.heap.size w w'
def ToElSC (es : List ElB) : Prop := ∀ (a : Option Addr) (n cap : Nat) (w : World), KidsIn SlAttrsIn anyB w a es → es.length = n → n ≤ 1099511627776 → ElsLight es → Calls Try.prog 7 #[.slice a n cap] w fun r w' => r = .returned (.slice (some ⟨w.heap.size, 0, none⟩) n n) ∧ KidsIn (QA w.heap.size) (w.heap.size ≤ ·) w' (some ⟨w.heap.size, 0, none⟩) es ∧ CapK (w.heap.size ≤ ·) w' (some ⟨w.heap.size, 0, none⟩) es ∧ Below w.heap.size w w'

set_option maxRecDepth 20000 in
set_option maxHeartbeats 8000000 in
theorem toEl_of (kd sp : Int) (nm : ByteArray) (ats : List AttrB) (tx : ByteArray) (ks : List ElB) (hB : ToElSC ks) : ToElC (.mk kd sp nm ats tx ks) := by
  intro v w hv hl
  obtain ⟨av, ka, kc, rfl, ⟨a, cap, rfl, hA⟩, hk⟩ := hv
  unfold ElLight at hl
  obtain ⟨hn, hkn, hkl⟩ := hl
  have HA : Hid (∀ W, Below w.heap.size w W → Calls Try.prog 24 #[.slice a ats.length cap] W fun e w' => e = .returned (.slice (some ⟨W.heap.size, 0, none⟩) ats.length ats.length) ∧ QA W.heap.size w' (.slice (some ⟨W.heap.size, 0, none⟩) ats.length ats.length) ats ∧ Below W.heap.size W w') := fun W hW => (toAttrS_any ats a ats.length cap W (hA.keep hW) rfl hn).mono fun e w' h => ⟨h.1, by
    obtain ⟨a', c', e', h2⟩ := attrs_of_own h.2.1
    cases e'
    exact ⟨_, _, rfl, fun b o m hx => (by cases hx; exact Nat.le_refl _), fun b o m hx => (by cases hx; exact (h.2.1.lt _ rfl).2), h2, Nat.le_refl _⟩, h.2.2⟩
  have HI : Hid (∀ W, Below w.heap.size w W → Calls Try.prog 7 #[.slice ka ks.length kc] W fun e w' => e = .returned (.slice (some ⟨W.heap.size, 0, none⟩) ks.length ks.length) ∧ KidsIn (QA W.heap.size) (W.heap.size ≤ ·) w' (some ⟨W.heap.size, 0, none⟩) ks ∧ CapK (W.heap.size ≤ ·) w' (some ⟨W.heap.size, 0, none⟩) ks ∧ Below W.heap.size W w') := fun W hW => hB ka ks.length kc W (hk.keep lies_in hW) rfl hkn hkl
  clear hA hk hB hkl
  go_enter Try.func13, Try.ntmps13
  go_wp2_with fail
  refine (HA.out _ ?_).mono ?_
  · exact (((Below.refl _ _).alloc (Nat.le_refl _) _).alloc (by simp) _).alloc (by simp; omega) _
  rintro e w1 ⟨rfl, o1, b1⟩
  have e1 : (w.alloc (.cells #[.int .i64 kd, .int .i64 sp, .string nm, .slice a ats.length cap, .string tx, .slice ka ks.length kc] 32)).heap.size = w.heap.size + 1 := by simp
  have e2 : ((w.alloc (.cells #[.int .i64 kd, .int .i64 sp, .string nm, .slice a ats.length cap, .string tx, .slice ka ks.length kc] 32)).alloc (.cells #[.int .i64 0, .int .i64 0, .string ⟨#[]⟩, .slice none 0 0, .string ⟨#[]⟩, .slice none 0 0] 35)).heap.size = w.heap.size + 1 + 1 := by simp
  have e3 : (((w.alloc (.cells #[.int .i64 kd, .int .i64 sp, .string nm, .slice a ats.length cap, .string tx, .slice ka ks.length kc] 32)).alloc (.cells #[.int .i64 0, .int .i64 0, .string ⟨#[]⟩, .slice none 0 0, .string ⟨#[]⟩, .slice none 0 0] 35)).alloc (.cells #[.int .i64 kd, .int .i64 sp, .string nm, .slice none 0 0, .string ⟨#[]⟩, .slice none 0 0] 35)).heap.size = w.heap.size + 1 + 1 + 1 := by simp
  have F0 : Many 6 w1 w.heap.size (fun i => [Value.int .i64 kd, .int .i64 sp, .string nm, .slice a ats.length cap, .string tx, .slice ka ks.length kc].getD i undef) :=
    ((Many.new w [Value.int .i64 kd, .int .i64 sp, .string nm, .slice a ats.length cap, .string tx, .slice ka ks.length kc] 32 undef).below (B := w.heap.size + 1) (Nat.lt_succ_self _) (((Below.refl _ _).alloc (by rw [e1]; exact Nat.le_refl _) _).alloc (by rw [e2]; omega) _)).below (by rw [e3]; omega) b1
  have F1 : Many 6 w1 (w.heap.size + 1) (fun i => [Value.int .i64 0, .int .i64 0, .string ⟨#[]⟩, .slice none 0 0, .string ⟨#[]⟩, .slice none 0 0].getD i undef) := by
    have h := Many.new (w.alloc (.cells #[.int .i64 kd, .int .i64 sp, .string nm, .slice a ats.length cap, .string tx, .slice ka ks.length kc] 32)) [Value.int .i64 0, .int .i64 0, .string ⟨#[]⟩, .slice none 0 0, .string ⟨#[]⟩, .slice none 0 0] 35 undef
    rw [e1] at h
    exact (h.below (B := w.heap.size + 1 + 1) (Nat.lt_succ_self _) ((Below.refl _ _).alloc (by rw [e2]; exact Nat.le_refl _) _)).below (by rw [e3]; omega) b1
  have F2 : Many 6 w1 (w.heap.size + 1 + 1) (fun i => [Value.int .i64 kd, .int .i64 sp, .string nm, .slice none 0 0, .string ⟨#[]⟩, .slice none 0 0].getD i undef) := by
    have h := Many.new ((w.alloc (.cells #[.int .i64 kd, .int .i64 sp, .string nm, .slice a ats.length cap, .string tx, .slice ka ks.length kc] 32)).alloc (.cells #[.int .i64 0, .int .i64 0, .string ⟨#[]⟩, .slice none 0 0, .string ⟨#[]⟩, .slice none 0 0] 35)) [Value.int .i64 kd, .int .i64 sp, .string nm, .slice none 0 0, .string ⟨#[]⟩, .slice none 0 0] 35 undef
    rw [e2] at h
    exact h.below (by rw [e3]; omega) b1
  have bW : Below w.heap.size w w1 := ((((Below.refl _ _).alloc (Nat.le_refl _) _).alloc (by simp) _).alloc (by simp; omega) _).trans (b1.mono (by simp; omega))
  have hs1 : w.heap.size + 1 + 1 + 1 ≤ w1.heap.size := by have := b1.size; rw [e3] at this; exact this
  rw [e3] at o1 ⊢
  clear b1 e1 e2 e3 HA
  have HE : Hid (w.heap.size < w.heap.size + 1 ∧ w.heap.size + 1 < w.heap.size + 1 + 1 ∧ w.heap.size + 1 + 1 < w.heap.size + 1 + 1 + 1) := by
    show _ ∧ _ ∧ _
    omega
  generalize w.heap.size + 1 + 1 + 1 = c3 at *
  generalize w.heap.size + 1 + 1 = c2 at *
  generalize w.heap.size + 1 = c1 at *
  have x4 := (F0.2 4 (by omega)).1
  have x5 := (F0.2 5 (by omega)).1
  have y3 := (F2.2 3 (by omega)).1
  have y4 := (F2.2 4 (by omega)).1
  have z3 := (F2.2 3 (by omega)).2
  have z4 := (F2.2 4 (by omega)).2
  simp only [List.getD_cons_zero, List.getD_cons_succ] at x4 x5 y3 y4
  have n02 : w.heap.size ≠ c2 := by have := HE.out; omega
  have n20 : c2 ≠ w.heap.size := Ne.symm n02
  have n12 : c1 ≠ c2 := by have := HE.out; omega
  have n21 : c2 ≠ c1 := Ne.symm n12
  have l1 : w.heap.size ≤ c1 := by have := HE.out; omega
  have l2 : w.heap.size ≤ c2 := by have := HE.out; omega
  have l13 : c1 < c3 := by have := HE.out; omega
  have l23 : c2 < c3 := by have := HE.out; omega
  have l3 : w.heap.size ≤ c3 := by have := HE.out; omega
  have HF1 : Hid (Many 6 ((w1.setCell ⟨c2, 3, none⟩ (.slice (some ⟨c3, 0, none⟩) ats.length ats.length)).setCell ⟨c2, 4, none⟩ (.string tx)) c1 _) := (F1.other n21 _).other n21 _
  have HF2 : Hid (Many 6 ((w1.setCell ⟨c2, 3, none⟩ (.slice (some ⟨c3, 0, none⟩) ats.length ats.length)).setCell ⟨c2, 4, none⟩ (.string tx)) c2 _) := (F2.set (i := 3) _).set (i := 4) _
  have HB : Hid (Below w.heap.size w ((w1.setCell ⟨c2, 3, none⟩ (.slice (some ⟨c3, 0, none⟩) ats.length ats.length)).setCell ⟨c2, 4, none⟩ (.string tx))) := (bW.setCell (p := ⟨c2, 3, none⟩) l2 _).setCell (p := ⟨c2, 4, none⟩) l2 _
  have GA := (Agr.set w1 3 (.slice (some ⟨c3, 0, none⟩) ats.length ats.length) l23).trans (Agr.set _ 4 (.string tx) l23)
  have HO : Hid (QA c3 ((w1.setCell ⟨c2, 3, none⟩ (.slice (some ⟨c3, 0, none⟩) ats.length ats.length)).setCell ⟨c2, 4, none⟩ (.string tx)) (.slice (some ⟨c3, 0, none⟩) ats.length ats.length) ats) := (QA.liesP c3).agree o1 GA.1 GA.2
  have HS : Hid (c3 ≤ ((w1.setCell ⟨c2, 3, none⟩ (.slice (some ⟨c3, 0, none⟩) ats.length ats.length)).setCell ⟨c2, 4, none⟩ (.string tx)).heap.size) := Nat.le_trans hs1 GA.2
  clear F0 F1 F2 o1 GA hs1
  go_wp2_with fail
  refine (HI.out _ HB.out).mono ?_
  rintro e w2 ⟨rfl, r2, k2, b2⟩
  clear x4 x5 y3 y4 z3 z4
  obtain ⟨W, HW⟩ : ∃ W, Hid (W = ((w1.setCell ⟨c2, 3, none⟩ (.slice (some ⟨c3, 0, none⟩) ats.length ats.length)).setCell ⟨c2, 4, none⟩ (.string tx))) := ⟨_, rfl⟩
  rw [← HW.out] at HF1 HF2 HB HO HS r2 k2 b2 ⊢
  clear HW
  have lg1 : c1 < W.heap.size := HF1.out.1
  have lg2 : c2 < W.heap.size := HF2.out.1
  have lgw : w.heap.size ≤ W.heap.size := HB.out.size
  have lg3 : c3 ≤ W.heap.size := HS.out
  have G1 := HF1.out.below lg1 b2
  have G2 := HF2.out.below lg2 b2
  have ob := (QA.lies c3).keep HO.out b2
  have bw2 : Below w.heap.size w w2 := HB.out.trans (b2.mono lgw)
  clear HF1 HF2 HB HO b2 HS
  generalize W.heap.size = g at *
  have y0 := (G2.2 0 (by omega)).1
  have y1 := (G2.2 1 (by omega)).1
  have y2 := (G2.2 2 (by omega)).1
  have y3 := (G2.2 3 (by omega)).1
  have y4 := (G2.2 4 (by omega)).1
  have y5 := (G2.2 5 (by omega)).1
  have z5 := (G2.2 5 (by omega)).2
  have r0 := (G1.2 0 (by omega)).1
  have r1 := (G1.2 1 (by omega)).1
  have r2' := (G1.2 2 (by omega)).1
  have r3 := (G1.2 3 (by omega)).1
  have r4 := (G1.2 4 (by omega)).1
  have r5 := (G1.2 5 (by omega)).1
  have s0 := (G1.2 0 (by omega)).2
  have s1 := (G1.2 1 (by omega)).2
  have s2 := (G1.2 2 (by omega)).2
  have s3 := (G1.2 3 (by omega)).2
  have s4 := (G1.2 4 (by omega)).2
  have s5 := (G1.2 5 (by omega)).2
  simp at y0 y1 y2 y3 y4 y5 r0 r1 r2' r3 r4 r5
  have HFF : Hid (Many 6 (((((((w2.setCell ⟨c2, 5, none⟩ (.slice (some ⟨g, 0, none⟩) ks.length ks.length)).setCell ⟨c1, 0, none⟩ (.int .i64 kd)).setCell ⟨c1, 1, none⟩ (.int .i64 sp)).setCell ⟨c1, 2, none⟩ (.string nm)).setCell ⟨c1, 3, none⟩ (.slice (some ⟨c3, 0, none⟩) ats.length ats.length)).setCell ⟨c1, 4, none⟩ (.string tx)).setCell ⟨c1, 5, none⟩ (.slice (some ⟨g, 0, none⟩) ks.length ks.length)) c1 _) := ((((((G1.other n21 (i := 5) (.slice (some ⟨g, 0, none⟩) ks.length ks.length)).set (i := 0) (.int .i64 kd)).set (i := 1) (.int .i64 sp)).set (i := 2) (.string nm)).set (i := 3) (.slice (some ⟨c3, 0, none⟩) ats.length ats.length)).set (i := 4) (.string tx)).set (i := 5) (.slice (some ⟨g, 0, none⟩) ks.length ks.length)
  have AG : Agr c3 w2 (((((((w2.setCell ⟨c2, 5, none⟩ (.slice (some ⟨g, 0, none⟩) ks.length ks.length)).setCell ⟨c1, 0, none⟩ (.int .i64 kd)).setCell ⟨c1, 1, none⟩ (.int .i64 sp)).setCell ⟨c1, 2, none⟩ (.string nm)).setCell ⟨c1, 3, none⟩ (.slice (some ⟨c3, 0, none⟩) ats.length ats.length)).setCell ⟨c1, 4, none⟩ (.string tx)).setCell ⟨c1, 5, none⟩ (.slice (some ⟨g, 0, none⟩) ks.length ks.length)) := ((((((Agr.set w2 5 (.slice (some ⟨g, 0, none⟩) ks.length ks.length) l23).trans (Agr.set _ 0 (.int .i64 kd) l13)).trans (Agr.set _ 1 (.int .i64 sp) l13)).trans (Agr.set _ 2 (.string nm) l13)).trans (Agr.set _ 3 (.slice (some ⟨c3, 0, none⟩) ats.length ats.length) l13)).trans (Agr.set _ 4 (.string tx) l13)).trans (Agr.set _ 5 (.slice (some ⟨g, 0, none⟩) ks.length ks.length) l13)
  have HOA : Hid (QA w.heap.size (((((((w2.setCell ⟨c2, 5, none⟩ (.slice (some ⟨g, 0, none⟩) ks.length ks.length)).setCell ⟨c1, 0, none⟩ (.int .i64 kd)).setCell ⟨c1, 1, none⟩ (.int .i64 sp)).setCell ⟨c1, 2, none⟩ (.string nm)).setCell ⟨c1, 3, none⟩ (.slice (some ⟨c3, 0, none⟩) ats.length ats.length)).setCell ⟨c1, 4, none⟩ (.string tx)).setCell ⟨c1, 5, none⟩ (.slice (some ⟨g, 0, none⟩) ks.length ks.length)) (.slice (some ⟨c3, 0, none⟩) ats.length ats.length) ats) := ((QA.liesP c3).agree ob AG.1 AG.2).wider l3
  have HOK : Hid (KidsIn (QA w.heap.size) (w.heap.size ≤ ·) (((((((w2.setCell ⟨c2, 5, none⟩ (.slice (some ⟨g, 0, none⟩) ks.length ks.length)).setCell ⟨c1, 0, none⟩ (.int .i64 kd)).setCell ⟨c1, 1, none⟩ (.int .i64 sp)).setCell ⟨c1, 2, none⟩ (.string nm)).setCell ⟨c1, 3, none⟩ (.slice (some ⟨c3, 0, none⟩) ats.length ats.length)).setCell ⟨c1, 4, none⟩ (.string tx)).setCell ⟨c1, 5, none⟩ (.slice (some ⟨g, 0, none⟩) ks.length ks.length)) (some ⟨g, 0, none⟩) ks) := by
    rcases r2 with h | ⟨kb, ko, e, hp, h⟩
    · exact .inl h
    · refine .inr ⟨kb, ko, e, Nat.le_trans lgw hp, ?_⟩
      exact ((h.agree (QA.liesP g) (fun b hb => AG.1 b (Nat.le_trans lg3 hb)) AG.2 _ _ _ hp)).wider (fun v l hq => hq.wider lgw) (fun b hb => Nat.le_trans lgw hb) _ _ _
  have HCK : Hid (CapK (w.heap.size ≤ ·) (((((((w2.setCell ⟨c2, 5, none⟩ (.slice (some ⟨g, 0, none⟩) ks.length ks.length)).setCell ⟨c1, 0, none⟩ (.int .i64 kd)).setCell ⟨c1, 1, none⟩ (.int .i64 sp)).setCell ⟨c1, 2, none⟩ (.string nm)).setCell ⟨c1, 3, none⟩ (.slice (some ⟨c3, 0, none⟩) ats.length ats.length)).setCell ⟨c1, 4, none⟩ (.string tx)).setCell ⟨c1, 5, none⟩ (.slice (some ⟨g, 0, none⟩) ks.length ks.length)) (some ⟨g, 0, none⟩) ks) := k2.agree (fun b hb => Nat.le_trans lgw hb) (fun b hb => AG.1 b (Nat.le_trans lg3 hb))
  have HBB : Below w.heap.size w (((((((w2.setCell ⟨c2, 5, none⟩ (.slice (some ⟨g, 0, none⟩) ks.length ks.length)).setCell ⟨c1, 0, none⟩ (.int .i64 kd)).setCell ⟨c1, 1, none⟩ (.int .i64 sp)).setCell ⟨c1, 2, none⟩ (.string nm)).setCell ⟨c1, 3, none⟩ (.slice (some ⟨c3, 0, none⟩) ats.length ats.length)).setCell ⟨c1, 4, none⟩ (.string tx)).setCell ⟨c1, 5, none⟩ (.slice (some ⟨g, 0, none⟩) ks.length ks.length)) := ((((((bw2.setCell (p := ⟨c2, 5, none⟩) l2 (.slice (some ⟨g, 0, none⟩) ks.length ks.length)).setCell (p := ⟨c1, 0, none⟩) l1 (.int .i64 kd)).setCell (p := ⟨c1, 1, none⟩) l1 (.int .i64 sp)).setCell (p := ⟨c1, 2, none⟩) l1 (.string nm)).setCell (p := ⟨c1, 3, none⟩) l1 (.slice (some ⟨c3, 0, none⟩) ats.length ats.length)).setCell (p := ⟨c1, 4, none⟩) l1 (.string tx)).setCell (p := ⟨c1, 5, none⟩) l1 (.slice (some ⟨g, 0, none⟩) ks.length ks.length)
  clear G1 G2 ob bw2 AG r2 k2
  go_wp2_with fail
  refine bodyPost_ret (v := .agg #[.int .i64 kd, .int .i64 sp, .string nm, (.slice (some ⟨c3, 0, none⟩) ats.length ats.length), .string tx, (.slice (some ⟨g, 0, none⟩) ks.length ks.length)]) ?_ rfl ⟨_, rfl, ⟨_, _, _, rfl, HOA.out, HOK.out⟩, ⟨_, _, _, _, _, _, _, rfl, Nat.le_refl _, HCK.out⟩, HBB⟩
  have t0 := (HFF.out.2 0 (by omega)).1
  have t1 := (HFF.out.2 1 (by omega)).1
  have t2 := (HFF.out.2 2 (by omega)).1
  have t3 := (HFF.out.2 3 (by omega)).1
  have t4 := (HFF.out.2 4 (by omega)).1
  have t5 := (HFF.out.2 5 (by omega)).1
  simp at t0 t1 t2 t3 t4 t5
  simp [results, Try.results13, go_sem, t0, t1, t2, t3, t4, t5]

end Go.Proofs.Ytploagieecepfaa.Sg
