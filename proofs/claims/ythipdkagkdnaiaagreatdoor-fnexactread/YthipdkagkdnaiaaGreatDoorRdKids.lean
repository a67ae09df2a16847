/- Contract of the model's l19Kids, out of one of l19El. Written by mk_rdkids.py. -/
import Derived.Test.YthipdkagkdnaiaaGreatDoorRdAttrs
import Derived.Test.YthipdkagkdnaiaaGreatDoorRdRow
import Derived.Test.YthipdkagkdnaiaaGreatDoorMRD04
import Derived.Test.YthipdkagkdnaiaaGreatDoorElSpec
namespace Go.Proofs.YthipdkagkdnaiaaGreatDoor.Sg
open Go.ChangeShapes Go.WideShapes Go.ChangeAt Go.RowKit

theorem six_cells (w : World) (a b c d e f : Value) (t : TypeId) (g : Nat) (hg : g = w.heap.size) : ∀ j u, ([a, b, c, d, e, f])[j]? = some u → (w.alloc (.cells #[a, b, c, d, e, f] t)).cell? ((⟨g, 0, none⟩ : Addr).add j) = some u := by
  subst hg
  intro j u hj
  match j, hj with
  | 0, hj => simp at hj; subst hj; simp [Addr.add]
  | 1, hj => simp at hj; subst hj; simp [Addr.add]
  | 2, hj => simp at hj; subst hj; simp [Addr.add]
  | 3, hj => simp at hj; subst hj; simp [Addr.add]
  | 4, hj => simp at hj; subst hj; simp [Addr.add]
  | 5, hj => simp at hj; subst hj; simp [Addr.add]

/-- What a reader of one element leaves. -/
def ElLeft (p : Nat) (s : ByteArray) (i N : Nat) (R : Option (ElB × Nat)) (w' : World) (v : Value) : Prop :=
  (∃ e j, R = some (e, j) ∧ i < j ∧ j ≤ s.size ∧ ElP (N ≤ ·) w' v e ∧ RdAt w' p s ((j : Nat) : Int) true) ∨ (R = none ∧ (∃ e, ElP (N ≤ ·) w' v e) ∧ ∃ k, RdAt w' p s k false)
/-- What a reader of kids leaves. -/
def KidsLeft (p : Nat) (s : ByteArray) (i N : Nat) (R : Option (List ElB × Nat)) (w' : World) (v : Value) : Prop :=
  ∃ l, RowL w' N v l ∧ ((∃ j, R = some (l, j) ∧ i ≤ j ∧ j ≤ s.size ∧ RdAt w' p s ((j : Nat) : Int) true) ∨ (R = none ∧ ∃ k, RdAt w' p s k false))
theorem ElP.note (P : Nat → Prop) (w : World) (k : Int) (t : ByteArray) : ElP P w (.agg #[.int .i64 k, .int .i64 0, .string ⟨#[]⟩, .slice none 0 0, .string t, .slice none 0 0]) (.mk k 0 ⟨#[]⟩ [] t []) :=
  ⟨.slice none 0 0, none, 0, rfl, QP.nil P w, .inl rfl⟩
theorem kid_more {l x : List ElB} {o : Option (List ElB × Nat)} : (o.map fun r => (x ++ r.1, r.2)).map (fun r => (l ++ r.1, r.2)) = o.map fun r => ((l ++ x) ++ r.1, r.2) := by
  cases o <;> simp

set_option maxRecDepth 20000 in
set_option maxHeartbeats 16000000 in
theorem specRdKids (s : ByteArray) (p : Nat) (sp : Int) (deep i : Nat) (el : Nat → Option (ElB × Nat)) (w : World) (h : RdAt w p s (i : Int) true) (hs : s.size ≤ 1073741824) (hi : i ≤ s.size) (hd : 1 ≤ deep) (hd2 : deep ≤ 1000)
    (hE : ∀ (k : Nat) (W : World), i ≤ k → k < s.size → RdAt W p s (k : Int) true → Calls Tryz.prog 18 #[.pointer (some ⟨p, 0, none⟩), .int .i64 sp, .int .i64 ((deep - 1 : Nat) : Int)] W fun r w' => ∃ v, r = .returned v ∧ ElLeft p s k W.heap.size (el k) w' v ∧ Fr p W w') :
    Calls Tryz.prog 39 #[.pointer (some ⟨p, 0, none⟩), .int .i64 sp, .int .i64 (deep : Int)] w fun r w' => ∃ v, r = .returned v ∧ KidsLeft p s i w.heap.size (kidsL s el (s.size + 1) i) w' v ∧ Fr p w w' := by
  obtain ⟨i0, hi0, hz0, hz1, hz2⟩ := info_parts info_el
  have Hi : Hid (Tryz.prog.info? 25 = some i0) := hi0
  have Hz0 : Hid (i0.zero = some (.agg #[.int .i64 0, .int .i64 0, .string ⟨#[]⟩, .slice none 0 0, .string ⟨#[]⟩, .slice none 0 0])) := hz0
  have Hz1 : Hid (i0.size = 6) := hz1
  have Hz2 : Hid (i0.bytes = 96) := hz2
  have hp := h.lt
  have HE : Hid (∀ (k : Nat) (W : World), i ≤ k → k < s.size → RdAt W p s (k : Int) true → Calls Tryz.prog 18 #[.pointer (some ⟨p, 0, none⟩), .int .i64 sp, .int .i64 ((deep : Int) - 1)] W fun r w' => ∃ v, r = .returned v ∧ ElLeft p s k W.heap.size (el k) w' v ∧ Fr p W w') := by
    have e : ((deep - 1 : Nat) : Int) = (deep : Int) - 1 := by omega
    rw [e] at hE
    exact hE
  obtain ⟨R, HR⟩ : ∃ R, Hid (kidsL s el (s.size + 1) i = R) := ⟨_, rfl⟩
  rw [HR.out]
  have bA := (Below.refl w.heap.size w).alloc (Nat.le_refl _) (.cells #[] 25)
  have ow0 : Hid (RowL (w.alloc (.cells #[] 25)) w.heap.size _ []) := RowL.empty w w.heap.size (Nat.le_refl _)
  have HR0 : Hid (RdAt (w.alloc (.cells #[] 25)) p s (i : Int) true) := h.keep bA
  have HF0 : Hid (Fr p w (w.alloc (.cells #[] 25))) := Fr.of_below bA
  have HR1 : Hid ((kidsL s el (s.size + 1) i).map (fun r => ([] ++ r.1, r.2)) = R) := by
    show _ = _
    rw [← HR.out]
    cases kidsL s el (s.size + 1) i <;> simp
  have hi' : Hid (i ≤ s.size) := hi
  clear hi0 hz0 hz1 hz2 h bA hi hE HR
  go_enter Tryz.func39, Tryz.ntmps39
  go_wp2_with fail
  go_loopw [7] (fun ov wr => ∃ l : List ElB, l.length ≤ s.size ∧ Hid (RowL wr w.heap.size ov l) ∧ Hid (Fr p w wr) ∧ ((∃ f k : Nat, i ≤ k ∧ k ≤ s.size ∧ s.size + 1 ≤ f + k ∧ l.length ≤ k ∧ Hid ((kidsL s el f k).map (fun r => (l ++ r.1, r.2)) = R) ∧ Hid (RdAt wr p s (k : Int) true)) ∨ (Hid (R = none) ∧ ∃ k, Hid (RdAt wr p s k false)))) (fun _ wr => rdLeft s p wr)
  case atStart => exact ⟨[], Nat.zero_le _, ow0, HF0, .inl ⟨s.size + 1, i, Nat.le_refl _, hi'.out, by omega, Nat.zero_le _, HR1, HR0⟩⟩
  case round =>
    clear ow0 HR0 HF0 HR1
    obtain ⟨l, hll, HO, HF, hmode⟩ := hrel
    obtain ⟨g, oc, rfl, hg1, hg2⟩ := HO.out.form
    rcases hmode with ⟨f, k, hik, hk, hf, hlk, HRk, HD⟩ | ⟨HN, k, HD⟩
    · have c0 := HD.out.c0
      have c1 := HD.out.c1
      have c2 := HD.out.c2
      have z1 := HD.out.fz 1
      have z2 := HD.out.fz 2
      have HM : Hid (rdLeft s p wr = s.size + 2 - k) := rdLeft_on HD.out
      obtain ⟨f', rfl⟩ : ∃ f', f = f' + 1 := ⟨f - 1, by omega⟩
      have hRk := HRk.out
      rw [kidsL] at hRk
      have HS1 : Hid (∀ W, Calls Tryz.prog 28 #[.string s, .int .i64 (k : Int), .string ⟨#[60, 47]⟩] W fun e w' => e = .returned (.bool (standsB s k ltSlash)) ∧ w' = W) := fun W => specStands s k ltSlash W (by omega) (by omega) (by decide)
      cases hst : standsB s k ltSlash
      · rw [hst] at HS1 hRk
        rw [if_neg (by decide)] at hRk
        go_upto_region 2 with fail
        go_quiet ((go_at_call 28; exact Calls.quiet_of_same (HS1.out _)))
        have bn := drew_kd (Below.refl wr.heap.size wr) nq
        have HO1 : Hid (RowL (wr.drewN nq) w.heap.size _ l) := HO.out.keep bn
        have HF1 : Hid (Fr p w (wr.drewN nq)) := HF.out.trans (Fr.of_below bn)
        have HD1 : Hid (RdAt (wr.drewN nq) p s (k : Int) true) := HD.out.keep bn
        clear bn c0 c1 c2 z1 z2 HO HF HD
        generalize wr.drewN nq = w1 at *
        have c0 := HD1.out.c0
        have c1 := HD1.out.c1
        have c2 := HD1.out.c2
        have z1 := HD1.out.fz 1
        have z2 := HD1.out.fz 2
        clear HS1 HRk hg2
        have hg2 : g < w1.heap.size := by
          obtain ⟨_, _, e, _, h2⟩ := HO1.out.form
          cases e
          exact h2
        by_cases hlt : k < s.size
        · rw [if_neg (by omega)] at hRk
          have g1 : ¬ ((s.size : Int) ≤ (k : Int)) := by omega
          have g1' : decide ((s.size : Int) ≤ (k : Int)) = false := decide_eq_false g1
          go_upto_region 3 with fail
          go_quiet (fail)
          have bn := drew_kd (Below.refl w1.heap.size w1) nq
          have HO2 : Hid (RowL (w1.drewN nq) w.heap.size _ l) := HO1.out.keep bn
          have HF2 : Hid (Fr p w (w1.drewN nq)) := HF1.out.trans (Fr.of_below bn)
          have HD2 : Hid (RdAt (w1.drewN nq) p s (k : Int) true) := HD1.out.keep bn
          clear bn c0 c1 c2 z1 z2 HO1 HF1 HD1
          generalize w1.drewN nq = w2 at *
          have c0 := HD2.out.c0
          have c1 := HD2.out.c1
          have c2 := HD2.out.c2
          have z1 := HD2.out.fz 1
          have z2 := HD2.out.fz 2
          have HS2 : Hid (∀ W, Calls Tryz.prog 28 #[.string s, .int .i64 (k : Int), .string ⟨#[60, 33, 45, 45]⟩] W fun e w' => e = .returned (.bool (standsB s k openNoteB)) ∧ w' = W) := fun W => specStands s k openNoteB W (by omega) (by omega) (by decide)
          cases hno : standsB s k openNoteB
          · rw [hno] at HS2 hRk
            rw [if_neg (by decide)] at hRk
            go_upto_region 5 with fail
            go_quiet ((go_at_call 28; exact Calls.quiet_of_same (HS2.out _)))
            have bn := drew_kd (Below.refl w2.heap.size w2) nq
            have HO3 : Hid (RowL (w2.drewN nq) w.heap.size _ l) := HO2.out.keep bn
            have HF3 : Hid (Fr p w (w2.drewN nq)) := HF2.out.trans (Fr.of_below bn)
            have HD3 : Hid (RdAt (w2.drewN nq) p s (k : Int) true) := HD2.out.keep bn
            clear bn c0 c1 c2 z1 z2 HO2 HF2 HD2
            generalize w2.drewN nq = w3 at *
            have c0 := HD3.out.c0
            have c1 := HD3.out.c1
            have c2 := HD3.out.c2
            have z1 := HD3.out.fz 1
            have z2 := HD3.out.fz 2
            clear HS2
            have g0 : (0 : Int) ≤ (k : Int) := by omega
            have g3 : (k : Int) < (s.size : Int) := by omega
            have ed : s.data[k]? = some (s[k]'hlt) := by
              show s.data[k]? = some (s.data[k]'hlt)
              exact Array.getElem?_eq_getElem hlt
            by_cases h60 : (s[k]'hlt) = 60
            · rw [ed, h60, if_pos rfl] at hRk
              have g60 : (((s[k]'hlt).toNat : Int) == 60) = true := by rw [h60]; rfl
              go_upto_region 10 with fail
              go_quiet (fail)
              have bn := drew_kd (Below.refl w3.heap.size w3) nq
              have HO4 : Hid (RowL (w3.drewN nq) w.heap.size _ l) := HO3.out.keep bn
              have HF4 : Hid (Fr p w (w3.drewN nq)) := HF3.out.trans (Fr.of_below bn)
              have HD4 : Hid (RdAt (w3.drewN nq) p s (k : Int) true) := HD3.out.keep bn
              clear bn c0 c1 c2 z1 z2 HO3 HF3 HD3
              generalize w3.drewN nq = w4 at *
              have c0 := HD4.out.c0
              have c1 := HD4.out.c1
              have c2 := HD4.out.c2
              have z1 := HD4.out.fz 1
              have z2 := HD4.out.fz 2
              have qd : IntKind.i64.wrap ((deep : Int) - 1) = (deep : Int) - 1 := IntWalk.i64_in _ (by omega)
              have HC := HE.out k w4 hik hlt HD4.out
              go_wp2_with fail
              refine HC.mono ?_
              rintro r w5' ⟨v, rfl, hleft, hfr⟩
              have hgN : g < w4.heap.size := by
                obtain ⟨_, _, e, _, h2⟩ := HO4.out.form
                cases e
                exact h2
              have HO6 : Hid (RowL w5' w.heap.size _ l) := HO4.out.fr hfr hp
              have HF6 : Hid (Fr p w w5') := HF4.out.trans hfr
              have hloN : w.heap.size ≤ w4.heap.size := HF4.out.size
              clear HC HO4 HF4 HD4 c0 c1 c2 z1 z2 hfr
              generalize w4.heap.size = N4 at *
              rcases hleft with ⟨e, j, hR, hkj, hjs, heP, hD⟩ | ⟨hR, ⟨e, heP⟩, kx, hD⟩
              · obtain ⟨kd, sq, nm, ats, tx, ks⟩ := e
                have HeP : Hid (ElP (N4 ≤ ·) w5' v (.mk kd sq nm ats tx ks)) := heP
                obtain ⟨av, ka, kc, ev, ⟨xa, xc, eav, _⟩, _⟩ := heP
                subst eav
                subst ev
                rw [hR] at hRk
                have HRn : Hid ((kidsL s el f' j).map (fun r => ((l ++ [ElB.mk kd sq nm ats tx ks]) ++ r.1, r.2)) = R) := by
                  show _ = _
                  rw [← hRk]
                  exact (kid_more (x := [ElB.mk kd sq nm ats tx ks])).symm
                have HD6 : Hid (RdAt w5' p s ((j : Nat) : Int) true) := hD
                clear hRk hR hD
                obtain ⟨gq, capq, C, eV, hown, hels⟩ := HO6.out
                cases eV
                have bA := (Below.refl w5'.heap.size w5').alloc (Nat.le_refl _) (.cells #[.int .i64 kd, .int .i64 sq, .string nm, .slice xa ats.length xc, .string tx, .slice ka ks.length kc] 25)
                have O4 := hown.alloc (.cells #[.int .i64 kd, .int .i64 sq, .string nm, .slice xa ats.length xc, .string tx, .slice ka ks.length kc] 25)
                have hels4 : ∀ i (hi : i < l.length), ElP (fun b => w.heap.size ≤ b ∧ b ≠ g) (w5'.alloc (.cells #[.int .i64 kd, .int .i64 sq, .string nm, .slice xa ats.length xc, .string tx, .slice ka ks.length kc] 25)) (sixV C i) (l[i]'hi) := fun i hi => (hels i hi).stay (fun b _ h2 => bA.block b h2) bA.size
                have he4 : Hid (ElP (N4 ≤ ·) (w5'.alloc (.cells #[.int .i64 kd, .int .i64 sq, .string nm, .slice xa ats.length xc, .string tx, .slice ka ks.length kc] 25)) (.agg #[.int .i64 kd, .int .i64 sq, .string nm, .slice xa ats.length xc, .string tx, .slice ka ks.length kc]) (ElB.mk kd sq nm ats tx ks)) := (HeP.out).stay (fun b _ h2 => bA.block b h2) bA.size
                have F4 : Fr p w (w5'.alloc (.cells #[.int .i64 kd, .int .i64 sq, .string nm, .slice xa ats.length xc, .string tx, .slice ka ks.length kc] 25)) := HF6.out.trans (Fr.of_below bA)
                have D4 : RdAt (w5'.alloc (.cells #[.int .i64 kd, .int .i64 sq, .string nm, .slice xa ats.length xc, .string tx, .slice ka ks.length kc] 25)) p s _ _ := HD6.out.keep bA
                have Hels4 : Hid (∀ i (hi : i < l.length), ElP (fun b => w.heap.size ≤ b ∧ b ≠ g) (w5'.alloc (.cells #[.int .i64 kd, .int .i64 sq, .string nm, .slice xa ats.length xc, .string tx, .slice ka ks.length kc] 25)) (sixV C i) (l[i]'hi)) := hels4
                have hC6 : Hid (C.length = l.length * 6) := hown.1
                have HN' : Hid (g < N4 ∧ w.heap.size ≤ N4) := ⟨hgN, hloN⟩
                clear hels hels4 bA hown
                go_wp2_with (at_builtin; refine wpList_append_at _ rfl (.tmp 88) (.tmp 94) 23 rfl w.heap.size 25 i0 (.agg #[.int .i64 0, .int .i64 0, .string ⟨#[]⟩, .slice none 0 0, .string ⟨#[]⟩, .slice none 0 0]) 6 96 Tryz.underlying23 Hi.out Hz0.out Hz1.out Hz2.out rfl (by decide) _ l.length C rfl O4 ⟨_, 0, none⟩ 1 1 [.int .i64 kd, .int .i64 sq, .string nm, .slice xa ats.length xc, .string tx, .slice ka ks.length kc] rfl rfl (six_cells _ _ _ _ _ _ _ _ _ (by first | rfl | simp | simp [World.setCell])) (by intro u hu; simp only [List.mem_cons, List.not_mem_nil, or_false] at hu; rcases hu with rfl | rfl | rfl | rfl | rfl | rfl <;> rfl) ?x3 ?x4 ?x5 ?_)
                case x3 => unfold maxLen; omega
                case x4 => omega
                case x5 => exact F4.size
                intro v' w5 ho5 hg5 hb5
                have HO5 : Hid (RowL w5 w.heap.size v' (l ++ [(ElB.mk kd sq nm ats tx ks)])) := RowL.more rfl hC6.out Hels4.out HN'.out.1 HN'.out.2 he4.out ho5 hg5 (fun b hb => (hb5 b hb).imp (fun h => h) (fun h => by first | exact h | (simp; omega) | (simp [World.setCell]; omega)))
                have HF5 : Hid (Fr p w w5) := F4.grown O4 hg5
                have HD5 : Hid (RdAt w5 p s _ _) := D4.grown O4 hg5 hp
                have hl1 : (l ++ [(ElB.mk kd sq nm ats tx ks)]).length = l.length + 1 := by simp
                clear ho5 hg5 hb5 O4 F4 D4 Hels4 hC6 he4 HN' HO6 HF6 HD6
                go_wp2_with fail
                go_roundw
                case rel => exact ⟨l ++ [(ElB.mk kd sq nm ats tx ks)], by rw [hl1]; omega, HO5, HF5, .inl ⟨f', j, by omega, by omega, by omega, by rw [hl1]; omega, HRn, HD5⟩⟩
                case measure =>
                  rw [rdLeft_on HD5.out, HM.out]
                  omega
              · obtain ⟨kd, sq, nm, ats, tx, ks⟩ := e
                have HeP : Hid (ElP (N4 ≤ ·) w5' v (.mk kd sq nm ats tx ks)) := heP
                obtain ⟨av, ka, kc, ev, ⟨xa, xc, eav, _⟩, _⟩ := heP
                subst eav
                subst ev
                rw [hR] at hRk
                have HN : Hid (R = none) := hRk.symm
                have HD6 : Hid (RdAt w5' p s kx false) := hD
                clear hRk hR hD
                obtain ⟨gq, capq, C, eV, hown, hels⟩ := HO6.out
                cases eV
                have bA := (Below.refl w5'.heap.size w5').alloc (Nat.le_refl _) (.cells #[.int .i64 kd, .int .i64 sq, .string nm, .slice xa ats.length xc, .string tx, .slice ka ks.length kc] 25)
                have O4 := hown.alloc (.cells #[.int .i64 kd, .int .i64 sq, .string nm, .slice xa ats.length xc, .string tx, .slice ka ks.length kc] 25)
                have hels4 : ∀ i (hi : i < l.length), ElP (fun b => w.heap.size ≤ b ∧ b ≠ g) (w5'.alloc (.cells #[.int .i64 kd, .int .i64 sq, .string nm, .slice xa ats.length xc, .string tx, .slice ka ks.length kc] 25)) (sixV C i) (l[i]'hi) := fun i hi => (hels i hi).stay (fun b _ h2 => bA.block b h2) bA.size
                have he4 : Hid (ElP (N4 ≤ ·) (w5'.alloc (.cells #[.int .i64 kd, .int .i64 sq, .string nm, .slice xa ats.length xc, .string tx, .slice ka ks.length kc] 25)) (.agg #[.int .i64 kd, .int .i64 sq, .string nm, .slice xa ats.length xc, .string tx, .slice ka ks.length kc]) (ElB.mk kd sq nm ats tx ks)) := (HeP.out).stay (fun b _ h2 => bA.block b h2) bA.size
                have F4 : Fr p w (w5'.alloc (.cells #[.int .i64 kd, .int .i64 sq, .string nm, .slice xa ats.length xc, .string tx, .slice ka ks.length kc] 25)) := HF6.out.trans (Fr.of_below bA)
                have D4 : RdAt (w5'.alloc (.cells #[.int .i64 kd, .int .i64 sq, .string nm, .slice xa ats.length xc, .string tx, .slice ka ks.length kc] 25)) p s _ _ := HD6.out.keep bA
                have Hels4 : Hid (∀ i (hi : i < l.length), ElP (fun b => w.heap.size ≤ b ∧ b ≠ g) (w5'.alloc (.cells #[.int .i64 kd, .int .i64 sq, .string nm, .slice xa ats.length xc, .string tx, .slice ka ks.length kc] 25)) (sixV C i) (l[i]'hi)) := hels4
                have hC6 : Hid (C.length = l.length * 6) := hown.1
                have HN' : Hid (g < N4 ∧ w.heap.size ≤ N4) := ⟨hgN, hloN⟩
                clear hels hels4 bA hown
                go_wp2_with (at_builtin; refine wpList_append_at _ rfl (.tmp 88) (.tmp 94) 23 rfl w.heap.size 25 i0 (.agg #[.int .i64 0, .int .i64 0, .string ⟨#[]⟩, .slice none 0 0, .string ⟨#[]⟩, .slice none 0 0]) 6 96 Tryz.underlying23 Hi.out Hz0.out Hz1.out Hz2.out rfl (by decide) _ l.length C rfl O4 ⟨_, 0, none⟩ 1 1 [.int .i64 kd, .int .i64 sq, .string nm, .slice xa ats.length xc, .string tx, .slice ka ks.length kc] rfl rfl (six_cells _ _ _ _ _ _ _ _ _ (by first | rfl | simp | simp [World.setCell])) (by intro u hu; simp only [List.mem_cons, List.not_mem_nil, or_false] at hu; rcases hu with rfl | rfl | rfl | rfl | rfl | rfl <;> rfl) ?x3 ?x4 ?x5 ?_)
                case x3 => unfold maxLen; omega
                case x4 => omega
                case x5 => exact F4.size
                intro v' w5 ho5 hg5 hb5
                have HO5 : Hid (RowL w5 w.heap.size v' (l ++ [(ElB.mk kd sq nm ats tx ks)])) := RowL.more rfl hC6.out Hels4.out HN'.out.1 HN'.out.2 he4.out ho5 hg5 (fun b hb => (hb5 b hb).imp (fun h => h) (fun h => by first | exact h | (simp; omega) | (simp [World.setCell]; omega)))
                have HF5 : Hid (Fr p w w5) := F4.grown O4 hg5
                have HD5 : Hid (RdAt w5 p s _ _) := D4.grown O4 hg5 hp
                have hl1 : (l ++ [(ElB.mk kd sq nm ats tx ks)]).length = l.length + 1 := by simp
                clear ho5 hg5 hb5 O4 F4 D4 Hels4 hC6 he4 HN' HO6 HF6 HD6
                go_wp2_with fail
                go_roundw
                case rel => exact ⟨l ++ [(ElB.mk kd sq nm ats tx ks)], by rw [hl1]; omega, HO5, HF5, .inr ⟨HN, _, HD5⟩⟩
                case measure =>
                  rw [rdLeft_off HD5.out, HM.out]
                  omega
            · rw [ed, if_neg (fun e => h60 (Option.some.inj e))] at hRk
              have g60 : (((s[k]'hlt).toNat : Int) == 60) = false := by
                rw [beq_eq_false_iff_ne]
                intro e
                apply h60
                exact UInt8.toNat_inj.1 (by show (s[k]'hlt).toNat = 60; omega)
              have hxt := xtI_lt hlt (by rw [ed]; exact fun e => h60 (Option.some.inj e))
              go_upto_region 10 with fail
              go_quiet (fail)
              have bn := drew_kd (Below.refl w3.heap.size w3) nq
              have HO4 : Hid (RowL (w3.drewN nq) w.heap.size _ l) := HO3.out.keep bn
              have HF4 : Hid (Fr p w (w3.drewN nq)) := HF3.out.trans (Fr.of_below bn)
              have HD4 : Hid (RdAt (w3.drewN nq) p s (k : Int) true) := HD3.out.keep bn
              clear bn c0 c1 c2 z1 z2 HO3 HF3 HD3
              generalize w3.drewN nq = w4 at *
              have c0 := HD4.out.c0
              have c1 := HD4.out.c1
              have c2 := HD4.out.c2
              have z1 := HD4.out.fz 1
              have z2 := HD4.out.fz 2
              have HX : Hid (∀ W, Calls Tryz.prog 70 #[.string s, .int .i64 (k : Int), .string ⟨#[60]⟩] W fun r w' => r = .returned (.tuple #[.string (xtS s (k : Int) ltS), .int .i64 (xtI s (k : Int) ltS)]) ∧ Below W.heap.size W w') := fun W => specXmlText s _ ltS W hs (by decide)
              generalize xtI s (k : Int) ltS = xi at *
              generalize xtS s (k : Int) ltS = xs at *
              have cN := fun d os => Calls.regrown_of (w := w4) (HX.out (Sort.grow (redrawn w4 d) os))
              have y0 := cell_regrown c0
              have y1 := cell_regrown c1
              go_upto_region 12 with fail
              refine wp_region_quiet_below (by kernel_rfl) (by kernel_rfl) ?_
              repeat (go_big_quiet_step (first | exact cN _ _))
              refine wpQuiet_nil ?_
              intro _ hw'
              obtain ⟨⟨dq, osq⟩, hw''⟩ := hw'
              subst hw''
              have bq := below_regrown w4 dq osq
              have HO5 : Hid (RowL (Sort.grow (redrawn w4 dq) osq) w.heap.size _ l) := HO4.out.keep bq
              have HF5 : Hid (Fr p w (Sort.grow (redrawn w4 dq) osq)) := HF4.out.trans (Fr.of_below bq)
              have HD5 : Hid (RdAt (Sort.grow (redrawn w4 dq) osq) p s (k : Int) true) := HD4.out.keep bq
              clear bq c0 c1 c2 z1 z2 HO4 HF4 HD4 cN y0 y1 HX
              generalize Sort.grow (redrawn w4 dq) osq = w5x at *
              have c2 := HD5.out.c2
              have z2 := HD5.out.fz 2
              have hgN : g < w5x.heap.size := by
                obtain ⟨_, _, e, _, h2⟩ := HO5.out.form
                cases e
                exact h2
              have hloN : w.heap.size ≤ w5x.heap.size := HF5.out.size
              by_cases hx0 : xi < 0
              · rw [if_pos hx0] at hRk
                have HN : Hid (R = none) := hRk.symm
                have gx : ¬ (0 : Int) ≤ xi := by omega
                have gx' : decide ((0 : Int) ≤ xi) = false := decide_eq_false gx
                clear hRk hxt
                have HDs : Hid (RdAt (w5x.setCell ⟨p, 2, none⟩ (.bool false)) p s (k : Int) false) := HD5.out.set2 false
                have HD6 : Hid (RdAt ((w5x.setCell ⟨p, 2, none⟩ (.bool false)).setCell ⟨p, 1, none⟩ (.int .i64 0)) p s 0 false) := HDs.out.set1 _
                have HF6 : Hid (Fr p w ((w5x.setCell ⟨p, 2, none⟩ (.bool false)).setCell ⟨p, 1, none⟩ (.int .i64 0))) := (HF5.out.trans (Fr.set _ _ _)).trans (Fr.set _ _ _)
                have HO6 : Hid (RowL ((w5x.setCell ⟨p, 2, none⟩ (.bool false)).setCell ⟨p, 1, none⟩ (.int .i64 0)) w.heap.size _ l) := (HO5.out.fr (Fr.set _ 2 (.bool false)) hp).fr (Fr.set _ 1 (.int .i64 0)) hp
                have c1 := HDs.out.c1
                have z1 := HDs.out.fz 1
                have HMx := specMaxE xi 0 (w5x.setCell ⟨p, 2, none⟩ (.bool false))
                rw [if_neg (by omega)] at HMx
                clear HO5 HF5 HD5 HDs
                go_wp2_with fail
                refine HMx.mono ?_
                rintro r w6 ⟨rfl, rfl⟩
                clear HMx
                obtain ⟨gq, capq, C, eV, hown, hels⟩ := HO6.out
                cases eV
                have bA := (Below.refl ((w5x.setCell ⟨p, 2, none⟩ (.bool false)).setCell ⟨p, 1, none⟩ (.int .i64 0)).heap.size ((w5x.setCell ⟨p, 2, none⟩ (.bool false)).setCell ⟨p, 1, none⟩ (.int .i64 0))).alloc (Nat.le_refl _) (.cells #[.int .i64 2, .int .i64 0, .string ⟨#[]⟩, .slice none 0 0, .string xs, .slice none 0 0] 25)
                have O4 := hown.alloc (.cells #[.int .i64 2, .int .i64 0, .string ⟨#[]⟩, .slice none 0 0, .string xs, .slice none 0 0] 25)
                have hels4 : ∀ i (hi : i < l.length), ElP (fun b => w.heap.size ≤ b ∧ b ≠ g) (((w5x.setCell ⟨p, 2, none⟩ (.bool false)).setCell ⟨p, 1, none⟩ (.int .i64 0)).alloc (.cells #[.int .i64 2, .int .i64 0, .string ⟨#[]⟩, .slice none 0 0, .string xs, .slice none 0 0] 25)) (sixV C i) (l[i]'hi) := fun i hi => (hels i hi).stay (fun b _ h2 => bA.block b h2) bA.size
                have he4 : Hid (ElP (w5x.heap.size ≤ ·) (((w5x.setCell ⟨p, 2, none⟩ (.bool false)).setCell ⟨p, 1, none⟩ (.int .i64 0)).alloc (.cells #[.int .i64 2, .int .i64 0, .string ⟨#[]⟩, .slice none 0 0, .string xs, .slice none 0 0] 25)) (.agg #[.int .i64 2, .int .i64 0, .string ⟨#[]⟩, .slice none 0 0, .string xs, .slice none 0 0]) (ElB.mk 2 0 ⟨#[]⟩ [] xs [])) := (ElP.note _ _ 2 xs).stay (fun b _ h2 => bA.block b h2) bA.size
                have F4 : Fr p w (((w5x.setCell ⟨p, 2, none⟩ (.bool false)).setCell ⟨p, 1, none⟩ (.int .i64 0)).alloc (.cells #[.int .i64 2, .int .i64 0, .string ⟨#[]⟩, .slice none 0 0, .string xs, .slice none 0 0] 25)) := HF6.out.trans (Fr.of_below bA)
                have D4 : RdAt (((w5x.setCell ⟨p, 2, none⟩ (.bool false)).setCell ⟨p, 1, none⟩ (.int .i64 0)).alloc (.cells #[.int .i64 2, .int .i64 0, .string ⟨#[]⟩, .slice none 0 0, .string xs, .slice none 0 0] 25)) p s _ _ := HD6.out.keep bA
                have Hels4 : Hid (∀ i (hi : i < l.length), ElP (fun b => w.heap.size ≤ b ∧ b ≠ g) (((w5x.setCell ⟨p, 2, none⟩ (.bool false)).setCell ⟨p, 1, none⟩ (.int .i64 0)).alloc (.cells #[.int .i64 2, .int .i64 0, .string ⟨#[]⟩, .slice none 0 0, .string xs, .slice none 0 0] 25)) (sixV C i) (l[i]'hi)) := hels4
                have hC6 : Hid (C.length = l.length * 6) := hown.1
                have HN' : Hid (g < w5x.heap.size ∧ w.heap.size ≤ w5x.heap.size) := ⟨hgN, hloN⟩
                clear hels hels4 bA hown
                go_wp2_with (at_builtin; refine wpList_append_at _ rfl (.tmp 118) (.tmp 121) 23 rfl w.heap.size 25 i0 (.agg #[.int .i64 0, .int .i64 0, .string ⟨#[]⟩, .slice none 0 0, .string ⟨#[]⟩, .slice none 0 0]) 6 96 Tryz.underlying23 Hi.out Hz0.out Hz1.out Hz2.out rfl (by decide) _ l.length C rfl O4 ⟨_, 0, none⟩ 1 1 [.int .i64 2, .int .i64 0, .string ⟨#[]⟩, .slice none 0 0, .string xs, .slice none 0 0] rfl rfl (six_cells _ _ _ _ _ _ _ _ _ (by first | rfl | simp | simp [World.setCell])) (by intro u hu; simp only [List.mem_cons, List.not_mem_nil, or_false] at hu; rcases hu with rfl | rfl | rfl | rfl | rfl | rfl <;> rfl) ?x3 ?x4 ?x5 ?_)
                case x3 => unfold maxLen; omega
                case x4 => omega
                case x5 => exact F4.size
                intro v' w5 ho5 hg5 hb5
                have HO5 : Hid (RowL w5 w.heap.size v' (l ++ [(ElB.mk 2 0 ⟨#[]⟩ [] xs [])])) := RowL.more rfl hC6.out Hels4.out HN'.out.1 HN'.out.2 he4.out ho5 hg5 (fun b hb => (hb5 b hb).imp (fun h => h) (fun h => by first | exact h | (simp; omega) | (simp [World.setCell]; omega)))
                have HF5 : Hid (Fr p w w5) := F4.grown O4 hg5
                have HD5 : Hid (RdAt w5 p s _ _) := D4.grown O4 hg5 hp
                have hl1 : (l ++ [(ElB.mk 2 0 ⟨#[]⟩ [] xs [])]).length = l.length + 1 := by simp
                clear ho5 hg5 hb5 O4 F4 D4 Hels4 hC6 he4 HN' HO6 HF6 HD6
                go_wp2_with fail
                go_roundw
                case rel => exact ⟨l ++ [(ElB.mk 2 0 ⟨#[]⟩ [] xs [])], by rw [hl1]; omega, HO5, HF5, .inr ⟨HN, _, HD5⟩⟩
                case measure =>
                  rw [rdLeft_off HD5.out, HM.out]
                  omega
              · rw [if_neg hx0] at hRk
                obtain ⟨j, rfl, hj1, hj2, hj3⟩ := hxt hx0
                have ej : ((j : Nat) : Int).toNat = j := by omega
                rw [ej] at hRk
                have HRn : Hid ((kidsL s el f' j).map (fun r => ((l ++ [ElB.mk 2 0 ⟨#[]⟩ [] xs []]) ++ r.1, r.2)) = R) := by
                  show _ = _
                  rw [← hRk]
                  exact (kid_more (x := [ElB.mk 2 0 ⟨#[]⟩ [] xs []])).symm
                have gx : (0 : Int) ≤ (j : Int) := by omega
                have gx' : decide ((0 : Int) ≤ (j : Int)) = true := decide_eq_true gx
                clear hRk hxt
                have HDs : Hid (RdAt (w5x.setCell ⟨p, 2, none⟩ (.bool true)) p s (k : Int) true) := HD5.out.set2 true
                have HD6 : Hid (RdAt ((w5x.setCell ⟨p, 2, none⟩ (.bool true)).setCell ⟨p, 1, none⟩ (.int .i64 (j : Int))) p s (j : Int) true) := HDs.out.set1 _
                have HF6 : Hid (Fr p w ((w5x.setCell ⟨p, 2, none⟩ (.bool true)).setCell ⟨p, 1, none⟩ (.int .i64 (j : Int)))) := (HF5.out.trans (Fr.set _ _ _)).trans (Fr.set _ _ _)
                have HO6 : Hid (RowL ((w5x.setCell ⟨p, 2, none⟩ (.bool true)).setCell ⟨p, 1, none⟩ (.int .i64 (j : Int))) w.heap.size _ l) := (HO5.out.fr (Fr.set _ 2 (.bool true)) hp).fr (Fr.set _ 1 (.int .i64 (j : Int))) hp
                have c1 := HDs.out.c1
                have z1 := HDs.out.fz 1
                have HMx := specMaxE (j : Int) 0 (w5x.setCell ⟨p, 2, none⟩ (.bool true))
                rw [if_pos (by omega)] at HMx
                clear HO5 HF5 HD5 HDs
                go_wp2_with fail
                refine HMx.mono ?_
                rintro r w6 ⟨rfl, rfl⟩
                clear HMx
                obtain ⟨gq, capq, C, eV, hown, hels⟩ := HO6.out
                cases eV
                have bA := (Below.refl ((w5x.setCell ⟨p, 2, none⟩ (.bool true)).setCell ⟨p, 1, none⟩ (.int .i64 (j : Int))).heap.size ((w5x.setCell ⟨p, 2, none⟩ (.bool true)).setCell ⟨p, 1, none⟩ (.int .i64 (j : Int)))).alloc (Nat.le_refl _) (.cells #[.int .i64 2, .int .i64 0, .string ⟨#[]⟩, .slice none 0 0, .string xs, .slice none 0 0] 25)
                have O4 := hown.alloc (.cells #[.int .i64 2, .int .i64 0, .string ⟨#[]⟩, .slice none 0 0, .string xs, .slice none 0 0] 25)
                have hels4 : ∀ i (hi : i < l.length), ElP (fun b => w.heap.size ≤ b ∧ b ≠ g) (((w5x.setCell ⟨p, 2, none⟩ (.bool true)).setCell ⟨p, 1, none⟩ (.int .i64 (j : Int))).alloc (.cells #[.int .i64 2, .int .i64 0, .string ⟨#[]⟩, .slice none 0 0, .string xs, .slice none 0 0] 25)) (sixV C i) (l[i]'hi) := fun i hi => (hels i hi).stay (fun b _ h2 => bA.block b h2) bA.size
                have he4 : Hid (ElP (w5x.heap.size ≤ ·) (((w5x.setCell ⟨p, 2, none⟩ (.bool true)).setCell ⟨p, 1, none⟩ (.int .i64 (j : Int))).alloc (.cells #[.int .i64 2, .int .i64 0, .string ⟨#[]⟩, .slice none 0 0, .string xs, .slice none 0 0] 25)) (.agg #[.int .i64 2, .int .i64 0, .string ⟨#[]⟩, .slice none 0 0, .string xs, .slice none 0 0]) (ElB.mk 2 0 ⟨#[]⟩ [] xs [])) := (ElP.note _ _ 2 xs).stay (fun b _ h2 => bA.block b h2) bA.size
                have F4 : Fr p w (((w5x.setCell ⟨p, 2, none⟩ (.bool true)).setCell ⟨p, 1, none⟩ (.int .i64 (j : Int))).alloc (.cells #[.int .i64 2, .int .i64 0, .string ⟨#[]⟩, .slice none 0 0, .string xs, .slice none 0 0] 25)) := HF6.out.trans (Fr.of_below bA)
                have D4 : RdAt (((w5x.setCell ⟨p, 2, none⟩ (.bool true)).setCell ⟨p, 1, none⟩ (.int .i64 (j : Int))).alloc (.cells #[.int .i64 2, .int .i64 0, .string ⟨#[]⟩, .slice none 0 0, .string xs, .slice none 0 0] 25)) p s _ _ := HD6.out.keep bA
                have Hels4 : Hid (∀ i (hi : i < l.length), ElP (fun b => w.heap.size ≤ b ∧ b ≠ g) (((w5x.setCell ⟨p, 2, none⟩ (.bool true)).setCell ⟨p, 1, none⟩ (.int .i64 (j : Int))).alloc (.cells #[.int .i64 2, .int .i64 0, .string ⟨#[]⟩, .slice none 0 0, .string xs, .slice none 0 0] 25)) (sixV C i) (l[i]'hi)) := hels4
                have hC6 : Hid (C.length = l.length * 6) := hown.1
                have HN' : Hid (g < w5x.heap.size ∧ w.heap.size ≤ w5x.heap.size) := ⟨hgN, hloN⟩
                clear hels hels4 bA hown
                go_wp2_with (at_builtin; refine wpList_append_at _ rfl (.tmp 118) (.tmp 121) 23 rfl w.heap.size 25 i0 (.agg #[.int .i64 0, .int .i64 0, .string ⟨#[]⟩, .slice none 0 0, .string ⟨#[]⟩, .slice none 0 0]) 6 96 Tryz.underlying23 Hi.out Hz0.out Hz1.out Hz2.out rfl (by decide) _ l.length C rfl O4 ⟨_, 0, none⟩ 1 1 [.int .i64 2, .int .i64 0, .string ⟨#[]⟩, .slice none 0 0, .string xs, .slice none 0 0] rfl rfl (six_cells _ _ _ _ _ _ _ _ _ (by first | rfl | simp | simp [World.setCell])) (by intro u hu; simp only [List.mem_cons, List.not_mem_nil, or_false] at hu; rcases hu with rfl | rfl | rfl | rfl | rfl | rfl <;> rfl) ?x3 ?x4 ?x5 ?_)
                case x3 => unfold maxLen; omega
                case x4 => omega
                case x5 => exact F4.size
                intro v' w5 ho5 hg5 hb5
                have HO5 : Hid (RowL w5 w.heap.size v' (l ++ [(ElB.mk 2 0 ⟨#[]⟩ [] xs [])])) := RowL.more rfl hC6.out Hels4.out HN'.out.1 HN'.out.2 he4.out ho5 hg5 (fun b hb => (hb5 b hb).imp (fun h => h) (fun h => by first | exact h | (simp; omega) | (simp [World.setCell]; omega)))
                have HF5 : Hid (Fr p w w5) := F4.grown O4 hg5
                have HD5 : Hid (RdAt w5 p s _ _) := D4.grown O4 hg5 hp
                have hl1 : (l ++ [(ElB.mk 2 0 ⟨#[]⟩ [] xs [])]).length = l.length + 1 := by simp
                clear ho5 hg5 hb5 O4 F4 D4 Hels4 hC6 he4 HN' HO6 HF6 HD6
                go_wp2_with fail
                go_roundw
                case rel => exact ⟨l ++ [(ElB.mk 2 0 ⟨#[]⟩ [] xs [])], by rw [hl1]; omega, HO5, HF5, .inl ⟨f', j, by omega, by omega, by omega, by rw [hl1]; omega, HRn, HD5⟩⟩
                case measure =>
                  rw [rdLeft_on HD5.out, HM.out]
                  omega
          · rw [hno] at HS2 hRk
            rw [if_pos rfl] at hRk
            have hxt := xoI_le (s := s) (i := k)
            go_upto_region 5 with fail
            go_quiet ((go_at_call 28; exact Calls.quiet_of_same (HS2.out _)))
            have bn := drew_kd (Below.refl w2.heap.size w2) nq
            have HO3 : Hid (RowL (w2.drewN nq) w.heap.size _ l) := HO2.out.keep bn
            have HF3 : Hid (Fr p w (w2.drewN nq)) := HF2.out.trans (Fr.of_below bn)
            have HD3 : Hid (RdAt (w2.drewN nq) p s (k : Int) true) := HD2.out.keep bn
            clear bn c0 c1 c2 z1 z2 HO2 HF2 HD2
            generalize w2.drewN nq = w3 at *
            have c0 := HD3.out.c0
            have c1 := HD3.out.c1
            have c2 := HD3.out.c2
            have z1 := HD3.out.fz 1
            have z2 := HD3.out.fz 2
            clear HS2
            have HX : Hid (∀ W, Calls Tryz.prog 29 #[.string s, .int .i64 (k : Int)] W fun r w' => r = .returned (.tuple #[.string (xoS s (k : Int)), .int .i64 (xoI s (k : Int))]) ∧ Below W.heap.size W w') := fun W => specXmlNote s _ W hs
            generalize xoI s (k : Int) = xi at *
            generalize xoS s (k : Int) = xs at *
            have cN := fun d os => Calls.regrown_of (w := w3) (HX.out (Sort.grow (redrawn w3 d) os))
            have y0 := cell_regrown c0
            have y1 := cell_regrown c1
            go_upto_region 6 with fail
            refine wp_region_quiet_below (by kernel_rfl) (by kernel_rfl) ?_
            repeat (go_big_quiet_step (first | exact cN _ _))
            refine wpQuiet_nil ?_
            intro _ hw'
            obtain ⟨⟨dq, osq⟩, hw''⟩ := hw'
            subst hw''
            have bq := below_regrown w3 dq osq
            have HO4 : Hid (RowL (Sort.grow (redrawn w3 dq) osq) w.heap.size _ l) := HO3.out.keep bq
            have HF4 : Hid (Fr p w (Sort.grow (redrawn w3 dq) osq)) := HF3.out.trans (Fr.of_below bq)
            have HD4 : Hid (RdAt (Sort.grow (redrawn w3 dq) osq) p s (k : Int) true) := HD3.out.keep bq
            clear bq c0 c1 c2 z1 z2 HO3 HF3 HD3 cN y0 y1 HX
            generalize Sort.grow (redrawn w3 dq) osq = w4 at *
            have c2 := HD4.out.c2
            have z2 := HD4.out.fz 2
            have hgN : g < w4.heap.size := by
              obtain ⟨_, _, e, _, h2⟩ := HO4.out.form
              cases e
              exact h2
            have hloN : w.heap.size ≤ w4.heap.size := HF4.out.size
            by_cases hx0 : xi < 0
            · rw [if_pos hx0] at hRk
              have HN : Hid (R = none) := hRk.symm
              have gx : ¬ (0 : Int) ≤ xi := by omega
              have gx' : decide ((0 : Int) ≤ xi) = false := decide_eq_false gx
              clear hRk hxt
              have HDs : Hid (RdAt (w4.setCell ⟨p, 2, none⟩ (.bool false)) p s (k : Int) false) := HD4.out.set2 false
              have HD6 : Hid (RdAt ((w4.setCell ⟨p, 2, none⟩ (.bool false)).setCell ⟨p, 1, none⟩ (.int .i64 0)) p s 0 false) := HDs.out.set1 _
              have HF6 : Hid (Fr p w ((w4.setCell ⟨p, 2, none⟩ (.bool false)).setCell ⟨p, 1, none⟩ (.int .i64 0))) := (HF4.out.trans (Fr.set _ _ _)).trans (Fr.set _ _ _)
              have HO6 : Hid (RowL ((w4.setCell ⟨p, 2, none⟩ (.bool false)).setCell ⟨p, 1, none⟩ (.int .i64 0)) w.heap.size _ l) := (HO4.out.fr (Fr.set _ 2 (.bool false)) hp).fr (Fr.set _ 1 (.int .i64 0)) hp
              have c1 := HDs.out.c1
              have z1 := HDs.out.fz 1
              have HMx := specMaxE xi 0 (w4.setCell ⟨p, 2, none⟩ (.bool false))
              rw [if_neg (by omega)] at HMx
              clear HO4 HF4 HD4 HDs
              go_wp2_with fail
              refine HMx.mono ?_
              rintro r w6 ⟨rfl, rfl⟩
              clear HMx
              obtain ⟨gq, capq, C, eV, hown, hels⟩ := HO6.out
              cases eV
              have bA := (Below.refl ((w4.setCell ⟨p, 2, none⟩ (.bool false)).setCell ⟨p, 1, none⟩ (.int .i64 0)).heap.size ((w4.setCell ⟨p, 2, none⟩ (.bool false)).setCell ⟨p, 1, none⟩ (.int .i64 0))).alloc (Nat.le_refl _) (.cells #[.int .i64 3, .int .i64 0, .string ⟨#[]⟩, .slice none 0 0, .string xs, .slice none 0 0] 25)
              have O4 := hown.alloc (.cells #[.int .i64 3, .int .i64 0, .string ⟨#[]⟩, .slice none 0 0, .string xs, .slice none 0 0] 25)
              have hels4 : ∀ i (hi : i < l.length), ElP (fun b => w.heap.size ≤ b ∧ b ≠ g) (((w4.setCell ⟨p, 2, none⟩ (.bool false)).setCell ⟨p, 1, none⟩ (.int .i64 0)).alloc (.cells #[.int .i64 3, .int .i64 0, .string ⟨#[]⟩, .slice none 0 0, .string xs, .slice none 0 0] 25)) (sixV C i) (l[i]'hi) := fun i hi => (hels i hi).stay (fun b _ h2 => bA.block b h2) bA.size
              have he4 : Hid (ElP (w4.heap.size ≤ ·) (((w4.setCell ⟨p, 2, none⟩ (.bool false)).setCell ⟨p, 1, none⟩ (.int .i64 0)).alloc (.cells #[.int .i64 3, .int .i64 0, .string ⟨#[]⟩, .slice none 0 0, .string xs, .slice none 0 0] 25)) (.agg #[.int .i64 3, .int .i64 0, .string ⟨#[]⟩, .slice none 0 0, .string xs, .slice none 0 0]) (ElB.mk 3 0 ⟨#[]⟩ [] xs [])) := (ElP.note _ _ 3 xs).stay (fun b _ h2 => bA.block b h2) bA.size
              have F4 : Fr p w (((w4.setCell ⟨p, 2, none⟩ (.bool false)).setCell ⟨p, 1, none⟩ (.int .i64 0)).alloc (.cells #[.int .i64 3, .int .i64 0, .string ⟨#[]⟩, .slice none 0 0, .string xs, .slice none 0 0] 25)) := HF6.out.trans (Fr.of_below bA)
              have D4 : RdAt (((w4.setCell ⟨p, 2, none⟩ (.bool false)).setCell ⟨p, 1, none⟩ (.int .i64 0)).alloc (.cells #[.int .i64 3, .int .i64 0, .string ⟨#[]⟩, .slice none 0 0, .string xs, .slice none 0 0] 25)) p s _ _ := HD6.out.keep bA
              have Hels4 : Hid (∀ i (hi : i < l.length), ElP (fun b => w.heap.size ≤ b ∧ b ≠ g) (((w4.setCell ⟨p, 2, none⟩ (.bool false)).setCell ⟨p, 1, none⟩ (.int .i64 0)).alloc (.cells #[.int .i64 3, .int .i64 0, .string ⟨#[]⟩, .slice none 0 0, .string xs, .slice none 0 0] 25)) (sixV C i) (l[i]'hi)) := hels4
              have hC6 : Hid (C.length = l.length * 6) := hown.1
              have HN' : Hid (g < w4.heap.size ∧ w.heap.size ≤ w4.heap.size) := ⟨hgN, hloN⟩
              clear hels hels4 bA hown
              go_wp2_with (at_builtin; refine wpList_append_at _ rfl (.tmp 73) (.tmp 76) 23 rfl w.heap.size 25 i0 (.agg #[.int .i64 0, .int .i64 0, .string ⟨#[]⟩, .slice none 0 0, .string ⟨#[]⟩, .slice none 0 0]) 6 96 Tryz.underlying23 Hi.out Hz0.out Hz1.out Hz2.out rfl (by decide) _ l.length C rfl O4 ⟨_, 0, none⟩ 1 1 [.int .i64 3, .int .i64 0, .string ⟨#[]⟩, .slice none 0 0, .string xs, .slice none 0 0] rfl rfl (six_cells _ _ _ _ _ _ _ _ _ (by first | rfl | simp | simp [World.setCell])) (by intro u hu; simp only [List.mem_cons, List.not_mem_nil, or_false] at hu; rcases hu with rfl | rfl | rfl | rfl | rfl | rfl <;> rfl) ?x3 ?x4 ?x5 ?_)
              case x3 => unfold maxLen; omega
              case x4 => omega
              case x5 => exact F4.size
              intro v' w5 ho5 hg5 hb5
              have HO5 : Hid (RowL w5 w.heap.size v' (l ++ [(ElB.mk 3 0 ⟨#[]⟩ [] xs [])])) := RowL.more rfl hC6.out Hels4.out HN'.out.1 HN'.out.2 he4.out ho5 hg5 (fun b hb => (hb5 b hb).imp (fun h => h) (fun h => by first | exact h | (simp; omega) | (simp [World.setCell]; omega)))
              have HF5 : Hid (Fr p w w5) := F4.grown O4 hg5
              have HD5 : Hid (RdAt w5 p s _ _) := D4.grown O4 hg5 hp
              have hl1 : (l ++ [(ElB.mk 3 0 ⟨#[]⟩ [] xs [])]).length = l.length + 1 := by simp
              clear ho5 hg5 hb5 O4 F4 D4 Hels4 hC6 he4 HN' HO6 HF6 HD6
              go_wp2_with fail
              go_roundw
              case rel => exact ⟨l ++ [(ElB.mk 3 0 ⟨#[]⟩ [] xs [])], by rw [hl1]; omega, HO5, HF5, .inr ⟨HN, _, HD5⟩⟩
              case measure =>
                rw [rdLeft_off HD5.out, HM.out]
                omega
            · rw [if_neg hx0] at hRk
              obtain ⟨j, rfl, hj1, hj2, hj3⟩ := hxt hx0
              have ej : ((j : Nat) : Int).toNat = j := by omega
              rw [ej] at hRk
              have HRn : Hid ((kidsL s el f' j).map (fun r => ((l ++ [ElB.mk 3 0 ⟨#[]⟩ [] xs []]) ++ r.1, r.2)) = R) := by
                show _ = _
                rw [← hRk]
                exact (kid_more (x := [ElB.mk 3 0 ⟨#[]⟩ [] xs []])).symm
              have gx : (0 : Int) ≤ (j : Int) := by omega
              have gx' : decide ((0 : Int) ≤ (j : Int)) = true := decide_eq_true gx
              clear hRk hxt
              have HDs : Hid (RdAt (w4.setCell ⟨p, 2, none⟩ (.bool true)) p s (k : Int) true) := HD4.out.set2 true
              have HD6 : Hid (RdAt ((w4.setCell ⟨p, 2, none⟩ (.bool true)).setCell ⟨p, 1, none⟩ (.int .i64 (j : Int))) p s (j : Int) true) := HDs.out.set1 _
              have HF6 : Hid (Fr p w ((w4.setCell ⟨p, 2, none⟩ (.bool true)).setCell ⟨p, 1, none⟩ (.int .i64 (j : Int)))) := (HF4.out.trans (Fr.set _ _ _)).trans (Fr.set _ _ _)
              have HO6 : Hid (RowL ((w4.setCell ⟨p, 2, none⟩ (.bool true)).setCell ⟨p, 1, none⟩ (.int .i64 (j : Int))) w.heap.size _ l) := (HO4.out.fr (Fr.set _ 2 (.bool true)) hp).fr (Fr.set _ 1 (.int .i64 (j : Int))) hp
              have c1 := HDs.out.c1
              have z1 := HDs.out.fz 1
              have HMx := specMaxE (j : Int) 0 (w4.setCell ⟨p, 2, none⟩ (.bool true))
              rw [if_pos (by omega)] at HMx
              clear HO4 HF4 HD4 HDs
              go_wp2_with fail
              refine HMx.mono ?_
              rintro r w6 ⟨rfl, rfl⟩
              clear HMx
              obtain ⟨gq, capq, C, eV, hown, hels⟩ := HO6.out
              cases eV
              have bA := (Below.refl ((w4.setCell ⟨p, 2, none⟩ (.bool true)).setCell ⟨p, 1, none⟩ (.int .i64 (j : Int))).heap.size ((w4.setCell ⟨p, 2, none⟩ (.bool true)).setCell ⟨p, 1, none⟩ (.int .i64 (j : Int)))).alloc (Nat.le_refl _) (.cells #[.int .i64 3, .int .i64 0, .string ⟨#[]⟩, .slice none 0 0, .string xs, .slice none 0 0] 25)
              have O4 := hown.alloc (.cells #[.int .i64 3, .int .i64 0, .string ⟨#[]⟩, .slice none 0 0, .string xs, .slice none 0 0] 25)
              have hels4 : ∀ i (hi : i < l.length), ElP (fun b => w.heap.size ≤ b ∧ b ≠ g) (((w4.setCell ⟨p, 2, none⟩ (.bool true)).setCell ⟨p, 1, none⟩ (.int .i64 (j : Int))).alloc (.cells #[.int .i64 3, .int .i64 0, .string ⟨#[]⟩, .slice none 0 0, .string xs, .slice none 0 0] 25)) (sixV C i) (l[i]'hi) := fun i hi => (hels i hi).stay (fun b _ h2 => bA.block b h2) bA.size
              have he4 : Hid (ElP (w4.heap.size ≤ ·) (((w4.setCell ⟨p, 2, none⟩ (.bool true)).setCell ⟨p, 1, none⟩ (.int .i64 (j : Int))).alloc (.cells #[.int .i64 3, .int .i64 0, .string ⟨#[]⟩, .slice none 0 0, .string xs, .slice none 0 0] 25)) (.agg #[.int .i64 3, .int .i64 0, .string ⟨#[]⟩, .slice none 0 0, .string xs, .slice none 0 0]) (ElB.mk 3 0 ⟨#[]⟩ [] xs [])) := (ElP.note _ _ 3 xs).stay (fun b _ h2 => bA.block b h2) bA.size
              have F4 : Fr p w (((w4.setCell ⟨p, 2, none⟩ (.bool true)).setCell ⟨p, 1, none⟩ (.int .i64 (j : Int))).alloc (.cells #[.int .i64 3, .int .i64 0, .string ⟨#[]⟩, .slice none 0 0, .string xs, .slice none 0 0] 25)) := HF6.out.trans (Fr.of_below bA)
              have D4 : RdAt (((w4.setCell ⟨p, 2, none⟩ (.bool true)).setCell ⟨p, 1, none⟩ (.int .i64 (j : Int))).alloc (.cells #[.int .i64 3, .int .i64 0, .string ⟨#[]⟩, .slice none 0 0, .string xs, .slice none 0 0] 25)) p s _ _ := HD6.out.keep bA
              have Hels4 : Hid (∀ i (hi : i < l.length), ElP (fun b => w.heap.size ≤ b ∧ b ≠ g) (((w4.setCell ⟨p, 2, none⟩ (.bool true)).setCell ⟨p, 1, none⟩ (.int .i64 (j : Int))).alloc (.cells #[.int .i64 3, .int .i64 0, .string ⟨#[]⟩, .slice none 0 0, .string xs, .slice none 0 0] 25)) (sixV C i) (l[i]'hi)) := hels4
              have hC6 : Hid (C.length = l.length * 6) := hown.1
              have HN' : Hid (g < w4.heap.size ∧ w.heap.size ≤ w4.heap.size) := ⟨hgN, hloN⟩
              clear hels hels4 bA hown
              go_wp2_with (at_builtin; refine wpList_append_at _ rfl (.tmp 73) (.tmp 76) 23 rfl w.heap.size 25 i0 (.agg #[.int .i64 0, .int .i64 0, .string ⟨#[]⟩, .slice none 0 0, .string ⟨#[]⟩, .slice none 0 0]) 6 96 Tryz.underlying23 Hi.out Hz0.out Hz1.out Hz2.out rfl (by decide) _ l.length C rfl O4 ⟨_, 0, none⟩ 1 1 [.int .i64 3, .int .i64 0, .string ⟨#[]⟩, .slice none 0 0, .string xs, .slice none 0 0] rfl rfl (six_cells _ _ _ _ _ _ _ _ _ (by first | rfl | simp | simp [World.setCell])) (by intro u hu; simp only [List.mem_cons, List.not_mem_nil, or_false] at hu; rcases hu with rfl | rfl | rfl | rfl | rfl | rfl <;> rfl) ?x3 ?x4 ?x5 ?_)
              case x3 => unfold maxLen; omega
              case x4 => omega
              case x5 => exact F4.size
              intro v' w5 ho5 hg5 hb5
              have HO5 : Hid (RowL w5 w.heap.size v' (l ++ [(ElB.mk 3 0 ⟨#[]⟩ [] xs [])])) := RowL.more rfl hC6.out Hels4.out HN'.out.1 HN'.out.2 he4.out ho5 hg5 (fun b hb => (hb5 b hb).imp (fun h => h) (fun h => by first | exact h | (simp; omega) | (simp [World.setCell]; omega)))
              have HF5 : Hid (Fr p w w5) := F4.grown O4 hg5
              have HD5 : Hid (RdAt w5 p s _ _) := D4.grown O4 hg5 hp
              have hl1 : (l ++ [(ElB.mk 3 0 ⟨#[]⟩ [] xs [])]).length = l.length + 1 := by simp
              clear ho5 hg5 hb5 O4 F4 D4 Hels4 hC6 he4 HN' HO6 HF6 HD6
              go_wp2_with fail
              go_roundw
              case rel => exact ⟨l ++ [(ElB.mk 3 0 ⟨#[]⟩ [] xs [])], by rw [hl1]; omega, HO5, HF5, .inl ⟨f', j, by omega, by omega, by omega, by rw [hl1]; omega, HRn, HD5⟩⟩
              case measure =>
                rw [rdLeft_on HD5.out, HM.out]
                omega
        · rw [if_pos (by omega)] at hRk
          have HN : Hid (R = none) := hRk.symm
          have g1 : (s.size : Int) ≤ (k : Int) := by omega
          have g1' : decide ((s.size : Int) ≤ (k : Int)) = true := decide_eq_true g1
          go_upto_region 3 with fail
          go_quiet (fail)
          have bn := drew_kd (Below.refl w1.heap.size w1) nq
          have HO2 : Hid (RowL (w1.drewN nq) w.heap.size _ l) := HO1.out.keep bn
          have HF2 : Hid (Fr p w (w1.drewN nq)) := HF1.out.trans (Fr.of_below bn)
          have HD2 : Hid (RdAt (w1.drewN nq) p s (k : Int) true) := HD1.out.keep bn
          clear bn c0 c1 c2 z1 z2 HO1 HF1 HD1
          generalize w1.drewN nq = w2 at *
          have c0 := HD2.out.c0
          have c1 := HD2.out.c1
          have c2 := HD2.out.c2
          have z1 := HD2.out.fz 1
          have z2 := HD2.out.fz 2
          have HO3 : Hid (RowL (w2.setCell ⟨p, 2, none⟩ (.bool false)) w.heap.size _ l) := HO2.out.fr (Fr.set w2 2 (.bool false)) hp
          have HF3 : Hid (Fr p w (w2.setCell ⟨p, 2, none⟩ (.bool false))) := HF2.out.trans (Fr.set _ _ _)
          have HD3 : Hid (RdAt (w2.setCell ⟨p, 2, none⟩ (.bool false)) p s (k : Int) false) := HD2.out.set2 false
          clear HO2 HF2 HD2 hRk
          go_wp2_with fail
          go_roundw
          case rel => exact ⟨l, hll, HO3, HF3, .inr ⟨HN, _, HD3⟩⟩
          case measure =>
            rw [rdLeft_off HD3.out, HM.out]
            omega
      · rw [hst] at HS1 hRk
        rw [if_pos rfl] at hRk
        have hR : R = some (l, k) := by rw [← hRk]; simp
        go_upto_region 2 with fail
        go_quiet ((go_at_call 28; exact Calls.quiet_of_same (HS1.out _)))
        have bn := drew_kd (Below.refl wr.heap.size wr) nq
        have HO1 : Hid (RowL (wr.drewN nq) w.heap.size _ l) := HO.out.keep bn
        have HF1 : Hid (Fr p w (wr.drewN nq)) := HF.out.trans (Fr.of_below bn)
        have HD1 : Hid (RdAt (wr.drewN nq) p s (k : Int) true) := HD.out.keep bn
        clear bn c0 c1 c2 z1 z2 HO HF HD
        generalize wr.drewN nq = w1 at *
        have c0 := HD1.out.c0
        have c1 := HD1.out.c1
        have c2 := HD1.out.c2
        have z1 := HD1.out.fz 1
        have z2 := HD1.out.fz 2
        clear HS1 HRk hRk
        go_wp2_with fail
        go_ret
        exact ⟨_, rfl, ⟨l, HO1.out, .inl ⟨k, hR, hik, hk, HD1.out⟩⟩, HF1.out⟩
    · have c0 := HD.out.c0
      have c1 := HD.out.c1
      have c2 := HD.out.c2
      have z1 := HD.out.fz 1
      have z2 := HD.out.fz 2
      go_upto_region 2 with fail
      go_quiet (fail)
      have bn := drew_kd (Below.refl wr.heap.size wr) nq
      have HO1 : Hid (RowL (wr.drewN nq) w.heap.size _ l) := HO.out.keep bn
      have HF1 : Hid (Fr p w (wr.drewN nq)) := HF.out.trans (Fr.of_below bn)
      have HD1 : Hid (RdAt (wr.drewN nq) p s k false) := HD.out.keep bn
      clear bn c0 c1 c2 z1 z2 HO HF HD
      generalize wr.drewN nq = w1 at *
      have c0 := HD1.out.c0
      have c1 := HD1.out.c1
      have c2 := HD1.out.c2
      have z1 := HD1.out.fz 1
      have z2 := HD1.out.fz 2
      go_wp2_with fail
      go_ret
      exact ⟨_, rfl, ⟨l, HO1.out, .inr ⟨HN.out, _, HD1.out⟩⟩, HF1.out⟩

end Go.Proofs.YthipdkagkdnaiaaGreatDoor.Sg
