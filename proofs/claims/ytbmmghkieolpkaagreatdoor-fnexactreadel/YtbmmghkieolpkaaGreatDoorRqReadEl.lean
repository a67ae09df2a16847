/- Contract of the program's ReadEl. Written by mk_rqreadel.py. -/
import Derived.Test.YtbmmghkieolpkaaGreatDoorME114
import Derived.Test.YtbmmghkieolpkaaGreatDoorME113
import Derived.Test.YtbmmghkieolpkaaGreatDoorRdLawReadEl
import Derived.BigRegion
namespace Go.Proofs.YtbmmghkieolpkaaGreatDoor.Sg
open Go.ChangeShapes Go.WideShapes Go.ChangeAt Go.RowKit

/-- The results' cells of ReadEl, and what its world is like besides. -/
structure FaceW (w W : World) (V : List Value) (i : Int) : Prop where
  b : Below w.heap.size w W
  m : Many 6 W w.heap.size (fun j => V.getD j undef)
  c : W.cell? ⟨w.heap.size + 1, 0, none⟩ = some (.int .i64 i)
  z : W.frozen? ⟨w.heap.size + 1, 0, none⟩ = false
theorem FaceW.below {w W W' : World} {V : List Value} {i : Int} (h : FaceW w W V i) (hb : Below W.heap.size W W') : FaceW w W' V i :=
  ⟨h.b.trans (hb.mono h.b.size), h.m.below h.m.1 hb, keep_cell hb h.c, (hb.frozen (block_lt_of_cell h.c)).trans h.z⟩
theorem FaceW.fr {p : Nat} {w W W' : World} {V : List Value} {i : Int} (h : FaceW w W V i) (hf : Fr p W W') (hp : w.heap.size + 2 ≤ p) : FaceW w W' V i :=
  ⟨h.b.trans (hf.below (by omega) h.b.size), h.m.fr hf (by omega), hf.cell (by show w.heap.size + 1 ≠ p; omega) h.c, by
    rw [← h.z]
    have e := hf.block (w.heap.size + 1) (block_lt_of_cell h.c) (by omega)
    simp [World.frozen?, e]⟩
theorem FaceW.setB {w W : World} {V : List Value} {i : Int} (h : FaceW w W V i) (k : Nat) (v : Value) (hk : k < V.length) : FaceW w (W.setCell ⟨w.heap.size, k, none⟩ v) (V.set k v) i :=
  ⟨h.b.setCell (Nat.le_refl _) _, h.m.put6 k v hk, (World.cell?_setCell_other _ _ _ _ (fun e => absurd (congrArg Addr.block e) (by show w.heap.size ≠ w.heap.size + 1; omega))).trans h.c, by simpa using h.z⟩
theorem FaceW.setC {w W : World} {V : List Value} {i : Int} (h : FaceW w W V i) (k : Int) : FaceW w (W.setCell ⟨w.heap.size + 1, 0, none⟩ (.int .i64 k)) V k :=
  ⟨h.b.setCell (Nat.le_succ _) _, h.m.other (by omega) _, World.cell?_setCell_same _ _ _ h.c, by simpa using h.z⟩
theorem FaceW.done {w W : World} {V : List Value} {i : Int} (h : FaceW w W V i) : FaceW w ((zero6W W w.heap.size).setCell ⟨w.heap.size + 1, 0, none⟩ (.int .i64 (-1))) zero6L (-1) := by
  have h6 : Many 6 (zero6W W w.heap.size) w.heap.size (fun j => zero6L.getD j undef) := h.m.all6 _ _ _ _ _ _
  have hb : Below w.heap.size w (zero6W W w.heap.size) := (((((h.b.setCell (Nat.le_refl _) _).setCell (Nat.le_refl _) _).setCell (Nat.le_refl _) _).setCell (Nat.le_refl _) _).setCell (Nat.le_refl _) _).setCell (Nat.le_refl _) _
  have o : ∀ (X : World) (j : Nat) (u v : Value), X.cell? ⟨w.heap.size + 1, 0, none⟩ = some v → (X.setCell ⟨w.heap.size, j, none⟩ u).cell? ⟨w.heap.size + 1, 0, none⟩ = some v := fun X j u v h => (World.cell?_setCell_other _ _ _ _ (fun e => absurd (congrArg Addr.block e) (by show w.heap.size ≠ w.heap.size + 1; omega))).trans h
  exact FaceW.setC (i := i) ⟨hb, h6, o _ _ _ _ (o _ _ _ _ (o _ _ _ _ (o _ _ _ _ (o _ _ _ _ (o _ _ _ _ h.c))))), by unfold zero6W; simpa using h.z⟩ (-1)

theorem readEl_no {s : ByteArray} {i about : Int} {w W : World} (h : readElR s i about = none) (hb : Below w.heap.size w W) : ReadElOwn s i about w (.returned (.tuple #[.agg #[.int .i64 0, .int .i64 0, .string ⟨#[]⟩, .slice none 0 0, .string ⟨#[]⟩, .slice none 0 0], .int .i64 (-1)])) W :=
  ⟨hb, _, 0, Since w.heap.size W, by rw [(readEl_none h).2], by rw [(readEl_none h).1]; exact ElNew.bare W w.heap.size 0 0 ⟨#[]⟩, fun _ h => h⟩
theorem readEl_yes {s : ByteArray} {i about : Int} {w W : World} {x : ElB} {j n : Nat} {v : Value} (h : readElR s i about = some (x, j)) (hb : Below w.heap.size w W) (hE : ElNew W w.heap.size n x v) : ReadElOwn s i about w (.returned (.tuple #[v, .int .i64 (j : Int)])) W :=
  ⟨hb, v, n, Since w.heap.size W, by rw [(readEl_some h).2], by rw [(readEl_some h).1]; exact hE, fun _ h => h⟩
theorem ElNew.v {W : World} {N n : Nat} {e : ElB} {v : Value} (h : ElNew W N n e v) : ElV (QA N) (N ≤ ·) W v e := (ElOwn.val h).val

set_option maxRecDepth 20000 in
set_option maxHeartbeats 8000000 in
theorem implReadEl (s : ByteArray) (i about : Int) (a : Addr) (w : World) (hs : s.size ≤ 1048576) (hX : PcX a w) :
    Calls Tryz.prog 7 #[.string s, .int .i64 i, .int .i64 about] w fun r w' => ReadElOwn s i about w r w' := by
  have hmf : ∀ (fn : Fn) (first cap : Array Value) (w : World), (Instr.makeFunc fn first cap).run Tryz.prog w = .ok (.func fn first cap) w := fun _ _ _ _ => rfl
  have HXX : Hid (∀ W, Below w.heap.size w W → PcX a W) := fun W h => hX.below h
  have bA := ((Below.refl w.heap.size w).alloc (Nat.le_refl _) (.cells #[.int .i64 0, .int .i64 0, .string ⟨#[]⟩, .slice none 0 0, .string ⟨#[]⟩, .slice none 0 0] 25)).alloc (by simp) (.cells #[.int .i64 0] 3)
  have HS : Hid (FaceW w ((w.alloc (.cells #[.int .i64 0, .int .i64 0, .string ⟨#[]⟩, .slice none 0 0, .string ⟨#[]⟩, .slice none 0 0] 25)).alloc (.cells #[.int .i64 0] 3)) zero6L 0) := ⟨bA, (Many.new w zero6L 25 undef).below (by simp) ((Below.refl _ _).alloc (Nat.le_refl _) _), by simp, by simp⟩
  have hsz : ((w.alloc (.cells #[.int .i64 0, .int .i64 0, .string ⟨#[]⟩, .slice none 0 0, .string ⟨#[]⟩, .slice none 0 0] 25)).alloc (.cells #[.int .i64 0] 3)).heap.size = w.heap.size + 2 := by simp
  clear hX bA
  by_cases hin : 0 ≤ i ∧ i ≤ s.size
  case neg =>
    have hno : readElR s i about = none := by
      unfold readElR
      rw [if_pos (by omega)]
    by_cases h0 : 0 ≤ i
    · have g0 : decide (i ≥ 0) = true := decide_eq_true h0
      have g1 : decide (i ≤ (s.size : Int)) = false := decide_eq_false (fun h => hin ⟨h0, h⟩)
      go_enter_defers Tryz.func7, Tryz.ntmps7
      go_upto_region 2 with fail
      generalize ((w.alloc (.cells #[.int .i64 0, .int .i64 0, .string ⟨#[]⟩, .slice none 0 0, .string ⟨#[]⟩, .slice none 0 0] 25)).alloc (.cells #[.int .i64 0] 3)) = w1 at *
      have hE := (HXX.out _ HS.out.b).1.2
      go_wp2_with fail
      refine (must_no a _ hE).mono ?_
      rintro e w2 ⟨rfl, rfl⟩
      go_wp2_with fail
      refine leaves_cons (f := 20) (args := #[.pointer (some ⟨w.heap.size, 0, none⟩), .pointer (some ⟨w.heap.size + 1, 0, none⟩)]) (by simp) (by simp [go_sem]) ?_
      refine (elFace_panics w.heap.size (w.heap.size + 1) _ _ a [] _ HS.out.m HS.out.c HS.out.z (by omega)).mono ?_
      rintro e u' w'' ⟨rfl, rfl, rfl⟩
      have HD := HS.out.done
      obtain ⟨t0, t1, t2, t3, t4, t5⟩ := HD.m.six
      have t6 := HD.c
      have HB : Hid (Below w.heap.size w _) := HD.b
      clear HD HS
      simp [Leaves, settle, results, Tryz.results7, go_sem, t0, t1, t2, t3, t4, t5, t6]
      exact readEl_no hno HB.out
    · have g0 : decide (i ≥ 0) = false := decide_eq_false h0
      go_enter_defers Tryz.func7, Tryz.ntmps7
      go_upto_region 2 with fail
      generalize ((w.alloc (.cells #[.int .i64 0, .int .i64 0, .string ⟨#[]⟩, .slice none 0 0, .string ⟨#[]⟩, .slice none 0 0] 25)).alloc (.cells #[.int .i64 0] 3)) = w1 at *
      have hE := (HXX.out _ HS.out.b).1.2
      go_wp2_with fail
      refine (must_no a _ hE).mono ?_
      rintro e w2 ⟨rfl, rfl⟩
      go_wp2_with fail
      refine leaves_cons (f := 20) (args := #[.pointer (some ⟨w.heap.size, 0, none⟩), .pointer (some ⟨w.heap.size + 1, 0, none⟩)]) (by simp) (by simp [go_sem]) ?_
      refine (elFace_panics w.heap.size (w.heap.size + 1) _ _ a [] _ HS.out.m HS.out.c HS.out.z (by omega)).mono ?_
      rintro e u' w'' ⟨rfl, rfl, rfl⟩
      have HD := HS.out.done
      obtain ⟨t0, t1, t2, t3, t4, t5⟩ := HD.m.six
      have t6 := HD.c
      have HB : Hid (Below w.heap.size w _) := HD.b
      clear HD HS
      simp [Leaves, settle, results, Tryz.results7, go_sem, t0, t1, t2, t3, t4, t5, t6]
      exact readEl_no hno HB.out
  case pos =>
    obtain ⟨h0, h1⟩ := hin
    obtain ⟨k, rfl⟩ : ∃ k : Nat, i = (k : Int) := ⟨i.toNat, by omega⟩
    have hk : k ≤ s.size := by omega
    have g0 : decide ((k : Int) ≥ 0) = true := decide_eq_true h0
    have g1 : decide ((k : Int) ≤ (s.size : Int)) = true := decide_eq_true h1
    obtain ⟨o, Ho⟩ : ∃ o, Hid (o = elQ s (s.size + 1) 60 k about) := ⟨_, rfl⟩
    have HR : Hid (readElR s (k : Int) about = match (generalizing := false) o with
        | none => none
        | some x => if strictE x.1 = true then some x else none) := by
      show _ = _
      rw [← readElQ_eq]
      unfold readElQ
      by_cases hkl : k < s.size
      · rw [if_neg (by omega), Int.toNat_natCast, ← Ho.out]
        rfl
      · rw [if_pos (by omega), Ho.out, elQ_lt s _ _ k _ (by
          cases e : standsB s k ltS
          · rfl
          · have := stands_le e
            have u : ltS.size = 1 := rfl
            omega)]
    have Hsz : Hid (∀ x j, o = some (x, j) → elW x + 1 ≤ 5 * s.size) := fun x j h => by
      have := elQ_size s (s.size + 1) 60 about k x j hk (Ho.out.symm.trans h)
      omega
    go_enter_defers Tryz.func7, Tryz.ntmps7
    go_upto_region 2 with fail
    generalize ((w.alloc (.cells #[.int .i64 0, .int .i64 0, .string ⟨#[]⟩, .slice none 0 0, .string ⟨#[]⟩, .slice none 0 0] 25)).alloc (.cells #[.int .i64 0] 3)) = w1 at *
    go_wp2_with fail
    refine (must_yes _).mono ?_
    rintro e w1 ⟨rfl, rfl⟩
    have bB := (Below.refl w1.heap.size w1).alloc (Nat.le_refl _) (.cells #[.string s, .int .i64 (k : Int)] 43)
    have HS3 : Hid (FaceW w (w1.alloc (.cells #[.string s, .int .i64 (k : Int)] 43)) zero6L 0) := HS.out.below bB
    have HQ3 : Hid (Rq a w1.heap.size s (k : Int) (w1.alloc (.cells #[.string s, .int .i64 (k : Int)] 43))) := ⟨by show (w1.heap.push _)[w1.heap.size]? = _; simp, w1, HXX.out _ HS.out.b, Nat.le_refl _, bB⟩
    clear HS bB g0 g1
    go_upto_region 4 with fail
    generalize w1.alloc (.cells #[.string s, .int .i64 (k : Int)] 43) = w3 at *
    rw [hsz] at HQ3
    obtain ⟨p, Hp⟩ : ∃ p, Hid (p = w.heap.size + 2) := ⟨_, rfl⟩
    rw [← Hp.out] at HQ3 ⊢
    have hp2 : w.heap.size + 2 ≤ p := by rw [Hp.out]; omega
    clear Hp hsz
    have hlt3 : w.heap.size < w3.heap.size := HS3.out.m.1
    have hlt4 : w.heap.size + 1 < w3.heap.size := block_lt_of_cell HS3.out.c
    have HK := implTag a p s hs (s.size + 1) 60 k about 1 w3 (by omega) (by omega) hk (by omega) HQ3.out
    rw [← Ho.out] at HK
    unfold GotE at HK
    clear HQ3 Ho
    go_wp2_with fail
    refine HK.mono ?_
    rintro e w4 ⟨hcase, F4⟩
    have HS4 : Hid (FaceW w w4 zero6L 0) := HS3.out.fr F4 hp2
    clear HK HS3 F4
    rcases hcase with ⟨x, j, v, ho, rfl, E4, R4⟩ | ⟨ho, rfl⟩
    case inr =>
      have hno : readElR s (k : Int) about = none := by rw [HR.out, ho]
      have HS := HS4
      clear HS4
      go_wp2_with fail
      refine leaves_cons (f := 20) (args := #[.pointer (some ⟨w.heap.size, 0, none⟩), .pointer (some ⟨w.heap.size + 1, 0, none⟩)]) (by simp) (by simp [go_sem]) ?_
      refine (elFace_panics w.heap.size (w.heap.size + 1) _ _ a [] _ HS.out.m HS.out.c HS.out.z (by omega)).mono ?_
      rintro e u' w'' ⟨rfl, rfl, rfl⟩
      have HD := HS.out.done
      obtain ⟨t0, t1, t2, t3, t4, t5⟩ := HD.m.six
      have t6 := HD.c
      have HB : Hid (Below w.heap.size w _) := HD.b
      clear HD HS
      simp [Leaves, settle, results, Tryz.results7, go_sem, t0, t1, t2, t3, t4, t5, t6]
      exact readEl_no hno HB.out
    have hsx := Hsz.out x j ho
    have HR5 : Hid (readElR s (k : Int) about = if strictE x = true then some (x, j) else none) := by
      show _ = _
      rw [HR.out, ho]
    obtain ⟨kd, sq, nm, ats, tx, ks⟩ := x
    obtain ⟨xa, xc', ka, kc, ev⟩ := E4.form
    subst ev
    have q := R4.1
    clear Hsz HR ho R4
    have r0 := (HS4.out.m.2 0 (by decide)).1
    have r1 := (HS4.out.m.2 1 (by decide)).1
    have r2 := (HS4.out.m.2 2 (by decide)).1
    have r3 := (HS4.out.m.2 3 (by decide)).1
    have r4 := (HS4.out.m.2 4 (by decide)).1
    have r5 := (HS4.out.m.2 5 (by decide)).1
    have s0 := (HS4.out.m.2 0 (by decide)).2
    have s1 := (HS4.out.m.2 1 (by decide)).2
    have s2 := (HS4.out.m.2 2 (by decide)).2
    have s3 := (HS4.out.m.2 3 (by decide)).2
    have s4 := (HS4.out.m.2 4 (by decide)).2
    have s5 := (HS4.out.m.2 5 (by decide)).2
    simp at r0 r1 r2 r3 r4 r5
    have HS5 : Hid (FaceW w ((((((w4.setCell ⟨w.heap.size, 0, none⟩ (.int .i64 kd)).setCell ⟨w.heap.size, 1, none⟩ (.int .i64 sq)).setCell ⟨w.heap.size, 2, none⟩ (.string nm)).setCell ⟨w.heap.size, 3, none⟩ (.slice xa ats.length xc')).setCell ⟨w.heap.size, 4, none⟩ (.string tx)).setCell ⟨w.heap.size, 5, none⟩ (.slice ka ks.length kc)) [.int .i64 kd, .int .i64 sq, .string nm, .slice xa ats.length xc', .string tx, .slice ka ks.length kc] 0) := (((((HS4.out.setB 0 (.int .i64 kd) (by simp)).setB 1 (.int .i64 sq) (by simp)).setB 2 (.string nm) (by simp)).setB 3 (.slice xa ats.length xc') (by simp)).setB 4 (.string tx) (by simp)).setB 5 (.slice ka ks.length kc) (by simp)
    have HE5 : Hid (ElNew ((((((w4.setCell ⟨w.heap.size, 0, none⟩ (.int .i64 kd)).setCell ⟨w.heap.size, 1, none⟩ (.int .i64 sq)).setCell ⟨w.heap.size, 2, none⟩ (.string nm)).setCell ⟨w.heap.size, 3, none⟩ (.slice xa ats.length xc')).setCell ⟨w.heap.size, 4, none⟩ (.string tx)).setCell ⟨w.heap.size, 5, none⟩ (.slice ka ks.length kc)) w3.heap.size (s.size + 1) (.mk kd sq nm ats tx ks) (.agg #[.int .i64 kd, .int .i64 sq, .string nm, .slice xa ats.length xc', .string tx, .slice ka ks.length kc])) := (((((E4.set hlt3).set hlt3).set hlt3).set hlt3).set hlt3).set hlt3
    have hne : p ≠ w.heap.size := by omega
    have HP5 : Hid (RqAt ((((((w4.setCell ⟨w.heap.size, 0, none⟩ (.int .i64 kd)).setCell ⟨w.heap.size, 1, none⟩ (.int .i64 sq)).setCell ⟨w.heap.size, 2, none⟩ (.string nm)).setCell ⟨w.heap.size, 3, none⟩ (.slice xa ats.length xc')).setCell ⟨w.heap.size, 4, none⟩ (.string tx)).setCell ⟨w.heap.size, 5, none⟩ (.slice ka ks.length kc)) p s (j : Int)) := by
      have o : ∀ (X : World) (m : Nat) (u : Value), RqAt X p s (j : Int) → RqAt (X.setCell ⟨w.heap.size, m, none⟩ u) p s (j : Int) := fun X m u h => (Below.heap_setCell _ _ _ _ hne).trans h
      exact o _ _ _ (o _ _ _ (o _ _ _ (o _ _ _ (o _ _ _ (o _ _ _ q)))))
    clear HS4 E4 q
    go_upto_region 5 with fail
    clear r0 r1 r2 r3 r4 r5 s0 s1 s2 s3 s4 s5
    generalize ((((((w4.setCell ⟨w.heap.size, 0, none⟩ (.int .i64 kd)).setCell ⟨w.heap.size, 1, none⟩ (.int .i64 sq)).setCell ⟨w.heap.size, 2, none⟩ (.string nm)).setCell ⟨w.heap.size, 3, none⟩ (.slice xa ats.length xc')).setCell ⟨w.heap.size, 4, none⟩ (.string tx)).setCell ⟨w.heap.size, 5, none⟩ (.slice ka ks.length kc)) = w5 at *
    have HOK := implElOk (.mk kd sq nm ats tx ks) w3.heap.size _ w5 HE5.out.v (el_small _ (by omega)) (by have := elN_le (.mk kd sq nm ats tx ks); omega) (by have := HXX.out _ HS5.out.b; exact ⟨this.1.1, this.2⟩)
    have Hst : Hid (strictE (.mk kd sq nm ats tx ks) = (decide (elD (.mk kd sq nm ats tx ks) ≤ 60) && okE (.mk kd sq nm ats tx ks))) := rfl
    rw [← Hst.out] at HOK
    clear Hst
    obtain ⟨y0, y1, y2, y3, y4, y5⟩ := HS5.out.m.six
    cases hst : strictE (.mk kd sq nm ats tx ks)
    case false =>
      rw [hst] at HOK
      have hno : readElR s (k : Int) about = none := by rw [HR5.out, hst]; rfl
      go_wp2_with fail
      refine HOK.mono ?_
      rintro e w6 ⟨rfl, b6⟩
      have HS : Hid (FaceW w w6 _ 0) := HS5.out.below b6
      have hE := (HXX.out _ HS.out.b).1.2
      clear HOK HS5 HE5 HP5 b6 y0 y1 y2 y3 y4 y5
      go_wp2_with fail
      refine (must_no a _ hE).mono ?_
      rintro e w7 ⟨rfl, rfl⟩
      go_wp2_with fail
      refine leaves_cons (f := 20) (args := #[.pointer (some ⟨w.heap.size, 0, none⟩), .pointer (some ⟨w.heap.size + 1, 0, none⟩)]) (by simp) (by simp [go_sem]) ?_
      refine (elFace_panics w.heap.size (w.heap.size + 1) _ _ a [] _ HS.out.m HS.out.c HS.out.z (by omega)).mono ?_
      rintro e u' w'' ⟨rfl, rfl, rfl⟩
      have HD := HS.out.done
      obtain ⟨t0, t1, t2, t3, t4, t5⟩ := HD.m.six
      have t6 := HD.c
      have HB : Hid (Below w.heap.size w _) := HD.b
      clear HD HS
      simp [Leaves, settle, results, Tryz.results7, go_sem, t0, t1, t2, t3, t4, t5, t6]
      exact readEl_no hno HB.out
    rw [hst] at HOK
    have Hyes : Hid (readElR s (k : Int) about = some (.mk kd sq nm ats tx ks, j)) := by
      show _ = _
      rw [HR5.out, hst]
      rfl
    go_wp2_with fail
    refine HOK.mono ?_
    rintro e w6 ⟨rfl, b6⟩
    have HS6 : Hid (FaceW w w6 _ 0) := HS5.out.below b6
    have HE6 : Hid (ElNew w6 w3.heap.size (s.size + 1) (.mk kd sq nm ats tx ks) _) := HE5.out.below b6
    have HP6 : Hid (RqAt w6 p s (j : Int)) := HP5.out.keep b6
    clear HOK HS5 HE5 HP5 b6 y0 y1 y2 y3 y4 y5 hst HR5
    go_wp2_with fail
    refine (must_yes _).mono ?_
    rintro e w6 ⟨rfl, rfl⟩
    obtain ⟨y0, y1, y2, y3, y4, y5⟩ := HS6.out.m.six
    have s0 := (HS6.out.m.2 0 (by decide)).2
    have s1 := (HS6.out.m.2 1 (by decide)).2
    have s2 := (HS6.out.m.2 2 (by decide)).2
    have s3 := (HS6.out.m.2 3 (by decide)).2
    have s4 := (HS6.out.m.2 4 (by decide)).2
    have s5 := (HS6.out.m.2 5 (by decide)).2
    have c0 := HS6.out.c
    have z0 := HS6.out.z
    have p1 := HP6.out.c1
    go_upto_region 6 with fail
    go_region
    have HS8 : Hid (FaceW w ((((((((((w6.setCell ⟨w.heap.size, 0, none⟩ (.int .i64 kd)).setCell ⟨w.heap.size, 1, none⟩ (.int .i64 sq)).setCell ⟨w.heap.size, 2, none⟩ (.string nm)).setCell ⟨w.heap.size, 3, none⟩ (.slice xa ats.length xc')).setCell ⟨w.heap.size, 4, none⟩ (.string tx)).setCell ⟨w.heap.size, 5, none⟩ (.slice ka ks.length kc))).setCell ⟨w.heap.size + 1, 0, none⟩ (.int .i64 (j : Int)))).drew) [.int .i64 kd, .int .i64 sq, .string nm, .slice xa ats.length xc', .string tx, .slice ka ks.length kc] (j : Int)) := ((((((((HS6.out.setB 0 (.int .i64 kd) (by simp)).setB 1 (.int .i64 sq) (by simp)).setB 2 (.string nm) (by simp)).setB 3 (.slice xa ats.length xc') (by simp)).setB 4 (.string tx) (by simp)).setB 5 (.slice ka ks.length kc) (by simp)).setC (j : Int))).below ((Below.refl _ _).drew)
    have HE8 : Hid (ElNew ((((((((((w6.setCell ⟨w.heap.size, 0, none⟩ (.int .i64 kd)).setCell ⟨w.heap.size, 1, none⟩ (.int .i64 sq)).setCell ⟨w.heap.size, 2, none⟩ (.string nm)).setCell ⟨w.heap.size, 3, none⟩ (.slice xa ats.length xc')).setCell ⟨w.heap.size, 4, none⟩ (.string tx)).setCell ⟨w.heap.size, 5, none⟩ (.slice ka ks.length kc))).setCell ⟨w.heap.size + 1, 0, none⟩ (.int .i64 (j : Int)))).drew) w3.heap.size (s.size + 1) (.mk kd sq nm ats tx ks) (.agg #[.int .i64 kd, .int .i64 sq, .string nm, .slice xa ats.length xc', .string tx, .slice ka ks.length kc])) := ((((((((HE6.out.set hlt3).set hlt3).set hlt3).set hlt3).set hlt3).set hlt3).set hlt4)).below ((Below.refl _ _).drew)
    clear y0 y1 y2 y3 y4 y5 s0 s1 s2 s3 s4 s5 c0 z0 p1 HS6 HE6 HP6
    generalize (((((((((w6.setCell ⟨w.heap.size, 0, none⟩ (.int .i64 kd)).setCell ⟨w.heap.size, 1, none⟩ (.int .i64 sq)).setCell ⟨w.heap.size, 2, none⟩ (.string nm)).setCell ⟨w.heap.size, 3, none⟩ (.slice xa ats.length xc')).setCell ⟨w.heap.size, 4, none⟩ (.string tx)).setCell ⟨w.heap.size, 5, none⟩ (.slice ka ks.length kc))).setCell ⟨w.heap.size + 1, 0, none⟩ (.int .i64 (j : Int)))).drew = w8 at *
    go_wp2_with fail
    refine leaves_cons (f := 20) (args := #[.pointer (some ⟨w.heap.size, 0, none⟩), .pointer (some ⟨w.heap.size + 1, 0, none⟩)]) (by simp) (by simp [go_sem]) ?_
    refine (elFace_returns w.heap.size (w.heap.size + 1) _).mono ?_
    rintro e u' w'' ⟨rfl, rfl, rfl⟩
    obtain ⟨t0, t1, t2, t3, t4, t5⟩ := HS8.out.m.six
    have t6 := HS8.out.c
    have HR := readEl_yes Hyes.out HS8.out.b (HE8.out.low (Nat.le_of_lt hlt3))
    have HRh : Hid _ := HR
    clear HS8 HE8 HR
    simp [Leaves, settle, results, Tryz.results7, go_sem, t0, t1, t2, t3, t4, t5, t6]
    exact HRh.out

end Go.Proofs.YtbmmghkieolpkaaGreatDoor.Sg
