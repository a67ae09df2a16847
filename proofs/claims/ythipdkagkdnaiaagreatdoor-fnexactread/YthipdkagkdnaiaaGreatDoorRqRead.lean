/- Contract of the program's Read. Written by mk_rqread.py. -/
import Derived.Test.YthipdkagkdnaiaaGreatDoorMRD14
import Derived.Test.YthipdkagkdnaiaaGreatDoorMRD13
import Derived.Test.YthipdkagkdnaiaaGreatDoorRdLawRead
import Derived.Deep.Cut
import Derived.Deep.CutRange
import Derived.Deep.AppendLies
import Derived.Deep.RegionHeld3
namespace Go.Proofs.YthipdkagkdnaiaaGreatDoor.Sg
open Go.ChangeShapes Go.WideShapes Go.ChangeAt Go.RowKit

/-- The results' cells of Read. -/
structure FaceR (w W : World) (u : Value) : Prop where
  b : Below w.heap.size w W
  c : W.cell? ⟨w.heap.size, 0, none⟩ = some u
  z : W.frozen? ⟨w.heap.size, 0, none⟩ = false
  c1 : W.cell? ⟨w.heap.size + 1, 0, none⟩ = some (.bool false)
  z1 : W.frozen? ⟨w.heap.size + 1, 0, none⟩ = false
theorem FaceR.below {w W W' : World} {u : Value} (h : FaceR w W u) (hb : Below W.heap.size W W') : FaceR w W' u :=
  ⟨h.b.trans (hb.mono h.b.size), keep_cell hb h.c, (hb.frozen (block_lt_of_cell h.c)).trans h.z, keep_cell hb h.c1, (hb.frozen (block_lt_of_cell h.c1)).trans h.z1⟩
theorem FaceR.done {w W : World} {u : Value} (h : FaceR w W u) : FaceR w ((W.setCell ⟨w.heap.size, 0, none⟩ (.slice none 0 0)).setCell ⟨w.heap.size + 1, 0, none⟩ (.bool false)) (.slice none 0 0) := by
  have hne : w.heap.size + 1 ≠ w.heap.size := by omega
  refine ⟨(h.b.setCell (Nat.le_refl _) _).setCell (Nat.le_succ _) _, ?_, by simpa using h.z, ?_, by simpa using h.z1⟩
  · exact (World.cell?_setCell_other _ _ _ _ (fun e => hne (congrArg Addr.block e))).trans (World.cell?_setCell_same _ _ _ h.c)
  · exact World.cell?_setCell_same _ _ _ ((World.cell?_setCell_other _ _ _ _ (fun e => hne (congrArg Addr.block e).symm)).trans h.c1)
theorem ReadW.face {s : ByteArray} {n : Nat} {w W : World} {j : Nat} {u : Value} {l : List ElB} {v : Value} {C : List Value} {Fs : Nat → Foot} (h : ReadW s n w W j u l v C Fs) : FaceR w W u := ⟨h.b, h.c, h.z, h.c1, h.z1⟩
theorem ReadW.faceFr {s : ByteArray} {n : Nat} {w W W' : World} {j : Nat} {u : Value} {l : List ElB} {v : Value} {C : List Value} {Fs : Nat → Foot} (h : ReadW s n w W j u l v C Fs) (h2 : Fr (w.heap.size + 2) W W') : FaceR w W' u := by
  have e0 := h2.block w.heap.size (block_lt_of_cell h.c) (by omega)
  have e1 := h2.block (w.heap.size + 1) (block_lt_of_cell h.c1) (by omega)
  exact ⟨h.b.trans (h2.below (by omega) h.b.size), (cell_agree e0).trans h.c, by rw [← h.z]; simp [World.frozen?, e0], (cell_agree e1).trans h.c1, by rw [← h.z1]; simp [World.frozen?, e1]⟩
theorem read_no {s : ByteArray} {w W : World} (h : readR s = none) (hb : Below w.heap.size w W) : ReadOwn s w (.returned (.tuple #[.slice none 0 0, .bool false])) W := by
  refine ⟨hb, .slice none 0 0, 0, fun _ => False, by rw [h]; rfl, ?_, fun _ h => h.elim⟩
  unfold readL
  rw [h]
  exact OwnS.nil _ _ _ _
theorem read_yes {s : ByteArray} {w W : World} {l : List ElB} {v : Value} {N n : Nat} {F : Foot} (h : readR s = some l) (hb : Below w.heap.size w W) (hN : w.heap.size ≤ N) (ho : OwnS W N n l v F) (hF : ∀ b, F b → N ≤ b) : ReadOwn s w (.returned (.tuple #[v, .bool true])) W := by
  refine ⟨hb, v, n, F, by rw [h]; rfl, ?_, fun b h => Nat.le_trans hN (hF b h)⟩
  unfold readL
  rw [h]
  exact OwnS.low hN _ ho
theorem docQ_step (s : ByteArray) (el : Nat → Option (ElB × Nat)) (f i : Nat) (hi : i < s.size) : docQ s el (f + 1) i = match pieceQ s el i with
      | none => none
      | some x => if standsB s x.2 nlS = true then (docQ s el f (x.2 + 1)).map fun r => x.1 :: r else none := by
  rw [docQ, if_neg (not_not_intro hi)]
  cases pieceQ s el i <;> rfl

theorem row_tail {W : World} {base g n cap : Nat} {C : List Value} {z0 z1 z2 z3 z4 z5 : Value} (h : W.ownsRow base 25 6 (.slice (some ⟨g, 0, none⟩) (n + 1) cap) (n + 1) (C ++ [z0, z1, z2, z3, z4, z5])) (hC : C.length = n * 6) :
    (W.cell? ⟨g, n * 6, none⟩ = some z0 ∧ W.cell? ⟨g, n * 6 + 1, none⟩ = some z1 ∧ W.cell? ⟨g, n * 6 + 2, none⟩ = some z2 ∧ W.cell? ⟨g, n * 6 + 3, none⟩ = some z3 ∧ W.cell? ⟨g, n * 6 + 4, none⟩ = some z4 ∧ W.cell? ⟨g, n * 6 + 5, none⟩ = some z5) ∧
    (W.frozen? ⟨g, n * 6, none⟩ = false ∧ W.frozen? ⟨g, n * 6 + 1, none⟩ = false ∧ W.frozen? ⟨g, n * 6 + 2, none⟩ = false ∧ W.frozen? ⟨g, n * 6 + 3, none⟩ = false ∧ W.frozen? ⟨g, n * 6 + 4, none⟩ = false ∧ W.frozen? ⟨g, n * 6 + 5, none⟩ = false) := by
  have k : ∀ j, j < 6 → W.cell? ⟨g, n * 6 + j, none⟩ = [z0, z1, z2, z3, z4, z5][j]? ∧ W.frozen? ⟨g, n * 6 + j, none⟩ = false := fun j hj => by
    have h1 := own_cell h (j := n * 6 + j) (by omega)
    refine ⟨h1.1.trans ?_, h1.2⟩
    rw [List.getElem?_append_right (by omega)]
    congr 1
    omega
  exact ⟨⟨(k 0 (by omega)).1, (k 1 (by omega)).1, (k 2 (by omega)).1, (k 3 (by omega)).1, (k 4 (by omega)).1, (k 5 (by omega)).1⟩, (k 0 (by omega)).2, (k 1 (by omega)).2, (k 2 (by omega)).2, (k 3 (by omega)).2, (k 4 (by omega)).2, (k 5 (by omega)).2⟩
set_option maxHeartbeats 1000000 in
/-- Behind a panic: what was read is taken back. -/
theorem rdLeaves {s : ByteArray} {a : Addr} {w W : World} {u : Value} {tmps : Array Value} (h2 : tmps[2]?.getD undef = .pointer (some ⟨w.heap.size, 0, none⟩)) (h3 : tmps[3]?.getD undef = .pointer (some ⟨w.heap.size + 1, 0, none⟩)) (HS : FaceR w W u) (hno : readR s = none) :
    Leaves Tryz.prog Tryz.f12 tmps (fun r w' => ReadOwn s w r w') [{ target := .fn (.func 32) #[.pointer (some ⟨w.heap.size, 0, none⟩), .pointer (some ⟨w.heap.size + 1, 0, none⟩)], args := #[] }] (.panicking [{ v := errV a, recovered := false }]) W := by
  refine leaves_cons (f := 32) (args := #[.pointer (some ⟨w.heap.size, 0, none⟩), .pointer (some ⟨w.heap.size + 1, 0, none⟩)]) (by simp) (by simp [go_sem]) ?_
  refine (rdFace_panics w.heap.size (w.heap.size + 1) _ _ a [] _ HS.c HS.z HS.c1 HS.z1 (by omega)).mono ?_
  rintro e u' w'' ⟨rfl, rfl, rfl⟩
  have HD := HS.done
  have t0 := HD.c
  have t1 := HD.c1
  have HB : Hid (Below w.heap.size w _) := HD.b
  clear HD HS
  simp [Leaves, settle, results, Tryz.results12, go_sem, h2, h3, t0, t1]
  exact read_no hno HB.out
theorem set6_cell {W : World} {g b o k : Nat} {x a0 a1 a2 a3 a4 a5 : Value} (h : W.cell? ⟨b, k, none⟩ = some x) (hb : b ≠ g) : ((((((W.setCell ⟨g, o, none⟩ a0).setCell ⟨g, o + 1, none⟩ a1).setCell ⟨g, o + 2, none⟩ a2).setCell ⟨g, o + 3, none⟩ a3).setCell ⟨g, o + 4, none⟩ a4).setCell ⟨g, o + 5, none⟩ a5).cell? ⟨b, k, none⟩ = some x :=
  (cell_agree (set6_block W g o a0 a1 a2 a3 a4 a5 b hb)).trans h
theorem lies_at {r : Value} {g n c H : Nat} (h : r.ownBlock = some g ∨ g = H) : ∀ b, (Value.slice (some ⟨g, 0, none⟩) n c).ownBlock = some b → r.ownBlock = some b ∨ H ≤ b := fun b hb => by
  have e : g = b := Option.some.inj hb
  rw [← e]
  exact h.imp id (fun h => Nat.le_of_eq h.symm)
/-- A nought that was laid ahead of a call is there behind it. -/
theorem news_kept {p : Nat} {W W' : World} (h : Fr p ((W.alloc (.cells #[.int .i64 0, .int .i64 0, .string ⟨#[]⟩, .slice none 0 0, .string ⟨#[]⟩, .slice none 0 0] 25))).drew W') (hp : p < W.heap.size) : ∀ j u, zero6L[j]? = some u → W'.cell? ((⟨W.heap.size, 0, none⟩ : Addr).add j) = some u :=
  World.news_of_block (cs := #[.int .i64 0, .int .i64 0, .string ⟨#[]⟩, .slice none 0 0, .string ⟨#[]⟩, .slice none 0 0]) (t := 25) (fr := (0, 0)) ((h.block W.heap.size (by simp) (by omega)).trans (heap_alloc_new W _))

set_option maxRecDepth 20000 in
set_option maxHeartbeats 8000000 in
theorem implRead (s : ByteArray) (a : Addr) (w : World) (hs : s.size ≤ 1048576) (hX : PcX a w) :
    Calls Tryz.prog 12 #[.string s] w fun r w' => ReadOwn s w r w' := by
  have hmf : ∀ (fn : Fn) (first cap : Array Value) (w : World), (Instr.makeFunc fn first cap).run Tryz.prog w = .ok (.func fn first cap) w := fun _ _ _ _ => rfl
  obtain ⟨i0, hi0, hz0, hz1, hz2⟩ := info_parts info_el
  have HXw : Hid (PcX a w) := hX
  have bA := ((Below.refl w.heap.size w).alloc (Nat.le_refl _) (.cells #[.slice none 0 0] 23)).alloc (by simp) (.cells #[.bool false] 4)
  have HS : Hid (FaceR w ((w.alloc (.cells #[.slice none 0 0] 23)).alloc (.cells #[.bool false] 4)) (.slice none 0 0)) := ⟨bA, by simp, by simp, by simp, by simp⟩
  have hsz : ((w.alloc (.cells #[.slice none 0 0] 23)).alloc (.cells #[.bool false] 4)).heap.size = w.heap.size + 2 := by simp
  clear hX bA
  by_cases hbig : 200000 < s.size
  case pos =>
    have hno : readR s = none := by
      unfold readR
      rw [if_pos (.inl hbig)]
    have g0 : decide ((s.size : Int) ≤ 200000) = false := decide_eq_false (by omega)
    go_enter_defers Tryz.func12, Tryz.ntmps12
    go_upto_region 2 with fail
    generalize ((w.alloc (.cells #[.slice none 0 0] 23)).alloc (.cells #[.bool false] 4)) = w1 at *
    have hE := (HXw.out.below HS.out.b).1.2
    go_wp2_with fail
    refine (must_no a _ hE).mono ?_
    rintro e w2 ⟨rfl, rfl⟩
    go_wp2_with fail
    exact rdLeaves rfl rfl HS.out hno
  have g0 : decide ((s.size : Int) ≤ 200000) = true := decide_eq_true (by omega)
  go_enter_defers Tryz.func12, Tryz.ntmps12
  go_upto_region 2 with fail
  generalize ((w.alloc (.cells #[.slice none 0 0] 23)).alloc (.cells #[.bool false] 4)) = w1 at *
  go_wp2_with fail
  refine (must_yes _).mono ?_
  rintro e w1 ⟨rfl, rfl⟩
  have bB := (Below.refl w1.heap.size w1).alloc (Nat.le_refl _) (.cells #[.string s, .int .i64 0] 43)
  have HS3 := HS.out.below bB
  have hs3 : w.heap.size + 3 ≤ (w1.alloc (.cells #[.string s, .int .i64 0] 43)).heap.size := by simp; omega
  have HW3 : Hid (ReadW s (s.size + 1) w (w1.alloc (.cells #[.string s, .int .i64 0] 43)) 0 (.slice none 0 0) [] (.slice none 0 0) [] (fun _ _ => False)) := ⟨HS3.b, by rw [← hsz]; show (w1.heap.push _)[w1.heap.size]? = _; simp, HS3.c, HS3.z, HS3.c1, HS3.z1, RowO.nil _ _ _⟩
  clear HS bB HS3 g0
  go_upto_region 4 with fail
  generalize w1.alloc (.cells #[.string s, .int .i64 0] 43) = w3 at *
  clear hsz
  cases hb : standsB s 0 xmlHead
  case false =>
    have hno : readR s = none := by
      unfold readR
      rw [if_pos (.inr hb)]
    have HW := want_no a (w.heap.size + 2) s xmlHead 0 _ (HW3.out.rq HXw.out) (Nat.zero_le _) hb
    unfold xmlHead at HW
    go_wp2_with fail
    refine HW.mono ?_
    rintro e w4 ⟨rfl, F4⟩
    have HS : Hid (FaceR w w4 (.slice none 0 0)) := by
      have e0 := F4.block w.heap.size (block_lt_of_cell HW3.out.c) (by omega)
      have e1 := F4.block (w.heap.size + 1) (block_lt_of_cell HW3.out.c1) (by omega)
      exact ⟨HW3.out.b.trans (F4.below (by omega) HW3.out.b.size), (cell_agree e0).trans HW3.out.c, by rw [← HW3.out.z]; simp [World.frozen?, e0], (cell_agree e1).trans HW3.out.c1, by rw [← HW3.out.z1]; simp [World.frozen?, e1]⟩
    clear HW HW3 F4
    go_wp2_with fail
    exact rdLeaves rfl rfl HS.out hno
  have h22 : xmlHead.size = 22 := rfl
  have hle := stands_le hb
  rw [h22] at hle
  have HW := want_yes a (w.heap.size + 2) s xmlHead 0 _ (HW3.out.rq HXw.out) (Nat.zero_le _) (by omega) (by rw [h22]; omega) hb
  rw [h22] at HW
  unfold xmlHead at HW
  go_wp2_with fail
  refine HW.mono ?_
  rintro e w4 ⟨rfl, R4, F4⟩
  have HW4 : Hid (ReadW s (s.size + 1) w w4 22 (.slice none 0 0) [] (.slice none 0 0) [] (fun _ _ => False)) := HW3.out.fr F4 (by have := R4.1; exact this)
  clear HW HW3 R4 F4
  obtain ⟨R, HR⟩ : ∃ R, Hid (docQ s (fun q => elQ s (s.size + 1) 60 q (-1)) (s.size + 1) 22 = R) := ⟨_, rfl⟩
  have HP : Hid (readR s = match (generalizing := false) R with
      | none => none
      | some l => if docF 0 0 l = true then some l else none) := by
    show _ = _
    rw [← readP_eq]
    unfold readP
    rw [if_neg (by rintro (h | h); · exact hbig h
                   · rw [hb] at h; cases h), ← HR.out]
    rfl
  have HR1 : Hid ((docQ s (fun q => elQ s (s.size + 1) 60 q (-1)) (s.size + 1) 22).map (fun r => [] ++ r) = R) := by
    show _ = _
    rw [← HR.out]
    cases docQ s (fun q => elQ s (s.size + 1) 60 q (-1)) (s.size + 1) 22 <;> simp
  have Hsize : Hid (∀ l, R = some l → l.length + elsW l ≤ 1000000) := fun l h => by
    have := docQ_size s _ (elQ_size s (s.size + 1) 60 (-1)) _ _ l (HR.out.trans h) (by omega)
    omega
  clear HR
  go_wp2_with fail
  go_loopw [] (fun wr => ∃ (l : List ElB) (f j : Nat) (v : Value) (C : List Value) (Fs : Nat → Foot), 22 ≤ j ∧ j ≤ s.size ∧ s.size + 1 ≤ f + j ∧ l.length ≤ j ∧ Hid ((docQ s (fun q => elQ s (s.size + 1) 60 q (-1)) f j).map (fun r => l ++ r) = R) ∧ Hid (ReadW s (s.size + 1) w wr j v l v C Fs)) (fun wr => rqLeft s (w.heap.size + 2) wr)
  case atStart => exact ⟨[], s.size + 1, 22, _, [], _, Nat.le_refl _, by omega, by omega, Nat.zero_le _, HR1, HW4⟩
  case round =>
    obtain ⟨l, f, j, v, C, Fs, hj0, hj, hf, hl, HR, HQ⟩ := hrel
    obtain ⟨f', rfl⟩ : ∃ f', f = f' + 1 := ⟨f - 1, by omega⟩
    clear HR1 HW4
    have HM : Hid (rqLeft s (w.heap.size + 2) _ = s.size + 2 - j) := rqLeft_at HQ.out.q
    have c1 := HQ.out.q.c1
    by_cases hlt : j < s.size
    · have g0 : decide ((j : Int) < (s.size : Int)) = true := decide_eq_true (by omega)
      have HX : Hid (∀ W, Rq a (w.heap.size + 2) s (j : Int) W → Calls Tryz.prog 34 #[.pointer (some ⟨w.heap.size + 2, 0, none⟩), .int .i64 (-1), .int .i64 1] W (fun e w' => GotE a (w.heap.size + 2) s (s.size + 1) (pieceQ s (fun q => elQ s (s.size + 1) 60 q (-1)) j) W e w')) := fun W hW => implPiece a (w.heap.size + 2) s j (s.size + 1) (-1) 1 (fun q => elQ s (s.size + 1) 60 q (-1)) W hW hlt hs (fun W' hW' => implTag a (w.heap.size + 2) s hs (s.size + 1) 60 j (-1) 1 W' (by omega) (by omega) hj (by omega) hW')
      have hst := docQ_step s (fun q => elQ s (s.size + 1) 60 q (-1)) f' j hlt
      cases ho : pieceQ s (fun q => elQ s (s.size + 1) 60 q (-1)) j with
      | none =>
        have Hpan : Hid (∀ W, ReadW s (s.size + 1) w W j v l v C Fs → Calls Tryz.prog 34 #[.pointer (some ⟨w.heap.size + 2, 0, none⟩), .int .i64 (-1), .int .i64 1] W (fun e w' => e = PanE a ∧ FaceR w w' v)) := fun W hW => (HX.out W (hW.rq HXw.out)).mono fun e w' hh => by
          obtain ⟨h1, h2⟩ := hh
          rw [ho] at h1
          rcases h1 with ⟨x, m, y, h3, _⟩ | ⟨_, h3⟩
          · cases h3
          · refine ⟨h3, ?_⟩
            have e0 := h2.block w.heap.size (block_lt_of_cell hW.c) (by omega)
            have e1 := h2.block (w.heap.size + 1) (block_lt_of_cell hW.c1) (by omega)
            exact ⟨hW.b.trans (h2.below (by omega) hW.b.size), (cell_agree e0).trans hW.c, by rw [← hW.z]; simp [World.frozen?, e0], (cell_agree e1).trans hW.c1, by rw [← hW.z1]; simp [World.frozen?, e1]⟩
        have hno : readR s = none := by
          rw [HP.out]
          rw [ho] at hst
          have : R = none := by rw [← HR.out, hst]; rfl
          rw [this]
        obtain ⟨g, cap, ev⟩ := HQ.out.row.form
        subst ev
        have y0 := HQ.out.c
        have W0 := HQ.out
        have B1 := (Below.refl wr.heap.size wr).alloc (Nat.le_refl _) (.cells #[.int .i64 0, .int .i64 0, .string ⟨#[]⟩, .slice none 0 0, .string ⟨#[]⟩, .slice none 0 0] 25)
        have y1 := keep_cell B1 y0
        clear HX hst HM ho HR
        go_upto_region 6 with fail
        refine wp_region_any (by kernel_rfl) ?_
        change wpAny _ _ _ _ _ _ _ (World.drew _)
        refine wpAny_ready (rs := [0, 1, 3]) (by kernel_rfl) (by simp) ?_
        refine AllReady.cons rfl (fun K hK => ?_) ?_
        · go_simp
          refine hK _ _ ?_
          clear hK K
          refine wpAny_ready (rs := [1, 2, 3]) (by kernel_rfl) (by simp) ?_
          refine AllReady.cons rfl (fun K hK => ?_) ?_
          · go_simp
            refine (Hpan.out _ (by exact W0.below ((Below.refl _ _).drew))).mono ?_
            rintro e w6 ⟨rfl, HF⟩
            have HS : Hid (FaceR w w6 _) := HF
            clear HF hK
            go_wp2_with fail
            exact rdLeaves rfl rfl HS.out hno
          refine AllReady.cons rfl (fun K hK => ?_) ?_
          · go_simp
            refine hK _ _ ?_
            clear hK K
            refine wpAny_ready (rs := [1, 3]) (by kernel_rfl) (by simp) ?_
            refine AllReady.cons rfl (fun K hK => ?_) ?_
            · go_simp
              refine (Hpan.out _ (by exact W0.below ((Below.refl _ _).drew))).mono ?_
              rintro e w6 ⟨rfl, HF⟩
              have HS : Hid (FaceR w w6 _) := HF
              clear HF hK
              go_wp2_with fail
              exact rdLeaves rfl rfl HS.out hno
            refine AllReady.cons rfl (fun K hK => ?_) ?_
            · go_simp
              refine hK _ _ ?_
              clear hK K
              refine wpAny_ready (rs := [1]) (by kernel_rfl) (by simp) ?_
              refine AllReady.cons rfl (fun K hK => ?_) ?_
              · go_simp
                refine (Hpan.out _ (by exact W0.below (((Below.refl _ _).alloc (Nat.le_refl _) _).drew))).mono ?_
                rintro e w6 ⟨rfl, HF⟩
                have HS : Hid (FaceR w w6 _) := HF
                clear HF hK
                go_wp2_with fail
                exact rdLeaves rfl rfl HS.out hno
              exact AllReady.nil
            exact AllReady.nil
          refine AllReady.cons rfl (fun K hK => ?_) ?_
          · go_simp
            refine hK _ _ ?_
            clear hK K
            refine wpAny_ready (rs := [1, 2]) (by kernel_rfl) (by simp) ?_
            refine AllReady.cons rfl (fun K hK => ?_) ?_
            · go_simp
              refine (Hpan.out _ (by exact W0.below (((Below.refl _ _).alloc (Nat.le_refl _) _).drew))).mono ?_
              rintro e w6 ⟨rfl, HF⟩
              have HS : Hid (FaceR w w6 _) := HF
              clear HF hK
              go_wp2_with fail
              exact rdLeaves rfl rfl HS.out hno
            refine AllReady.cons rfl (fun K hK => ?_) ?_
            · go_simp
              refine hK _ _ ?_
              clear hK K
              refine wpAny_ready (rs := [1]) (by kernel_rfl) (by simp) ?_
              refine AllReady.cons rfl (fun K hK => ?_) ?_
              · go_simp
                refine (Hpan.out _ (by exact W0.below (((Below.refl _ _).alloc (Nat.le_refl _) _).drew))).mono ?_
                rintro e w6 ⟨rfl, HF⟩
                have HS : Hid (FaceR w w6 _) := HF
                clear HF hK
                go_wp2_with fail
                exact rdLeaves rfl rfl HS.out hno
              exact AllReady.nil
            exact AllReady.nil
          exact AllReady.nil
        refine AllReady.cons rfl (fun K hK => ?_) ?_
        · go_simp
          refine (Hpan.out _ (by exact W0.below ((Below.refl _ _).drew))).mono ?_
          rintro e w6 ⟨rfl, HF⟩
          have HS : Hid (FaceR w w6 _) := HF
          clear HF hK
          go_wp2_with fail
          exact rdLeaves rfl rfl HS.out hno
        refine AllReady.cons rfl (fun K hK => ?_) ?_
        · go_simp
          refine hK _ _ ?_
          clear hK K
          refine wpAny_ready (rs := [0, 1]) (by kernel_rfl) (by simp) ?_
          refine AllReady.cons rfl (fun K hK => ?_) ?_
          · go_simp
            refine hK _ _ ?_
            clear hK K
            refine wpAny_ready (rs := [1, 2]) (by kernel_rfl) (by simp) ?_
            refine AllReady.cons rfl (fun K hK => ?_) ?_
            · go_simp
              refine (Hpan.out _ (by exact W0.below (((Below.refl _ _).alloc (Nat.le_refl _) _).drew))).mono ?_
              rintro e w6 ⟨rfl, HF⟩
              have HS : Hid (FaceR w w6 _) := HF
              clear HF hK
              go_wp2_with fail
              exact rdLeaves rfl rfl HS.out hno
            refine AllReady.cons rfl (fun K hK => ?_) ?_
            · go_simp
              refine hK _ _ ?_
              clear hK K
              refine wpAny_ready (rs := [1]) (by kernel_rfl) (by simp) ?_
              refine AllReady.cons rfl (fun K hK => ?_) ?_
              · go_simp
                refine (Hpan.out _ (by exact W0.below (((Below.refl _ _).alloc (Nat.le_refl _) _).drew))).mono ?_
                rintro e w6 ⟨rfl, HF⟩
                have HS : Hid (FaceR w w6 _) := HF
                clear HF hK
                go_wp2_with fail
                exact rdLeaves rfl rfl HS.out hno
              exact AllReady.nil
            exact AllReady.nil
          refine AllReady.cons rfl (fun K hK => ?_) ?_
          · go_simp
            refine (Hpan.out _ (by exact W0.below (((Below.refl _ _).alloc (Nat.le_refl _) _).drew))).mono ?_
            rintro e w6 ⟨rfl, HF⟩
            have HS : Hid (FaceR w w6 _) := HF
            clear HF hK
            go_wp2_with fail
            exact rdLeaves rfl rfl HS.out hno
          exact AllReady.nil
        exact AllReady.nil
      | some r =>
        obtain ⟨x, m⟩ := r
        rw [ho] at hst
        have hm := piece_size (elQ_size s (s.size + 1) 60 (-1)) j x m hlt ho
        have Hcall : Hid (∀ W, ReadW s (s.size + 1) w W j v l v C Fs → Calls Tryz.prog 34 #[.pointer (some ⟨w.heap.size + 2, 0, none⟩), .int .i64 (-1), .int .i64 1] W (fun e w' => ∃ (kd sq : Int) (nm tx : ByteArray) (xa : Option Addr) (xn xc : Nat) (ka : Option Addr) (kn kc : Nat), e = .returned (.agg #[.int .i64 kd, .int .i64 sq, .string nm, .slice xa xn xc, .string tx, .slice ka kn kc]) ∧ ReadW s (s.size + 1) w w' m v l v C Fs ∧ MadeX w' (w.heap.size + 3) (s.size + 1) x (.agg #[.int .i64 kd, .int .i64 sq, .string nm, .slice xa xn xc, .string tx, .slice ka kn kc]) W.heap.size w'.heap.size ∧ Fr (w.heap.size + 2) W w')) := fun W hW => (HX.out W (hW.rq HXw.out)).mono fun e w' hh => by
          obtain ⟨h1, h2⟩ := hh
          rw [ho] at h1
          rcases h1 with ⟨x', m', y, h3, h4, h5, h6⟩ | ⟨h3, _⟩
          · cases h3
            obtain ⟨kd, sq, nm, ats, tx, ks⟩ := x
            obtain ⟨xa, xc, ka, kc, ev⟩ := h5.form
            subst ev
            exact ⟨_, _, _, _, _, _, _, _, _, _, h4, hW.fr h2 h6.1, MadeX.of h5 hW.size, h2⟩
          · cases h3
        obtain ⟨g, cap, ev⟩ := HQ.out.row.form
        subst ev
        have y0 := HQ.out.c
        have W0 := HQ.out
        have hC6 : Hid (C.length = l.length * 6) := HQ.out.row.1.1
        have hblk : Hid ((∀ b, (Value.slice g l.length cap).ownBlock = some b → b < wr.heap.size) ∧ ∀ i, i < l.length → ∀ b, Fs i b → b < wr.heap.size) := HQ.out.row.blocks
        have hws := HQ.out.size
        have n0 : (Value.slice g l.length cap).ownBlock ≠ some w.heap.size := fun e => by
          have := (own_since HQ.out.row.1 e).1
          omega
        have i1 : (0 : Int) ≤ (l.length : Int) := by omega
        have i2 : (l.length : Int) < (l.length : Int) + 1 := by omega
        have hone : ∀ u ∈ zero6L, u.oneCell' = true := by
          intro u hu
          simp only [List.mem_cons, List.not_mem_nil, or_false] at hu
          rcases hu with rfl | rfl | rfl | rfl | rfl | rfl <;> rfl
        have h63 : l.length + 1 ≤ maxLen := by unfold maxLen; omega
        have hbyt : (l.length + 1) * 96 ≤ 140737488355328 := by omega
        have B1 := (Below.refl wr.heap.size wr).alloc (Nat.le_refl _) (.cells #[.int .i64 0, .int .i64 0, .string ⟨#[]⟩, .slice none 0 0, .string ⟨#[]⟩, .slice none 0 0] 25)
        have y1 := keep_cell B1 y0
        clear HX HQ
        go_upto_region 6 with fail
        go_cut [22] from 18 to 24 (fun _ wx => ∃ W : World, W = wx ∧ ∃ (v' : Value) (C' : List Value) (Fs' : Nat → Foot), ReadW s (s.size + 1) w W m v' (l ++ [x]) v' C' Fs')
        case first =>
          clear HXw Hsize HP hst ho hm HM HR hle hs3 hbig
          refine wp_region_noPanic ?_
          refine wp_region_any (by kernel_rfl) ?_
          change wpAny _ _ _ _ _ _ _ (World.drew _)
          refine wpAny_ready (rs := [0, 1, 3]) (by kernel_rfl) (by simp) ?_
          refine AllReady.cons rfl (fun K hK => ?_) ?_
          · go_simp
            refine hK _ _ ?_
            clear hK K
            refine wpAny_take (i := 2) (v := .int .i64 (l.length : Int)) rfl (by kernel_rfl) (by kernel_rfl) (by kernel_rfl) (fun _ _ _ h => h) (Or.inl ⟨by rfl, fun w => by go_simp⟩) ?_
            simp only [Act.put]
            refine wpAny_ready (rs := [1, 3]) (by kernel_rfl) (by simp) ?_
            refine AllReady.cons rfl (fun K hK => ?_) ?_
            · go_simp
              refine (Hcall.out _ (W0.below ((Below.refl _ _).drew))).mono ?_
              rintro e w6 ⟨kd, sq, nm, tx, xa, xn, xc, ka, kn, kc, rfl, H6, M6, F6⟩
              have c6 := H6.c
              have c6a := cell_al (x := .cells #[.int .i64 0, .int .i64 0, .string ⟨#[]⟩, .slice none 0 0, .string ⟨#[]⟩, .slice none 0 0] 25) H6.c
              refine hK _ _ ?_
              clear hK K
              refine wpAny_ready (rs := [3]) (by kernel_rfl) (by simp) ?_
              refine AllReady.cons rfl (fun K hK => ?_) ?_
              · go_simp
                refine hK _ _ ?_
                clear hK K
                refine wpAny_ready (rs := [4]) (by kernel_rfl) (by simp) ?_
                refine AllReady.cons rfl (fun K hK => ?_) AllReady.nil
                refine step_append_lies _ (by rfl) _ _ _ (by rfl) (w.heap.size + 3) 25 i0 _ 6 96 Tryz.underlying23 hi0 hz0 hz1 hz2 rfl (by omega) (.slice g l.length cap) l.length C (by rfl) (H6.row.1.alloc _) ⟨_, 0, none⟩ 1 1 zero6L (by rfl) (by rfl) (World.news_of_block (cs := #[.int .i64 0, .int .i64 0, .string ⟨#[]⟩, .slice none 0 0, .string ⟨#[]⟩, .slice none 0 0]) (t := 25) (fr := (0, 0)) (heap_alloc_new w6 _)) hone (by omega) h63 hbyt (by have := H6.size; simp; omega) _ rfl ?_
                intro gg cap6 w7 hown7 hgrow hat hlt7
                refine hK _ _ ?_
                have HG : Hid _ := ReadW.grow (H6.below ((Below.refl _ _).alloc (Nat.le_refl _) _)) hown7 hgrow (lies_at hat)
                obtain ⟨⟨k0, k1, k2, k3, k4, k5⟩, f0, f1, f2, f3, f4, f5⟩ := row_tail hown7 hC6.out
                obtain ⟨⟨l0, l1, l2, l3, l4, l5⟩, _⟩ := row_tail (owns_setC (i := 0) (u := .slice (some ⟨gg, 0, none⟩) (l.length + 1) cap6) hown7 (show w.heap.size < w.heap.size + 3 by omega)) hC6.out
                have ng : w.heap.size ≠ gg := (by have hh : w.heap.size + 3 ≤ gg := (own_since hown7 rfl).1; omega)
                have k6 := HG.out.c
                have z6 := HG.out.z
                have k7 := set6_cell (o := l.length * 6) (a0 := .int .i64 kd) (a1 := .int .i64 sq) (a2 := .string nm) (a3 := .slice xa xn xc) (a4 := .string tx) (a5 := .slice ka kn kc) k6 ng
                have HMx : Hid (MadeX w7 (w.heap.size + 3) (s.size + 1) x (.agg #[.int .i64 kd, .int .i64 sq, .string nm, .slice xa xn xc, .string tx, .slice ka kn kc]) wr.drew.heap.size w6.heap.size) := MadeX.grown (M6.keep (by simp) (fun b _ h2 => (Below.heap_alloc w6 (.cells #[.int .i64 0, .int .i64 0, .string ⟨#[]⟩, .slice none 0 0, .string ⟨#[]⟩, .slice none 0 0] 25) b h2))) hgrow (fun b hb => by have := hblk.out.1 b hb; simp; omega)
                have Hhat : Hid (gg < wr.drew.heap.size ∨ w6.heap.size ≤ gg) := by
                  rcases hat with h | h
                  · left
                    have := hblk.out.1 gg h
                    simp
                    omega
                  · right
                    rw [h]
                    simp
                have HFs : Hid (∀ i, i < l.length → ∀ b, Fs i b → b < wr.drew.heap.size) := fun i hi b hb => by
                  have := hblk.out.2 i hi b hb
                  simp
                  omega
                clear hK K hown7 hgrow hat hlt7 H6 M6 F6 c6 c6a y0 y1 W0 B1 hone h63 hbyt n0 hi0 hz0 hz1 hz2 hmf ng
                refine wpAny_take (i := 5) (v := .pointer (some ⟨gg, l.length * 6, none⟩)) rfl (by kernel_rfl) (by kernel_rfl) (by kernel_rfl) (fun _ _ _ h => h) (Or.inl ⟨by rfl, fun w => by go_simp⟩) ?_
                simp only [Act.put]
                refine wpAny_ready (rs := [6, 7]) (by kernel_rfl) (by simp) ?_
                refine AllReady.cons rfl (fun K hK => ?_) ?_
                · go_simp
                  refine hK _ _ ?_
                  clear hK K
                  refine wpAny_ready (rs := [7]) (by kernel_rfl) (by simp) ?_
                  refine AllReady.cons rfl (fun K hK => ?_) ?_
                  · go_simp
                    refine hK _ _ ?_
                    clear hK K
                    refine wpAny_done (by kernel_rfl) (NoPanic.normal ?_) _
                    go_wp2_with fail
                    go_meet
                    case rel => exact ⟨_, rfl, ReadW.fin1 HG.out hC6.out HMx.out Hhat.out HFs.out⟩
                  exact AllReady.nil
                refine AllReady.cons rfl (fun K hK => ?_) ?_
                · go_simp
                  refine hK _ _ ?_
                  clear hK K
                  refine wpAny_ready (rs := [6]) (by kernel_rfl) (by simp) ?_
                  refine AllReady.cons rfl (fun K hK => ?_) ?_
                  · go_simp
                    refine hK _ _ ?_
                    clear hK K
                    refine wpAny_done (by kernel_rfl) (NoPanic.normal ?_) _
                    go_wp2_with fail
                    go_meet
                    case rel => exact ⟨_, rfl, ReadW.fin2 HG.out hC6.out HMx.out Hhat.out HFs.out⟩
                  exact AllReady.nil
                exact AllReady.nil
              exact AllReady.nil
            refine AllReady.cons rfl (fun K hK => ?_) ?_
            · go_simp
              refine hK _ _ ?_
              clear hK K
              refine wpAny_ready (rs := [1]) (by kernel_rfl) (by simp) ?_
              refine AllReady.cons rfl (fun K hK => ?_) ?_
              · go_simp
                refine (Hcall.out _ (W0.below (((Below.refl _ _).alloc (Nat.le_refl _) _).drew))).mono ?_
                rintro e w6 ⟨kd, sq, nm, tx, xa, xn, xc, ka, kn, kc, rfl, H6, M6, F6⟩
                have c6 := H6.c
                have c6a := cell_al (x := .cells #[.int .i64 0, .int .i64 0, .string ⟨#[]⟩, .slice none 0 0, .string ⟨#[]⟩, .slice none 0 0] 25) H6.c
                refine hK _ _ ?_
                clear hK K
                refine wpAny_ready (rs := [4]) (by kernel_rfl) (by simp) ?_
                refine AllReady.cons rfl (fun K hK => ?_) AllReady.nil
                refine step_append_lies _ (by rfl) _ _ _ (by rfl) (w.heap.size + 3) 25 i0 _ 6 96 Tryz.underlying23 hi0 hz0 hz1 hz2 rfl (by omega) (.slice g l.length cap) l.length C (by rfl) H6.row.1 ⟨_, 0, none⟩ 1 1 zero6L (by rfl) (by rfl) (news_kept F6 (by omega)) hone (by omega) h63 hbyt (by have := H6.size; omega) _ rfl ?_
                intro gg cap6 w7 hown7 hgrow hat hlt7
                refine hK _ _ ?_
                have HG : Hid _ := ReadW.grow H6 hown7 hgrow (lies_at hat)
                obtain ⟨⟨k0, k1, k2, k3, k4, k5⟩, f0, f1, f2, f3, f4, f5⟩ := row_tail hown7 hC6.out
                obtain ⟨⟨l0, l1, l2, l3, l4, l5⟩, _⟩ := row_tail (owns_setC (i := 0) (u := .slice (some ⟨gg, 0, none⟩) (l.length + 1) cap6) hown7 (show w.heap.size < w.heap.size + 3 by omega)) hC6.out
                have ng : w.heap.size ≠ gg := (by have hh : w.heap.size + 3 ≤ gg := (own_since hown7 rfl).1; omega)
                have k6 := HG.out.c
                have z6 := HG.out.z
                have k7 := set6_cell (o := l.length * 6) (a0 := .int .i64 kd) (a1 := .int .i64 sq) (a2 := .string nm) (a3 := .slice xa xn xc) (a4 := .string tx) (a5 := .slice ka kn kc) k6 ng
                have HMx : Hid (MadeX w7 (w.heap.size + 3) (s.size + 1) x (.agg #[.int .i64 kd, .int .i64 sq, .string nm, .slice xa xn xc, .string tx, .slice ka kn kc]) (wr.alloc (.cells #[.int .i64 0, .int .i64 0, .string ⟨#[]⟩, .slice none 0 0, .string ⟨#[]⟩, .slice none 0 0] 25)).drew.heap.size w6.heap.size) := MadeX.grown M6 hgrow (fun b hb => by have := hblk.out.1 b hb; simp; omega)
                have Hhat : Hid (gg < (wr.alloc (.cells #[.int .i64 0, .int .i64 0, .string ⟨#[]⟩, .slice none 0 0, .string ⟨#[]⟩, .slice none 0 0] 25)).drew.heap.size ∨ w6.heap.size ≤ gg) := by
                  rcases hat with h | h
                  · left
                    have := hblk.out.1 gg h
                    simp
                    omega
                  · right
                    rw [h]
                    simp
                have HFs : Hid (∀ i, i < l.length → ∀ b, Fs i b → b < (wr.alloc (.cells #[.int .i64 0, .int .i64 0, .string ⟨#[]⟩, .slice none 0 0, .string ⟨#[]⟩, .slice none 0 0] 25)).drew.heap.size) := fun i hi b hb => by
                  have := hblk.out.2 i hi b hb
                  simp
                  omega
                clear hK K hown7 hgrow hat hlt7 H6 M6 F6 c6 c6a y0 y1 W0 B1 hone h63 hbyt n0 hi0 hz0 hz1 hz2 hmf ng
                refine wpAny_take (i := 5) (v := .pointer (some ⟨gg, l.length * 6, none⟩)) rfl (by kernel_rfl) (by kernel_rfl) (by kernel_rfl) (fun _ _ _ h => h) (Or.inl ⟨by rfl, fun w => by go_simp⟩) ?_
                simp only [Act.put]
                refine wpAny_ready (rs := [6, 7]) (by kernel_rfl) (by simp) ?_
                refine AllReady.cons rfl (fun K hK => ?_) ?_
                · go_simp
                  refine hK _ _ ?_
                  clear hK K
                  refine wpAny_ready (rs := [7]) (by kernel_rfl) (by simp) ?_
                  refine AllReady.cons rfl (fun K hK => ?_) ?_
                  · go_simp
                    refine hK _ _ ?_
                    clear hK K
                    refine wpAny_done (by kernel_rfl) (NoPanic.normal ?_) _
                    go_wp2_with fail
                    go_meet
                    case rel => exact ⟨_, rfl, ReadW.fin1 HG.out hC6.out HMx.out Hhat.out HFs.out⟩
                  exact AllReady.nil
                refine AllReady.cons rfl (fun K hK => ?_) ?_
                · go_simp
                  refine hK _ _ ?_
                  clear hK K
                  refine wpAny_ready (rs := [6]) (by kernel_rfl) (by simp) ?_
                  refine AllReady.cons rfl (fun K hK => ?_) ?_
                  · go_simp
                    refine hK _ _ ?_
                    clear hK K
                    refine wpAny_done (by kernel_rfl) (NoPanic.normal ?_) _
                    go_wp2_with fail
                    go_meet
                    case rel => exact ⟨_, rfl, ReadW.fin2 HG.out hC6.out HMx.out Hhat.out HFs.out⟩
                  exact AllReady.nil
                exact AllReady.nil
              exact AllReady.nil
            exact AllReady.nil
          refine AllReady.cons rfl (fun K hK => ?_) ?_
          · go_simp
            refine (Hcall.out _ (W0.below ((Below.refl _ _).drew))).mono ?_
            rintro e w6 ⟨kd, sq, nm, tx, xa, xn, xc, ka, kn, kc, rfl, H6, M6, F6⟩
            have c6 := H6.c
            have c6a := cell_al (x := .cells #[.int .i64 0, .int .i64 0, .string ⟨#[]⟩, .slice none 0 0, .string ⟨#[]⟩, .slice none 0 0] 25) H6.c
            refine hK _ _ ?_
            clear hK K
            refine wpAny_ready (rs := [0, 3]) (by kernel_rfl) (by simp) ?_
            refine AllReady.cons rfl (fun K hK => ?_) ?_
            · go_simp
              refine hK _ _ ?_
              clear hK K
              refine wpAny_take (i := 2) (v := .int .i64 (l.length : Int)) rfl (by kernel_rfl) (by kernel_rfl) (by kernel_rfl) (fun _ _ _ h => h) (Or.inl ⟨by rfl, fun w => by go_simp⟩) ?_
              simp only [Act.put]
              refine wpAny_ready (rs := [3]) (by kernel_rfl) (by simp) ?_
              refine AllReady.cons rfl (fun K hK => ?_) ?_
              · go_simp
                refine hK _ _ ?_
                clear hK K
                refine wpAny_ready (rs := [4]) (by kernel_rfl) (by simp) ?_
                refine AllReady.cons rfl (fun K hK => ?_) AllReady.nil
                refine step_append_lies _ (by rfl) _ _ _ (by rfl) (w.heap.size + 3) 25 i0 _ 6 96 Tryz.underlying23 hi0 hz0 hz1 hz2 rfl (by omega) (.slice g l.length cap) l.length C (by rfl) (H6.row.1.alloc _) ⟨_, 0, none⟩ 1 1 zero6L (by rfl) (by rfl) (World.news_of_block (cs := #[.int .i64 0, .int .i64 0, .string ⟨#[]⟩, .slice none 0 0, .string ⟨#[]⟩, .slice none 0 0]) (t := 25) (fr := (0, 0)) (heap_alloc_new w6 _)) hone (by omega) h63 hbyt (by have := H6.size; simp; omega) _ rfl ?_
                intro gg cap6 w7 hown7 hgrow hat hlt7
                refine hK _ _ ?_
                have HG : Hid _ := ReadW.grow (H6.below ((Below.refl _ _).alloc (Nat.le_refl _) _)) hown7 hgrow (lies_at hat)
                obtain ⟨⟨k0, k1, k2, k3, k4, k5⟩, f0, f1, f2, f3, f4, f5⟩ := row_tail hown7 hC6.out
                obtain ⟨⟨l0, l1, l2, l3, l4, l5⟩, _⟩ := row_tail (owns_setC (i := 0) (u := .slice (some ⟨gg, 0, none⟩) (l.length + 1) cap6) hown7 (show w.heap.size < w.heap.size + 3 by omega)) hC6.out
                have ng : w.heap.size ≠ gg := (by have hh : w.heap.size + 3 ≤ gg := (own_since hown7 rfl).1; omega)
                have k6 := HG.out.c
                have z6 := HG.out.z
                have k7 := set6_cell (o := l.length * 6) (a0 := .int .i64 kd) (a1 := .int .i64 sq) (a2 := .string nm) (a3 := .slice xa xn xc) (a4 := .string tx) (a5 := .slice ka kn kc) k6 ng
                have HMx : Hid (MadeX w7 (w.heap.size + 3) (s.size + 1) x (.agg #[.int .i64 kd, .int .i64 sq, .string nm, .slice xa xn xc, .string tx, .slice ka kn kc]) wr.drew.heap.size w6.heap.size) := MadeX.grown (M6.keep (by simp) (fun b _ h2 => (Below.heap_alloc w6 (.cells #[.int .i64 0, .int .i64 0, .string ⟨#[]⟩, .slice none 0 0, .string ⟨#[]⟩, .slice none 0 0] 25) b h2))) hgrow (fun b hb => by have := hblk.out.1 b hb; simp; omega)
                have Hhat : Hid (gg < wr.drew.heap.size ∨ w6.heap.size ≤ gg) := by
                  rcases hat with h | h
                  · left
                    have := hblk.out.1 gg h
                    simp
                    omega
                  · right
                    rw [h]
                    simp
                have HFs : Hid (∀ i, i < l.length → ∀ b, Fs i b → b < wr.drew.heap.size) := fun i hi b hb => by
                  have := hblk.out.2 i hi b hb
                  simp
                  omega
                clear hK K hown7 hgrow hat hlt7 H6 M6 F6 c6 c6a y0 y1 W0 B1 hone h63 hbyt n0 hi0 hz0 hz1 hz2 hmf ng
                refine wpAny_take (i := 5) (v := .pointer (some ⟨gg, l.length * 6, none⟩)) rfl (by kernel_rfl) (by kernel_rfl) (by kernel_rfl) (fun _ _ _ h => h) (Or.inl ⟨by rfl, fun w => by go_simp⟩) ?_
                simp only [Act.put]
                refine wpAny_ready (rs := [6, 7]) (by kernel_rfl) (by simp) ?_
                refine AllReady.cons rfl (fun K hK => ?_) ?_
                · go_simp
                  refine hK _ _ ?_
                  clear hK K
                  refine wpAny_ready (rs := [7]) (by kernel_rfl) (by simp) ?_
                  refine AllReady.cons rfl (fun K hK => ?_) ?_
                  · go_simp
                    refine hK _ _ ?_
                    clear hK K
                    refine wpAny_done (by kernel_rfl) (NoPanic.normal ?_) _
                    go_wp2_with fail
                    go_meet
                    case rel => exact ⟨_, rfl, ReadW.fin1 HG.out hC6.out HMx.out Hhat.out HFs.out⟩
                  exact AllReady.nil
                refine AllReady.cons rfl (fun K hK => ?_) ?_
                · go_simp
                  refine hK _ _ ?_
                  clear hK K
                  refine wpAny_ready (rs := [6]) (by kernel_rfl) (by simp) ?_
                  refine AllReady.cons rfl (fun K hK => ?_) ?_
                  · go_simp
                    refine hK _ _ ?_
                    clear hK K
                    refine wpAny_done (by kernel_rfl) (NoPanic.normal ?_) _
                    go_wp2_with fail
                    go_meet
                    case rel => exact ⟨_, rfl, ReadW.fin2 HG.out hC6.out HMx.out Hhat.out HFs.out⟩
                  exact AllReady.nil
                exact AllReady.nil
              exact AllReady.nil
            refine AllReady.cons rfl (fun K hK => ?_) ?_
            · go_simp
              refine hK _ _ ?_
              clear hK K
              refine wpAny_ready (rs := [0]) (by kernel_rfl) (by simp) ?_
              refine AllReady.cons rfl (fun K hK => ?_) ?_
              · go_simp
                refine hK _ _ ?_
                clear hK K
                refine wpAny_take (i := 2) (v := .int .i64 (l.length : Int)) rfl (by kernel_rfl) (by kernel_rfl) (by kernel_rfl) (fun _ _ _ h => h) (Or.inl ⟨by rfl, fun w => by go_simp⟩) ?_
                simp only [Act.put]
                refine wpAny_ready (rs := [4]) (by kernel_rfl) (by simp) ?_
                refine AllReady.cons rfl (fun K hK => ?_) AllReady.nil
                refine step_append_lies _ (by rfl) _ _ _ (by rfl) (w.heap.size + 3) 25 i0 _ 6 96 Tryz.underlying23 hi0 hz0 hz1 hz2 rfl (by omega) (.slice g l.length cap) l.length C (by rfl) (H6.row.1.alloc _) ⟨_, 0, none⟩ 1 1 zero6L (by rfl) (by rfl) (World.news_of_block (cs := #[.int .i64 0, .int .i64 0, .string ⟨#[]⟩, .slice none 0 0, .string ⟨#[]⟩, .slice none 0 0]) (t := 25) (fr := (0, 0)) (heap_alloc_new w6 _)) hone (by omega) h63 hbyt (by have := H6.size; simp; omega) _ rfl ?_
                intro gg cap6 w7 hown7 hgrow hat hlt7
                refine hK _ _ ?_
                have HG : Hid _ := ReadW.grow (H6.below ((Below.refl _ _).alloc (Nat.le_refl _) _)) hown7 hgrow (lies_at hat)
                obtain ⟨⟨k0, k1, k2, k3, k4, k5⟩, f0, f1, f2, f3, f4, f5⟩ := row_tail hown7 hC6.out
                obtain ⟨⟨l0, l1, l2, l3, l4, l5⟩, _⟩ := row_tail (owns_setC (i := 0) (u := .slice (some ⟨gg, 0, none⟩) (l.length + 1) cap6) hown7 (show w.heap.size < w.heap.size + 3 by omega)) hC6.out
                have ng : w.heap.size ≠ gg := (by have hh : w.heap.size + 3 ≤ gg := (own_since hown7 rfl).1; omega)
                have k6 := HG.out.c
                have z6 := HG.out.z
                have k7 := set6_cell (o := l.length * 6) (a0 := .int .i64 kd) (a1 := .int .i64 sq) (a2 := .string nm) (a3 := .slice xa xn xc) (a4 := .string tx) (a5 := .slice ka kn kc) k6 ng
                have HMx : Hid (MadeX w7 (w.heap.size + 3) (s.size + 1) x (.agg #[.int .i64 kd, .int .i64 sq, .string nm, .slice xa xn xc, .string tx, .slice ka kn kc]) wr.drew.heap.size w6.heap.size) := MadeX.grown (M6.keep (by simp) (fun b _ h2 => (Below.heap_alloc w6 (.cells #[.int .i64 0, .int .i64 0, .string ⟨#[]⟩, .slice none 0 0, .string ⟨#[]⟩, .slice none 0 0] 25) b h2))) hgrow (fun b hb => by have := hblk.out.1 b hb; simp; omega)
                have Hhat : Hid (gg < wr.drew.heap.size ∨ w6.heap.size ≤ gg) := by
                  rcases hat with h | h
                  · left
                    have := hblk.out.1 gg h
                    simp
                    omega
                  · right
                    rw [h]
                    simp
                have HFs : Hid (∀ i, i < l.length → ∀ b, Fs i b → b < wr.drew.heap.size) := fun i hi b hb => by
                  have := hblk.out.2 i hi b hb
                  simp
                  omega
                clear hK K hown7 hgrow hat hlt7 H6 M6 F6 c6 c6a y0 y1 W0 B1 hone h63 hbyt n0 hi0 hz0 hz1 hz2 hmf ng
                refine wpAny_take (i := 5) (v := .pointer (some ⟨gg, l.length * 6, none⟩)) rfl (by kernel_rfl) (by kernel_rfl) (by kernel_rfl) (fun _ _ _ h => h) (Or.inl ⟨by rfl, fun w => by go_simp⟩) ?_
                simp only [Act.put]
                refine wpAny_ready (rs := [6, 7]) (by kernel_rfl) (by simp) ?_
                refine AllReady.cons rfl (fun K hK => ?_) ?_
                · go_simp
                  refine hK _ _ ?_
                  clear hK K
                  refine wpAny_ready (rs := [7]) (by kernel_rfl) (by simp) ?_
                  refine AllReady.cons rfl (fun K hK => ?_) ?_
                  · go_simp
                    refine hK _ _ ?_
                    clear hK K
                    refine wpAny_done (by kernel_rfl) (NoPanic.normal ?_) _
                    go_wp2_with fail
                    go_meet
                    case rel => exact ⟨_, rfl, ReadW.fin1 HG.out hC6.out HMx.out Hhat.out HFs.out⟩
                  exact AllReady.nil
                refine AllReady.cons rfl (fun K hK => ?_) ?_
                · go_simp
                  refine hK _ _ ?_
                  clear hK K
                  refine wpAny_ready (rs := [6]) (by kernel_rfl) (by simp) ?_
                  refine AllReady.cons rfl (fun K hK => ?_) ?_
                  · go_simp
                    refine hK _ _ ?_
                    clear hK K
                    refine wpAny_done (by kernel_rfl) (NoPanic.normal ?_) _
                    go_wp2_with fail
                    go_meet
                    case rel => exact ⟨_, rfl, ReadW.fin2 HG.out hC6.out HMx.out Hhat.out HFs.out⟩
                  exact AllReady.nil
                exact AllReady.nil
              exact AllReady.nil
            exact AllReady.nil
          refine AllReady.cons rfl (fun K hK => ?_) ?_
          · go_simp
            refine hK _ _ ?_
            clear hK K
            refine wpAny_ready (rs := [0, 1]) (by kernel_rfl) (by simp) ?_
            refine AllReady.cons rfl (fun K hK => ?_) ?_
            · go_simp
              refine hK _ _ ?_
              clear hK K
              refine wpAny_take (i := 2) (v := .int .i64 (l.length : Int)) rfl (by kernel_rfl) (by kernel_rfl) (by kernel_rfl) (fun _ _ _ h => h) (Or.inl ⟨by rfl, fun w => by go_simp⟩) ?_
              simp only [Act.put]
              refine wpAny_ready (rs := [1]) (by kernel_rfl) (by simp) ?_
              refine AllReady.cons rfl (fun K hK => ?_) ?_
              · go_simp
                refine (Hcall.out _ (W0.below (((Below.refl _ _).alloc (Nat.le_refl _) _).drew))).mono ?_
                rintro e w6 ⟨kd, sq, nm, tx, xa, xn, xc, ka, kn, kc, rfl, H6, M6, F6⟩
                have c6 := H6.c
                have c6a := cell_al (x := .cells #[.int .i64 0, .int .i64 0, .string ⟨#[]⟩, .slice none 0 0, .string ⟨#[]⟩, .slice none 0 0] 25) H6.c
                refine hK _ _ ?_
                clear hK K
                refine wpAny_ready (rs := [4]) (by kernel_rfl) (by simp) ?_
                refine AllReady.cons rfl (fun K hK => ?_) AllReady.nil
                refine step_append_lies _ (by rfl) _ _ _ (by rfl) (w.heap.size + 3) 25 i0 _ 6 96 Tryz.underlying23 hi0 hz0 hz1 hz2 rfl (by omega) (.slice g l.length cap) l.length C (by rfl) H6.row.1 ⟨_, 0, none⟩ 1 1 zero6L (by rfl) (by rfl) (news_kept F6 (by omega)) hone (by omega) h63 hbyt (by have := H6.size; omega) _ rfl ?_
                intro gg cap6 w7 hown7 hgrow hat hlt7
                refine hK _ _ ?_
                have HG : Hid _ := ReadW.grow H6 hown7 hgrow (lies_at hat)
                obtain ⟨⟨k0, k1, k2, k3, k4, k5⟩, f0, f1, f2, f3, f4, f5⟩ := row_tail hown7 hC6.out
                obtain ⟨⟨l0, l1, l2, l3, l4, l5⟩, _⟩ := row_tail (owns_setC (i := 0) (u := .slice (some ⟨gg, 0, none⟩) (l.length + 1) cap6) hown7 (show w.heap.size < w.heap.size + 3 by omega)) hC6.out
                have ng : w.heap.size ≠ gg := (by have hh : w.heap.size + 3 ≤ gg := (own_since hown7 rfl).1; omega)
                have k6 := HG.out.c
                have z6 := HG.out.z
                have k7 := set6_cell (o := l.length * 6) (a0 := .int .i64 kd) (a1 := .int .i64 sq) (a2 := .string nm) (a3 := .slice xa xn xc) (a4 := .string tx) (a5 := .slice ka kn kc) k6 ng
                have HMx : Hid (MadeX w7 (w.heap.size + 3) (s.size + 1) x (.agg #[.int .i64 kd, .int .i64 sq, .string nm, .slice xa xn xc, .string tx, .slice ka kn kc]) (wr.alloc (.cells #[.int .i64 0, .int .i64 0, .string ⟨#[]⟩, .slice none 0 0, .string ⟨#[]⟩, .slice none 0 0] 25)).drew.heap.size w6.heap.size) := MadeX.grown M6 hgrow (fun b hb => by have := hblk.out.1 b hb; simp; omega)
                have Hhat : Hid (gg < (wr.alloc (.cells #[.int .i64 0, .int .i64 0, .string ⟨#[]⟩, .slice none 0 0, .string ⟨#[]⟩, .slice none 0 0] 25)).drew.heap.size ∨ w6.heap.size ≤ gg) := by
                  rcases hat with h | h
                  · left
                    have := hblk.out.1 gg h
                    simp
                    omega
                  · right
                    rw [h]
                    simp
                have HFs : Hid (∀ i, i < l.length → ∀ b, Fs i b → b < (wr.alloc (.cells #[.int .i64 0, .int .i64 0, .string ⟨#[]⟩, .slice none 0 0, .string ⟨#[]⟩, .slice none 0 0] 25)).drew.heap.size) := fun i hi b hb => by
                  have := hblk.out.2 i hi b hb
                  simp
                  omega
                clear hK K hown7 hgrow hat hlt7 H6 M6 F6 c6 c6a y0 y1 W0 B1 hone h63 hbyt n0 hi0 hz0 hz1 hz2 hmf ng
                refine wpAny_take (i := 5) (v := .pointer (some ⟨gg, l.length * 6, none⟩)) rfl (by kernel_rfl) (by kernel_rfl) (by kernel_rfl) (fun _ _ _ h => h) (Or.inl ⟨by rfl, fun w => by go_simp⟩) ?_
                simp only [Act.put]
                refine wpAny_ready (rs := [6, 7]) (by kernel_rfl) (by simp) ?_
                refine AllReady.cons rfl (fun K hK => ?_) ?_
                · go_simp
                  refine hK _ _ ?_
                  clear hK K
                  refine wpAny_ready (rs := [7]) (by kernel_rfl) (by simp) ?_
                  refine AllReady.cons rfl (fun K hK => ?_) ?_
                  · go_simp
                    refine hK _ _ ?_
                    clear hK K
                    refine wpAny_done (by kernel_rfl) (NoPanic.normal ?_) _
                    go_wp2_with fail
                    go_meet
                    case rel => exact ⟨_, rfl, ReadW.fin1 HG.out hC6.out HMx.out Hhat.out HFs.out⟩
                  exact AllReady.nil
                refine AllReady.cons rfl (fun K hK => ?_) ?_
                · go_simp
                  refine hK _ _ ?_
                  clear hK K
                  refine wpAny_ready (rs := [6]) (by kernel_rfl) (by simp) ?_
                  refine AllReady.cons rfl (fun K hK => ?_) ?_
                  · go_simp
                    refine hK _ _ ?_
                    clear hK K
                    refine wpAny_done (by kernel_rfl) (NoPanic.normal ?_) _
                    go_wp2_with fail
                    go_meet
                    case rel => exact ⟨_, rfl, ReadW.fin2 HG.out hC6.out HMx.out Hhat.out HFs.out⟩
                  exact AllReady.nil
                exact AllReady.nil
              exact AllReady.nil
            refine AllReady.cons rfl (fun K hK => ?_) ?_
            · go_simp
              refine (Hcall.out _ (W0.below (((Below.refl _ _).alloc (Nat.le_refl _) _).drew))).mono ?_
              rintro e w6 ⟨kd, sq, nm, tx, xa, xn, xc, ka, kn, kc, rfl, H6, M6, F6⟩
              have c6 := H6.c
              have c6a := cell_al (x := .cells #[.int .i64 0, .int .i64 0, .string ⟨#[]⟩, .slice none 0 0, .string ⟨#[]⟩, .slice none 0 0] 25) H6.c
              refine hK _ _ ?_
              clear hK K
              refine wpAny_ready (rs := [0]) (by kernel_rfl) (by simp) ?_
              refine AllReady.cons rfl (fun K hK => ?_) ?_
              · go_simp
                refine hK _ _ ?_
                clear hK K
                refine wpAny_take (i := 2) (v := .int .i64 (l.length : Int)) rfl (by kernel_rfl) (by kernel_rfl) (by kernel_rfl) (fun _ _ _ h => h) (Or.inl ⟨by rfl, fun w => by go_simp⟩) ?_
                simp only [Act.put]
                refine wpAny_ready (rs := [4]) (by kernel_rfl) (by simp) ?_
                refine AllReady.cons rfl (fun K hK => ?_) AllReady.nil
                refine step_append_lies _ (by rfl) _ _ _ (by rfl) (w.heap.size + 3) 25 i0 _ 6 96 Tryz.underlying23 hi0 hz0 hz1 hz2 rfl (by omega) (.slice g l.length cap) l.length C (by rfl) H6.row.1 ⟨_, 0, none⟩ 1 1 zero6L (by rfl) (by rfl) (news_kept F6 (by omega)) hone (by omega) h63 hbyt (by have := H6.size; omega) _ rfl ?_
                intro gg cap6 w7 hown7 hgrow hat hlt7
                refine hK _ _ ?_
                have HG : Hid _ := ReadW.grow H6 hown7 hgrow (lies_at hat)
                obtain ⟨⟨k0, k1, k2, k3, k4, k5⟩, f0, f1, f2, f3, f4, f5⟩ := row_tail hown7 hC6.out
                obtain ⟨⟨l0, l1, l2, l3, l4, l5⟩, _⟩ := row_tail (owns_setC (i := 0) (u := .slice (some ⟨gg, 0, none⟩) (l.length + 1) cap6) hown7 (show w.heap.size < w.heap.size + 3 by omega)) hC6.out
                have ng : w.heap.size ≠ gg := (by have hh : w.heap.size + 3 ≤ gg := (own_since hown7 rfl).1; omega)
                have k6 := HG.out.c
                have z6 := HG.out.z
                have k7 := set6_cell (o := l.length * 6) (a0 := .int .i64 kd) (a1 := .int .i64 sq) (a2 := .string nm) (a3 := .slice xa xn xc) (a4 := .string tx) (a5 := .slice ka kn kc) k6 ng
                have HMx : Hid (MadeX w7 (w.heap.size + 3) (s.size + 1) x (.agg #[.int .i64 kd, .int .i64 sq, .string nm, .slice xa xn xc, .string tx, .slice ka kn kc]) (wr.alloc (.cells #[.int .i64 0, .int .i64 0, .string ⟨#[]⟩, .slice none 0 0, .string ⟨#[]⟩, .slice none 0 0] 25)).drew.heap.size w6.heap.size) := MadeX.grown M6 hgrow (fun b hb => by have := hblk.out.1 b hb; simp; omega)
                have Hhat : Hid (gg < (wr.alloc (.cells #[.int .i64 0, .int .i64 0, .string ⟨#[]⟩, .slice none 0 0, .string ⟨#[]⟩, .slice none 0 0] 25)).drew.heap.size ∨ w6.heap.size ≤ gg) := by
                  rcases hat with h | h
                  · left
                    have := hblk.out.1 gg h
                    simp
                    omega
                  · right
                    rw [h]
                    simp
                have HFs : Hid (∀ i, i < l.length → ∀ b, Fs i b → b < (wr.alloc (.cells #[.int .i64 0, .int .i64 0, .string ⟨#[]⟩, .slice none 0 0, .string ⟨#[]⟩, .slice none 0 0] 25)).drew.heap.size) := fun i hi b hb => by
                  have := hblk.out.2 i hi b hb
                  simp
                  omega
                clear hK K hown7 hgrow hat hlt7 H6 M6 F6 c6 c6a y0 y1 W0 B1 hone h63 hbyt n0 hi0 hz0 hz1 hz2 hmf ng
                refine wpAny_take (i := 5) (v := .pointer (some ⟨gg, l.length * 6, none⟩)) rfl (by kernel_rfl) (by kernel_rfl) (by kernel_rfl) (fun _ _ _ h => h) (Or.inl ⟨by rfl, fun w => by go_simp⟩) ?_
                simp only [Act.put]
                refine wpAny_ready (rs := [6, 7]) (by kernel_rfl) (by simp) ?_
                refine AllReady.cons rfl (fun K hK => ?_) ?_
                · go_simp
                  refine hK _ _ ?_
                  clear hK K
                  refine wpAny_ready (rs := [7]) (by kernel_rfl) (by simp) ?_
                  refine AllReady.cons rfl (fun K hK => ?_) ?_
                  · go_simp
                    refine hK _ _ ?_
                    clear hK K
                    refine wpAny_done (by kernel_rfl) (NoPanic.normal ?_) _
                    go_wp2_with fail
                    go_meet
                    case rel => exact ⟨_, rfl, ReadW.fin1 HG.out hC6.out HMx.out Hhat.out HFs.out⟩
                  exact AllReady.nil
                refine AllReady.cons rfl (fun K hK => ?_) ?_
                · go_simp
                  refine hK _ _ ?_
                  clear hK K
                  refine wpAny_ready (rs := [6]) (by kernel_rfl) (by simp) ?_
                  refine AllReady.cons rfl (fun K hK => ?_) ?_
                  · go_simp
                    refine hK _ _ ?_
                    clear hK K
                    refine wpAny_done (by kernel_rfl) (NoPanic.normal ?_) _
                    go_wp2_with fail
                    go_meet
                    case rel => exact ⟨_, rfl, ReadW.fin2 HG.out hC6.out HMx.out Hhat.out HFs.out⟩
                  exact AllReady.nil
                exact AllReady.nil
              exact AllReady.nil
            exact AllReady.nil
          exact AllReady.nil

        case rest =>
          obtain ⟨w9, rfl, v', C', Fs', HW9⟩ := hcut
          have HW9h : Hid (ReadW s (s.size + 1) w w9 m v' (l ++ [x]) v' C' Fs') := HW9
          clear Hcall HW9 y0 y1 W0 B1 hblk hC6 i1 i2 hone h63 hbyt n0 c1
          cases hnl : standsB s m nlS
          · have HN := want_no a (w.heap.size + 2) s nlS m w9 (HW9h.out.rq HXw.out) hm.2.1 hnl
            have hno : readR s = none := by
              have hn : R = none := by
                rw [← HR.out, hst]
                simp [hnl]
              rw [HP.out, hn]
            unfold nlS at HN
            go_wp2_with fail
            refine HN.mono ?_
            rintro e w10 ⟨rfl, F10⟩
            have HS : Hid (FaceR w w10 v') := HW9h.out.faceFr F10
            clear HN HW9h F10
            go_wp2_with fail
            exact rdLeaves rfl rfl HS.out hno
          · have hnl1 := stands_le hnl
            have u1 : nlS.size = 1 := rfl
            rw [u1] at hnl1
            have HY := want_yes a (w.heap.size + 2) s nlS m w9 (HW9h.out.rq HXw.out) hm.2.1 (by omega) (by rw [u1]; omega) hnl
            rw [u1] at HY
            unfold nlS at HY
            have HRn : Hid ((docQ s (fun q => elQ s (s.size + 1) 60 q (-1)) f' (m + 1)).map (fun r => (l ++ [x]) ++ r) = R) := by
              show _ = _
              rw [← HR.out, hst]
              simp [hnl]
              cases docQ s (fun q => elQ s (s.size + 1) 60 q (-1)) f' (m + 1) <;> simp
            have hl1 : (l ++ [x]).length = l.length + 1 := by simp
            go_wp2_with fail
            refine HY.mono ?_
            rintro e w10 ⟨rfl, R10, F10⟩
            have HW10 : Hid (ReadW s (s.size + 1) w w10 (m + 1) v' (l ++ [x]) v' C' Fs') := HW9h.out.fr F10 R10.1
            clear HY HW9h R10 F10
            go_wp2_with fail
            go_roundw
            case rel => exact ⟨l ++ [x], f', m + 1, v', C', Fs', by omega, by omega, by omega, by rw [hl1]; omega, HRn, HW10⟩
            case measure =>
              rw [rqLeft_at HW10.out.q, HM.out]
              omega
    · have g0 : decide ((j : Int) < (s.size : Int)) = false := decide_eq_false (by omega)
      have HRe : Hid (R = some l) := by
        show _ = _
        rw [← HR.out, docQ, if_pos hlt]
        simp
      have hsl := Hsize.out l HRe.out
      obtain ⟨ka, kc, ev, hk⟩ := OwnS.kids _ HQ.out.row.own
      subst ev
      have hXr := HXw.out.below HQ.out.b
      have HD := implDocOk l (w.heap.size + 3) ka kc wr hk.qa (els_small l (by omega)) (by have := elsN_le l; omega) ⟨hXr.1.1, hXr.2⟩
      have y0 := HQ.out.c
      clear Hsize HM HR hk hXr
      cases hd : docF 0 0 l
      · rw [hd] at HD
        have hno : readR s = none := by rw [HP.out, HRe.out]; simp [hd]
        go_wp2_with fail
        refine HD.mono ?_
        rintro e w6 ⟨rfl, b6⟩
        have HS : Hid (FaceR w w6 _) := (HQ.out.below b6).face
        have hE := (HXw.out.below HS.out.b).1.2
        clear HD HQ b6 y0 c1
        go_wp2_with fail
        refine (must_no a _ hE).mono ?_
        rintro e w7 ⟨rfl, rfl⟩
        go_wp2_with fail
        exact rdLeaves rfl rfl HS.out hno
      · rw [hd] at HD
        have hyes : readR s = some l := by rw [HP.out, HRe.out]; simp [hd]
        go_wp2_with fail
        refine HD.mono ?_
        rintro e w6 ⟨rfl, b6⟩
        have HW6 : Hid (ReadW s (s.size + 1) w w6 j _ l _ C Fs) := HQ.out.below b6
        clear HD HQ b6 y0 c1 HP HRe
        go_wp2_with fail
        refine (must_yes _).mono ?_
        rintro e w6 ⟨rfl, rfl⟩
        have y0 := HW6.out.c
        have z0 := HW6.out.z
        have y1 := HW6.out.c1
        have z1 := HW6.out.z1
        have HP6 := HW6.out.put (.slice ka l.length kc)
        have y2 := HP6.c1
        have t0 : ((w6.setCell ⟨w.heap.size, 0, none⟩ (.slice ka l.length kc)).setCell ⟨w.heap.size + 1, 0, none⟩ (.bool true)).cell? ⟨w.heap.size, 0, none⟩ = some (.slice ka l.length kc) := (World.cell?_setCell_other _ _ _ _ (fun e => absurd (congrArg Addr.block e) (by show w.heap.size + 1 ≠ w.heap.size; omega))).trans HP6.c
        have t1 : ((w6.setCell ⟨w.heap.size, 0, none⟩ (.slice ka l.length kc)).setCell ⟨w.heap.size + 1, 0, none⟩ (.bool true)).cell? ⟨w.heap.size + 1, 0, none⟩ = some (.bool true) := World.cell?_setCell_same _ _ _ HP6.c1
        have HR : Hid _ := read_yes hyes (HP6.b.setCell (Nat.le_succ _) (.bool true)) (show w.heap.size ≤ w.heap.size + 3 by omega) ((HP6.row.set (i := 0) (u := .bool true) (show w.heap.size + 1 < w.heap.size + 3 by omega)).own) (fun _ h => h.1)
        clear HW6 HP6
        go_wp2_with fail
        refine leaves_cons (f := 32) (args := #[.pointer (some ⟨w.heap.size, 0, none⟩), .pointer (some ⟨w.heap.size + 1, 0, none⟩)]) (by simp) (by simp [go_sem]) ?_
        refine (rdFace_returns w.heap.size (w.heap.size + 1) _).mono ?_
        rintro e u' w'' ⟨rfl, rfl, rfl⟩
        simp [Leaves, settle, results, Tryz.results12, go_sem, t0, t1]
        exact HR.out

end Go.Proofs.YthipdkagkdnaiaaGreatDoor.Sg
