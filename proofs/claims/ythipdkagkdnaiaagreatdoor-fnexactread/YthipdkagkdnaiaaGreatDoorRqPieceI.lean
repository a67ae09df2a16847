/- Contract of the program's piece. Written by mk_rqkid.py. -/
import Derived.Test.YthipdkagkdnaiaaGreatDoorRqSt
namespace Go.Proofs.YthipdkagkdnaiaaGreatDoor.Sg
open Go.ChangeShapes Go.WideShapes Go.ChangeAt Go.RowKit

set_option maxRecDepth 20000 in
set_option maxHeartbeats 4000000 in
theorem implPiece (a : Addr) (p : Nat) (s : ByteArray) (k n : Nat) (about deep : Int) (el : Nat → Option (ElB × Nat)) (w : World) (h : Rq a p s (k : Int) w) (hk : k < s.size) (hs : s.size ≤ 1048576)
    (hE : ∀ W, Rq a p s (k : Int) W → Calls Tryz.prog 22 #[.pointer (some ⟨p, 0, none⟩), .int .i64 about, .int .i64 deep] W (fun e w' => GotE a p s n (el k) W e w')) :
    Calls Tryz.prog 34 #[.pointer (some ⟨p, 0, none⟩), .int .i64 about, .int .i64 deep] w (fun e w' => GotE a p s n (pieceQ s el k) w e w') := by
  have HEl : Hid (∀ W, Rq a p s (k : Int) W → Calls Tryz.prog 22 #[.pointer (some ⟨p, 0, none⟩), .int .i64 about, .int .i64 deep] W (fun e w' => GotE a p s n (el k) W e w')) := hE
  obtain ⟨o, Ho⟩ : ∃ o, Hid (o = pieceQ s el k) := ⟨_, rfl⟩
  rw [← Ho.out]
  have hp := h.1.lt
  have hgp : w.heap.size ≠ p := by omega
  have hN : w.heap.size < w.heap.size + 1 := Nat.lt_succ_self _
  have bA := (Below.refl w.heap.size w).alloc (Nat.le_refl _) (.cells #[.int .i64 0, .int .i64 0, .string ⟨#[]⟩, .slice none 0 0, .string ⟨#[]⟩, .slice none 0 0] 25)
  have H0 : Hid (Rq a p s (k : Int) (w.alloc (.cells #[.int .i64 0, .int .i64 0, .string ⟨#[]⟩, .slice none 0 0, .string ⟨#[]⟩, .slice none 0 0] 25))) := h.keep bA
  have HF0 : Hid (Fr p w (w.alloc (.cells #[.int .i64 0, .int .i64 0, .string ⟨#[]⟩, .slice none 0 0, .string ⟨#[]⟩, .slice none 0 0] 25))) := Fr.of_below bA
  have HM0 : Hid (Many 6 (w.alloc (.cells #[.int .i64 0, .int .i64 0, .string ⟨#[]⟩, .slice none 0 0, .string ⟨#[]⟩, .slice none 0 0] 25)) w.heap.size (fun i => zero6L.getD i undef)) := Many.new w zero6L 25 undef
  have q1 : (k : Int) ≤ (s.size : Int) := by omega
  unfold GotE
  clear h hE bA
  go_enter Tryz.func34, Tryz.ntmps34
  go_upto_region 1 with fail
  generalize w.alloc (.cells #[.int .i64 0, .int .i64 0, .string ⟨#[]⟩, .slice none 0 0, .string ⟨#[]⟩, .slice none 0 0] 25) = w1 at *
  obtain ⟨c0, c1, z, hp1⟩ := H0.out.facts
  go_quiet (fail)
  have bn := drew_kd (Below.refl w1.heap.size w1) nq
  have H2 : Hid (Rq a p s (k : Int) (w1.drewN nq)) := H0.out.keep bn
  have HF2 : Hid (Fr p w (w1.drewN nq)) := HF0.out.trans (Fr.of_below bn)
  have HM2 : Hid (Many 6 (w1.drewN nq) w.heap.size (fun i => zero6L.getD i undef)) := HM0.out.below HM0.out.1 bn
  clear bn c0 c1 z hp1 H0 HF0 HM0
  generalize w1.drewN nq = w2 at *
  have HP1 := prefixAt s openNoteB k (Nat.le_of_lt hk) w2
  have HP2 := prefixAt s ltS k (Nat.le_of_lt hk) w2
  cases hb1 : standsB s k openNoteB
  · rw [hb1] at HP1
    cases hb2 : standsB s k ltS
    · rw [hb2] at HP2
      have Ho' : Hid (o = (strO (xtextR s [60] k)).map fun r => (.mk 2 0 ⟨#[]⟩ [] r.1 [], r.2)) := by
        show _ = _
        rw [Ho.out]
        unfold pieceQ
        rw [hb1, hb2, if_neg (by decide), if_neg (by decide)]
      clear Ho hb1 hb2
      have Ho := Ho'
      clear Ho'
      go_wp2_with fail
      refine HP1.mono ?_
      rintro e w3 ⟨rfl, rfl⟩
      clear HP1
      go_wp2_with fail
      refine HP2.mono ?_
      rintro e w4 ⟨rfl, rfl⟩
      clear HP2
      have HX := implText a p s k _ H2.out (Nat.le_of_lt hk) (by omega)
      clear H2
      go_wp2_with fail
      refine HX.mono ?_
      rintro e w3 ⟨hcase, F3⟩
      have HM : Hid (Many 6 w3 w.heap.size _) := HM2.out.fr F3 hgp
      have HF : Hid (Fr p w w3) := HF2.out.trans F3
      clear HX HM2 HF2 F3
      rcases hcase with ⟨t, j, ho, rfl, R3⟩ | ⟨ho, rfl⟩
      · have HQ : Hid (Rq a p s (j : Int) w3) := R3
        have HE : Hid (ElNew w3 (w.heap.size + 1) n (.mk 2 0 ⟨#[]⟩ [] t []) (.agg #[.int .i64 2, .int .i64 0, .string ⟨#[]⟩, .slice none 0 0, .string t, .slice none 0 0])) := ElNew.bare w3 (w.heap.size + 1) n 2 t
        have Hov : Hid (o = some (.mk 2 0 ⟨#[]⟩ [] t [], j)) := by
          show _ = _
          rw [Ho.out, ho]
          rfl
        clear R3 Ho ho
        have X := HM.out
        have r0 := (X.2 0 (by decide)).1
        have r1 := (X.2 1 (by decide)).1
        have r2 := (X.2 2 (by decide)).1
        have r3 := (X.2 3 (by decide)).1
        have r4 := (X.2 4 (by decide)).1
        have r5 := (X.2 5 (by decide)).1
        have s0 := (X.2 0 (by decide)).2
        have s1 := (X.2 1 (by decide)).2
        have s2 := (X.2 2 (by decide)).2
        have s3 := (X.2 3 (by decide)).2
        have s4 := (X.2 4 (by decide)).2
        have s5 := (X.2 5 (by decide)).2
        simp at r0 r1 r2 r3 r4 r5
        have HFIN : Hid _ := el_done hp HQ.out HF.out HM.out HE.out hN
        clear X HM HQ HF HE
        go_wp2_with fail
        refine bodyPost_ret (v := .agg #[.int .i64 2, .int .i64 0, .string ⟨#[]⟩, .slice none 0 0, .string t, .slice none 0 0]) ?_ rfl ⟨.inl ⟨_, _, _, Hov.out, rfl, HFIN.out.2.1, HFIN.out.2.2.1⟩, HFIN.out.2.2.2⟩
        have T := HFIN.out.1
        have t0 := (T.2 0 (by decide)).1
        have t1 := (T.2 1 (by decide)).1
        have t2 := (T.2 2 (by decide)).1
        have t3 := (T.2 3 (by decide)).1
        have t4 := (T.2 4 (by decide)).1
        have t5 := (T.2 5 (by decide)).1
        simp at t0 t1 t2 t3 t4 t5
        simp [results, Tryz.results34, go_sem, t0, t1, t2, t3, t4, t5]
      · have Hov : Hid (o = none) := by
          show _ = _
          rw [Ho.out, ho]
          rfl
        clear HM Ho ho
        go_wp2_with fail
        exact ⟨rfl, .inr ⟨Hov.out, rfl⟩, HF.out⟩
    · rw [hb2] at HP2
      have Ho' : Hid (o = el k) := by
        show _ = _
        rw [Ho.out]
        unfold pieceQ
        rw [hb1, hb2, if_neg (by decide), if_pos rfl]
      clear Ho hb1 hb2
      go_wp2_with fail
      refine HP1.mono ?_
      rintro e w3 ⟨rfl, rfl⟩
      clear HP1
      go_wp2_with fail
      refine HP2.mono ?_
      rintro e w4 ⟨rfl, rfl⟩
      clear HP2
      have HX := HEl.out _ H2.out
      have hlt := HM2.out.1
      unfold GotE at HX
      rw [← Ho'.out] at HX
      clear H2
      go_wp2_with fail
      refine HX.mono ?_
      rintro e w3 ⟨hcase, F3⟩
      have HM : Hid (Many 6 w3 w.heap.size _) := HM2.out.fr F3 hgp
      have HF : Hid (Fr p w w3) := HF2.out.trans F3
      clear HX HM2 HF2 F3
      rcases hcase with ⟨x, j, v, ho, rfl, E3, R3⟩ | ⟨ho, rfl⟩
      · obtain ⟨kd, sq, nm, ats, tx, ks⟩ := x
        obtain ⟨xa, xc, ka, kc, ev⟩ := E3.form
        subst ev
        have HQ : Hid (Rq a p s (j : Int) w3) := R3
        have HE : Hid (ElNew w3 _ n (.mk kd sq nm ats tx ks) (.agg #[.int .i64 kd, .int .i64 sq, .string nm, .slice xa ats.length xc, .string tx, .slice ka ks.length kc])) := E3
        have Hov : Hid (o = some (.mk kd sq nm ats tx ks, j)) := ho
        have hN := hlt
        clear R3 ho E3
        have X := HM.out
        have r0 := (X.2 0 (by decide)).1
        have r1 := (X.2 1 (by decide)).1
        have r2 := (X.2 2 (by decide)).1
        have r3 := (X.2 3 (by decide)).1
        have r4 := (X.2 4 (by decide)).1
        have r5 := (X.2 5 (by decide)).1
        have s0 := (X.2 0 (by decide)).2
        have s1 := (X.2 1 (by decide)).2
        have s2 := (X.2 2 (by decide)).2
        have s3 := (X.2 3 (by decide)).2
        have s4 := (X.2 4 (by decide)).2
        have s5 := (X.2 5 (by decide)).2
        simp at r0 r1 r2 r3 r4 r5
        have HFIN : Hid _ := el_done hp HQ.out HF.out HM.out HE.out hN
        clear X HM HQ HF HE
        go_wp2_with fail
        refine bodyPost_ret (v := .agg #[.int .i64 kd, .int .i64 sq, .string nm, .slice xa ats.length xc, .string tx, .slice ka ks.length kc]) ?_ rfl ⟨.inl ⟨_, _, _, Hov.out, rfl, HFIN.out.2.1, HFIN.out.2.2.1⟩, HFIN.out.2.2.2⟩
        have T := HFIN.out.1
        have t0 := (T.2 0 (by decide)).1
        have t1 := (T.2 1 (by decide)).1
        have t2 := (T.2 2 (by decide)).1
        have t3 := (T.2 3 (by decide)).1
        have t4 := (T.2 4 (by decide)).1
        have t5 := (T.2 5 (by decide)).1
        simp at t0 t1 t2 t3 t4 t5
        simp [results, Tryz.results34, go_sem, t0, t1, t2, t3, t4, t5]
      · have Hov : Hid (o = none) := ho
        clear HM ho
        go_wp2_with fail
        exact ⟨rfl, .inr ⟨Hov.out, rfl⟩, HF.out⟩
  · rw [hb1] at HP1
    have Ho' : Hid (o = (noteO s k).map fun r => (.mk 3 0 ⟨#[]⟩ [] r.1 [], r.2)) := by
      show _ = _
      rw [Ho.out]
      unfold pieceQ
      rw [hb1, if_pos rfl]
    clear Ho hb1 HP2
    have Ho := Ho'
    clear Ho'
    go_wp2_with fail
    refine HP1.mono ?_
    rintro e w3 ⟨rfl, rfl⟩
    clear HP1
    have HX := implNote a p s k _ H2.out (Nat.le_of_lt hk) (by omega)
    clear H2
    go_wp2_with fail
    refine HX.mono ?_
    rintro e w3 ⟨hcase, F3⟩
    have HM : Hid (Many 6 w3 w.heap.size _) := HM2.out.fr F3 hgp
    have HF : Hid (Fr p w w3) := HF2.out.trans F3
    clear HX HM2 HF2 F3
    rcases hcase with ⟨t, j, ho, rfl, R3⟩ | ⟨ho, rfl⟩
    · have HQ : Hid (Rq a p s (j : Int) w3) := R3
      have HE : Hid (ElNew w3 (w.heap.size + 1) n (.mk 3 0 ⟨#[]⟩ [] t []) (.agg #[.int .i64 3, .int .i64 0, .string ⟨#[]⟩, .slice none 0 0, .string t, .slice none 0 0])) := ElNew.bare w3 (w.heap.size + 1) n 3 t
      have Hov : Hid (o = some (.mk 3 0 ⟨#[]⟩ [] t [], j)) := by
        show _ = _
        rw [Ho.out, ho]
        rfl
      clear R3 Ho ho
      have X := HM.out
      have r0 := (X.2 0 (by decide)).1
      have r1 := (X.2 1 (by decide)).1
      have r2 := (X.2 2 (by decide)).1
      have r3 := (X.2 3 (by decide)).1
      have r4 := (X.2 4 (by decide)).1
      have r5 := (X.2 5 (by decide)).1
      have s0 := (X.2 0 (by decide)).2
      have s1 := (X.2 1 (by decide)).2
      have s2 := (X.2 2 (by decide)).2
      have s3 := (X.2 3 (by decide)).2
      have s4 := (X.2 4 (by decide)).2
      have s5 := (X.2 5 (by decide)).2
      simp at r0 r1 r2 r3 r4 r5
      have HFIN : Hid _ := el_done hp HQ.out HF.out HM.out HE.out hN
      clear X HM HQ HF HE
      go_wp2_with fail
      refine bodyPost_ret (v := .agg #[.int .i64 3, .int .i64 0, .string ⟨#[]⟩, .slice none 0 0, .string t, .slice none 0 0]) ?_ rfl ⟨.inl ⟨_, _, _, Hov.out, rfl, HFIN.out.2.1, HFIN.out.2.2.1⟩, HFIN.out.2.2.2⟩
      have T := HFIN.out.1
      have t0 := (T.2 0 (by decide)).1
      have t1 := (T.2 1 (by decide)).1
      have t2 := (T.2 2 (by decide)).1
      have t3 := (T.2 3 (by decide)).1
      have t4 := (T.2 4 (by decide)).1
      have t5 := (T.2 5 (by decide)).1
      simp at t0 t1 t2 t3 t4 t5
      simp [results, Tryz.results34, go_sem, t0, t1, t2, t3, t4, t5]
    · have Hov : Hid (o = none) := by
        show _ = _
        rw [Ho.out, ho]
        rfl
      clear HM Ho ho
      go_wp2_with fail
      exact ⟨rfl, .inr ⟨Hov.out, rfl⟩, HF.out⟩

end Go.Proofs.YthipdkagkdnaiaaGreatDoor.Sg
