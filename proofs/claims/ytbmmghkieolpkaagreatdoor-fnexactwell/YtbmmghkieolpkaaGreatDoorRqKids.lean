/- Contract of the program's kids. Written by mk_rqkid.py. -/
import Derived.Test.YtbmmghkieolpkaaGreatDoorRqPieceI
namespace Go.Proofs.YtbmmghkieolpkaaGreatDoor.Sg
open Go.ChangeShapes Go.WideShapes Go.ChangeAt Go.RowKit

theorem kid_moreQ {l : List ElB} {x : ElB} {o : Option (List ElB × Nat)} : (o.map fun q => (x :: q.1, q.2)).map (fun r => (l ++ r.1, r.2)) = o.map fun r => ((l ++ [x]) ++ r.1, r.2) := by
  cases o <;> simp
set_option maxRecDepth 20000 in
set_option maxHeartbeats 8000000 in
theorem implKids (a : Addr) (p : Nat) (s : ByteArray) (k n : Nat) (about deep : Int) (el : Nat → Option (ElB × Nat)) (w : World) (h : Rq a p s (k : Int) w) (hk : k ≤ s.size) (hs : s.size ≤ 1048576) (hsz : ElSz s el)
    (hE : ∀ j W, k ≤ j → j < s.size → Rq a p s (j : Int) W → Calls Tryz.prog 22 #[.pointer (some ⟨p, 0, none⟩), .int .i64 about, .int .i64 deep] W (fun e w' => GotE a p s n (el j) W e w')) :
    Calls Tryz.prog 47 #[.pointer (some ⟨p, 0, none⟩), .int .i64 about, .int .i64 deep] w (fun e w' => GotK a p s n k (kidsL s el (s.size + 1) k) w e w') := by
  obtain ⟨i0, hi0, hz0, hz1, hz2⟩ := info_parts info_el
  have Hi : Hid (Tryz.prog.info? 25 = some i0) := hi0
  have Hz0 : Hid (i0.zero = some (.agg #[.int .i64 0, .int .i64 0, .string ⟨#[]⟩, .slice none 0 0, .string ⟨#[]⟩, .slice none 0 0])) := hz0
  have Hz1 : Hid (i0.size = 6) := hz1
  have Hz2 : Hid (i0.bytes = 96) := hz2
  have HEl : Hid (∀ j W, k ≤ j → j < s.size → Rq a p s (j : Int) W → Calls Tryz.prog 22 #[.pointer (some ⟨p, 0, none⟩), .int .i64 about, .int .i64 deep] W (fun e w' => GotE a p s n (el j) W e w')) := hE
  obtain ⟨R, HR⟩ : ∃ R, Hid (kidsL s el (s.size + 1) k = R) := ⟨_, rfl⟩
  rw [HR.out]
  have HR1 : Hid ((kidsL s el (s.size + 1) k).map (fun r => ([] ++ r.1, r.2)) = R) := by
    show _ = _
    rw [← HR.out]
    cases kidsL s el (s.size + 1) k <;> simp
  have H0 : Hid (Rq a p s (k : Int) w) := h
  have hp := h.1.lt
  unfold GotK
  clear hi0 hz0 hz1 hz2 h HR hE
  go_enter Tryz.func47, Tryz.ntmps47
  go_wp2_with fail
  go_loopw [7] (fun ov wr => ∃ (l : List ElB) (f j : Nat) (C : List Value) (Fs : Nat → Foot), k ≤ j ∧ j ≤ s.size ∧ s.size + 1 ≤ f + j ∧ l.length ≤ j ∧ Hid ((kidsL s el f j).map (fun r => (l ++ r.1, r.2)) = R) ∧ Hid (Rq a p s (j : Int) wr) ∧ Hid (Fr p w wr) ∧ Hid (RowO wr w.heap.size n ov l C Fs)) (fun _ wr => rqLeft s p wr)
  case atStart => exact ⟨[], s.size + 1, k, [], _, Nat.le_refl _, hk, by omega, Nat.zero_le _, HR1, H0, Fr.refl _ _, RowO.nil _ _ _⟩
  case round =>
    obtain ⟨l, f, j, C, Fs, hkj, hj, hf, hl, HR, HQ, HF, HO⟩ := hrel
    obtain ⟨f', rfl⟩ : ∃ f', f = f' + 1 := ⟨f - 1, by omega⟩
    have HM : Hid (rqLeft s p _ = s.size + 2 - j) := rqLeft_at HQ.out.1
    have hst := kids_step s el f' j
    have HP := fun W => prefixAt s ltSlash j hj W
    clear HR1 H0
    obtain ⟨c0, c1, z, hp1⟩ := HQ.out.facts
    have q1 : (j : Int) ≤ (s.size : Int) := by omega
    by_cases hlt : j < s.size
    · have g0 : decide ((j : Int) < (s.size : Int)) = true := decide_eq_true (by omega)
      cases hb : standsB s j ltSlash
      · rw [hb] at HP
        rw [hb, if_neg (by decide), if_neg (by omega)] at hst
        go_upto_region 2 with fail
        go_quiet ((go_at_call 55; exact Calls.quiet_of_same (HP _)))
        have bn := drew_kd (Below.refl wr.heap.size wr) nq
        have HQ2 : Rq a p s (j : Int) (wr.drewN nq) := HQ.out.keep bn
        have HF2 : Fr p w (wr.drewN nq) := HF.out.trans (Fr.of_below bn)
        have HO2 : RowO (wr.drewN nq) w.heap.size n _ l C Fs := HO.out.below bn
        clear bn c0 c1 z hp1 HQ HF HO HP g0 hb
        generalize wr.drewN nq = w2 at *
        have hblk := HO2.blocks
        obtain ⟨g, cap, ev⟩ := HO2.form
        subst ev
        have HX := implPiece a p s j n about deep el w2 HQ2 hlt hs (fun W hW => HEl.out j W hkj hlt hW)
        unfold GotE at HX
        have HFh : Hid (Fr p w w2) := HF2
        have HOh : Hid (RowO w2 w.heap.size n _ l C Fs) := HO2
        have hws : w.heap.size ≤ w2.heap.size := HF2.size
        clear HF2 HO2 HQ2
        go_wp2_with fail
        refine HX.mono ?_
        rintro e w3 ⟨hcase, F3⟩
        have HF3 : Hid (Fr p w w3) := HFh.out.trans F3
        have HO3 : Hid (RowO w3 w.heap.size n (.slice g l.length cap) l C Fs) := HOh.out.fr F3 hp
        clear HX HFh HOh F3
        rcases hcase with ⟨x, m, v, ho, rfl, E3, R3⟩ | ⟨ho, rfl⟩
        · rw [ho] at hst
          have hm := piece_size hsz j x m hlt ho
          have HRn : Hid ((kidsL s el f' m).map (fun r => ((l ++ [x]) ++ r.1, r.2)) = R) := by
            show _ = _
            rw [← HR.out, hst]
            exact kid_moreQ.symm
          obtain ⟨kd, sq, nm, ats, tx, ks⟩ := x
          obtain ⟨xa, xc, ka, kc, ev⟩ := E3.form
          subst ev
          have bA := (Below.refl w3.heap.size w3).alloc (Nat.le_refl _) (.cells #[.int .i64 kd, .int .i64 sq, .string nm, .slice xa ats.length xc, .string tx, .slice ka ks.length kc] 25)
          have O4 := HO3.out.below bA
          have O4' := O4.1
          have H4 : Hid (RowO _ w.heap.size n (.slice g l.length cap) l C Fs ∧ ElNew _ w2.heap.size n (.mk kd sq nm ats tx ks) (.agg #[.int .i64 kd, .int .i64 sq, .string nm, .slice xa ats.length xc, .string tx, .slice ka ks.length kc]) ∧ Rq a p s (m : Int) _ ∧ Fr p w _) := ⟨O4, E3.below bA, R3.keep bA, HF3.out.trans (Fr.of_below bA)⟩
          have hc5 := (HF3.out.trans (Fr.of_below bA)).size
          have hl1 : (l ++ [ElB.mk kd sq nm ats tx ks]).length = l.length + 1 := by simp
          clear HR hst ho R3 E3 bA HF3 HO3 O4
          go_wp2_with (at_builtin; refine wpList_append_at _ rfl (.tmp 31) (.tmp 36) 23 rfl w.heap.size 25 i0 (.agg #[.int .i64 0, .int .i64 0, .string ⟨#[]⟩, .slice none 0 0, .string ⟨#[]⟩, .slice none 0 0]) 6 96 Tryz.underlying23 Hi.out Hz0.out Hz1.out Hz2.out rfl (by decide) _ l.length C rfl O4' ⟨_, 0, none⟩ 1 1 [.int .i64 kd, .int .i64 sq, .string nm, .slice xa ats.length xc, .string tx, .slice ka ks.length kc] rfl rfl (six_cells _ _ _ _ _ _ _ _ _ (by first | rfl | simp | simp [World.setCell])) (by intro u hu; simp only [List.mem_cons, List.not_mem_nil, or_false] at hu; rcases hu with rfl | rfl | rfl | rfl | rfl | rfl <;> rfl) ?x3 ?x4 ?x5 ?_)
          case x3 => unfold maxLen; omega
          case x4 => omega
          case x5 => exact hc5
          intro v' w5 ho5 hg5 hb5
          have HO5 : Hid (RowO w5 w.heap.size n v' (l ++ [ElB.mk kd sq nm ats tx ks]) _ _) := H4.out.1.more hblk.1 hblk.2 hws H4.out.2.1 ho5 hg5 (fun b hb => (hb5 b hb).imp (fun h => h) (fun h => by first | exact h | (simp; omega) | (simp [World.setCell]; omega)))
          have HF5 : Hid (Fr p w w5) := H4.out.2.2.2.grown O4' hg5
          have HQ5 : Hid (Rq a p s (m : Int) w5) := H4.out.2.2.1.grown O4' hg5 hp
          clear ho5 hg5 hb5 O4' H4 hblk hws hc5
          go_wp2_with fail
          go_roundw
          case rel => exact ⟨l ++ [ElB.mk kd sq nm ats tx ks], f', m, _, _, by omega, hm.2.1, by omega, by rw [hl1]; omega, HRn, HQ5, HF5, HO5⟩
          case measure =>
            rw [rqLeft_at HQ5.out.1, HM.out]
            omega
        · rw [ho] at hst
          have HRe : Hid (none = R) := by
            show _ = _
            rw [← HR.out, hst]
            rfl
          clear HR hst ho
          go_wp2_with fail
          exact ⟨rfl, .inr ⟨HRe.out.symm, rfl⟩, HF3.out⟩
      · rw [hb] at HP
        rw [hb, if_pos rfl] at hst
        have HRe : Hid (some (l, j) = R) := by
          show _ = _
          rw [← HR.out, hst]
          simp
        go_upto_region 2 with fail
        go_quiet ((go_at_call 55; exact Calls.quiet_of_same (HP _)))
        have bn := drew_kd (Below.refl wr.heap.size wr) nq
        have HQ2 : Hid (Rq a p s (j : Int) (wr.drewN nq)) := HQ.out.keep bn
        have HF2 : Hid (Fr p w (wr.drewN nq)) := HF.out.trans (Fr.of_below bn)
        have HO2 : Hid (RowO (wr.drewN nq) w.heap.size n _ l C Fs) := HO.out.below bn
        clear bn c0 c1 z hp1 HQ HF HO HP g0 hb HR hst HM
        generalize wr.drewN nq = w2 at *
        go_wp2_with fail
        go_ret
        exact ⟨.inl ⟨l, j, _, C, Fs, rfl, HO2.out, hkj, hj, HQ2.out, .inl HRe.out.symm⟩, HF2.out⟩
    · have g0 : decide ((j : Int) < (s.size : Int)) = false := decide_eq_false (by omega)
      have hb : standsB s j ltSlash = false := by
        cases e : standsB s j ltSlash
        · rfl
        · have := stands_le e
          have u : ltSlash.size = 2 := rfl
          omega
      rw [hb, if_neg (by decide), if_pos (by omega)] at hst
      have HRe : Hid (R = none) := by
        show _ = _
        rw [← HR.out, hst]
        rfl
      have ej : j = s.size := by omega
      go_upto_region 2 with fail
      go_quiet (fail)
      have bn := drew_kd (Below.refl wr.heap.size wr) nq
      have HQ2 : Hid (Rq a p s (j : Int) (wr.drewN nq)) := HQ.out.keep bn
      have HF2 : Hid (Fr p w (wr.drewN nq)) := HF.out.trans (Fr.of_below bn)
      have HO2 : Hid (RowO (wr.drewN nq) w.heap.size n _ l C Fs) := HO.out.below bn
      clear bn c0 c1 z hp1 HQ HF HO HP g0 hb HR hst HM
      generalize wr.drewN nq = w2 at *
      go_wp2_with fail
      go_ret
      exact ⟨.inl ⟨l, j, _, C, Fs, rfl, HO2.out, hkj, hj, HQ2.out, .inr ⟨HRe.out, ej⟩⟩, HF2.out⟩

end Go.Proofs.YtbmmghkieolpkaaGreatDoor.Sg
