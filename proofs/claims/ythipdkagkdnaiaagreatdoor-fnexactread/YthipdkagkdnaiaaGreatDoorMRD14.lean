/- Contract of the program's kids. Written by mk_rqkid.py. Contract of the program's tag. Written by mk_rqtag.py. The deferred functions of the program's ReadEl and Read: what a panic within leaves in the results. A row that was appended to by a nought, which is filled then; what Read holds in memory. Contracts of the program's isNoStrictAttr, and of slices.ContainsFunc with it over attributes. Contract of the program's elementOf: an element as what its kind says. Written by mk_emof.py. Contracts of the program's methods 'strict', and of their calls through the interface. Plain: rows of elements, one taken from behind, the kids of its elements put behind. Plain: elements are strict just where each row in them is so, none of them too deep. -/
import Derived.Test.YthipdkagkdnaiaaGreatDoorRqPieceI
import Derived.Defers
import Derived.Recover
import Derived.Laws.Pointers
import Derived.Test.YthipdkagkdnaiaaGreatDoorMRD10
import Derived.Test.YthipdkagkdnaiaaGreatDoorMRD12
import Derived.Test.YthipdkagkdnaiaaGreatDoorMRD15
import Derived.Test.YthipdkagkdnaiaaGreatDoorElSpec
namespace Go.Proofs.YthipdkagkdnaiaaGreatDoor.Sg
open Go.ChangeShapes Go.WideShapes Go.ChangeAt Go.RowKit

theorem kid_moreQ {l : List ElB} {x : ElB} {o : Option (List ElB × Nat)} : (o.map fun q => (x :: q.1, q.2)).map (fun r => (l ++ r.1, r.2)) = o.map fun r => ((l ++ [x]) ++ r.1, r.2) := by
  cases o <;> simp
set_option maxRecDepth 20000 in
set_option maxHeartbeats 8000000 in
theorem implKids (a : Addr) (p : Nat) (s : ByteArray) (k n : Nat) (about deep : Int) (el : Nat → Option (ElB × Nat)) (w : World) (h : Rq a p s (k : Int) w) (hk : k ≤ s.size) (hs : s.size ≤ 1048576) (hsz : ElSz s el)
    (hE : ∀ j W, k ≤ j → j < s.size → Rq a p s (j : Int) W → Calls Tryz.prog 22 #[.pointer (some ⟨p, 0, none⟩), .int .i64 about, .int .i64 deep] W (fun e w' => GotE a p s n (el j) W e w')) :
    Calls Tryz.prog 47 #[.pointer (some ⟨p, 0, none⟩), .int .i64 about, .int .i64 deep] w (fun e w' => GotK a p s n k (kidsL s el (s.size + 1) k) w e w') := by
  obtain ⟨i0, hi0, hz0, hz1, hz2⟩ := info_parts info_el
  have Hi : Hid (Tryz.prog.info? 25 = some i0) := hi0
  have Hz0 : Hid (i0.zero = some (.agg #[.int .i64 0, .int .i64 0, .string ⟨#[]⟩, .slice none 0 0, .string ⟨#[]⟩, .slice none 0 0])) := hz0
  have Hz1 : Hid (i0.size = 6) := hz1
  have Hz2 : Hid (i0.bytes = 96) := hz2
  have HEl : Hid (∀ j W, k ≤ j → j < s.size → Rq a p s (j : Int) W → Calls Tryz.prog 22 #[.pointer (some ⟨p, 0, none⟩), .int .i64 about, .int .i64 deep] W (fun e w' => GotE a p s n (el j) W e w')) := hE
  obtain ⟨R, HR⟩ : ∃ R, Hid (kidsL s el (s.size + 1) k = R) := ⟨_, rfl⟩
  rw [HR.out]
  have HR1 : Hid ((kidsL s el (s.size + 1) k).map (fun r => ([] ++ r.1, r.2)) = R) := by
    show _ = _
    rw [← HR.out]
    cases kidsL s el (s.size + 1) k <;> simp
  have H0 : Hid (Rq a p s (k : Int) w) := h
  have hp := h.1.lt
  unfold GotK
  clear hi0 hz0 hz1 hz2 h HR hE
  go_enter Tryz.func47, Tryz.ntmps47
  go_wp2_with fail
  go_loopw [7] (fun ov wr => ∃ (l : List ElB) (f j : Nat) (C : List Value) (Fs : Nat → Foot), k ≤ j ∧ j ≤ s.size ∧ s.size + 1 ≤ f + j ∧ l.length ≤ j ∧ Hid ((kidsL s el f j).map (fun r => (l ++ r.1, r.2)) = R) ∧ Hid (Rq a p s (j : Int) wr) ∧ Hid (Fr p w wr) ∧ Hid (RowO wr w.heap.size n ov l C Fs)) (fun _ wr => rqLeft s p wr)
  case atStart => exact ⟨[], s.size + 1, k, [], _, Nat.le_refl _, hk, by omega, Nat.zero_le _, HR1, H0, Fr.refl _ _, RowO.nil _ _ _⟩
  case round =>
    obtain ⟨l, f, j, C, Fs, hkj, hj, hf, hl, HR, HQ, HF, HO⟩ := hrel
    obtain ⟨f', rfl⟩ : ∃ f', f = f' + 1 := ⟨f - 1, by omega⟩
    have HM : Hid (rqLeft s p _ = s.size + 2 - j) := rqLeft_at HQ.out.1
    have hst := kids_step s el f' j
    have HP := fun W => prefixAt s ltSlash j hj W
    clear HR1 H0
    obtain ⟨c0, c1, z, hp1⟩ := HQ.out.facts
    have q1 : (j : Int) ≤ (s.size : Int) := by omega
    by_cases hlt : j < s.size
    · have g0 : decide ((j : Int) < (s.size : Int)) = true := decide_eq_true (by omega)
      cases hb : standsB s j ltSlash
      · rw [hb] at HP
        rw [hb, if_neg (by decide), if_neg (by omega)] at hst
        go_upto_region 2 with fail
        go_quiet ((go_at_call 55; exact Calls.quiet_of_same (HP _)))
        have bn := drew_kd (Below.refl wr.heap.size wr) nq
        have HQ2 : Rq a p s (j : Int) (wr.drewN nq) := HQ.out.keep bn
        have HF2 : Fr p w (wr.drewN nq) := HF.out.trans (Fr.of_below bn)
        have HO2 : RowO (wr.drewN nq) w.heap.size n _ l C Fs := HO.out.below bn
        clear bn c0 c1 z hp1 HQ HF HO HP g0 hb
        generalize wr.drewN nq = w2 at *
        have hblk := HO2.blocks
        obtain ⟨g, cap, ev⟩ := HO2.form
        subst ev
        have HX := implPiece a p s j n about deep el w2 HQ2 hlt hs (fun W hW => HEl.out j W hkj hlt hW)
        unfold GotE at HX
        have HFh : Hid (Fr p w w2) := HF2
        have HOh : Hid (RowO w2 w.heap.size n _ l C Fs) := HO2
        have hws : w.heap.size ≤ w2.heap.size := HF2.size
        clear HF2 HO2 HQ2
        go_wp2_with fail
        refine HX.mono ?_
        rintro e w3 ⟨hcase, F3⟩
        have HF3 : Hid (Fr p w w3) := HFh.out.trans F3
        have HO3 : Hid (RowO w3 w.heap.size n (.slice g l.length cap) l C Fs) := HOh.out.fr F3 hp
        clear HX HFh HOh F3
        rcases hcase with ⟨x, m, v, ho, rfl, E3, R3⟩ | ⟨ho, rfl⟩
        · rw [ho] at hst
          have hm := piece_size hsz j x m hlt ho
          have HRn : Hid ((kidsL s el f' m).map (fun r => ((l ++ [x]) ++ r.1, r.2)) = R) := by
            show _ = _
            rw [← HR.out, hst]
            exact kid_moreQ.symm
          obtain ⟨kd, sq, nm, ats, tx, ks⟩ := x
          obtain ⟨xa, xc, ka, kc, ev⟩ := E3.form
          subst ev
          have bA := (Below.refl w3.heap.size w3).alloc (Nat.le_refl _) (.cells #[.int .i64 kd, .int .i64 sq, .string nm, .slice xa ats.length xc, .string tx, .slice ka ks.length kc] 25)
          have O4 := HO3.out.below bA
          have O4' := O4.1
          have H4 : Hid (RowO _ w.heap.size n (.slice g l.length cap) l C Fs ∧ ElNew _ w2.heap.size n (.mk kd sq nm ats tx ks) (.agg #[.int .i64 kd, .int .i64 sq, .string nm, .slice xa ats.length xc, .string tx, .slice ka ks.length kc]) ∧ Rq a p s (m : Int) _ ∧ Fr p w _) := ⟨O4, E3.below bA, R3.keep bA, HF3.out.trans (Fr.of_below bA)⟩
          have hc5 := (HF3.out.trans (Fr.of_below bA)).size
          have hl1 : (l ++ [ElB.mk kd sq nm ats tx ks]).length = l.length + 1 := by simp
          clear HR hst ho R3 E3 bA HF3 HO3 O4
          go_wp2_with (at_builtin; refine wpList_append_at _ rfl (.tmp 31) (.tmp 36) 23 rfl w.heap.size 25 i0 (.agg #[.int .i64 0, .int .i64 0, .string ⟨#[]⟩, .slice none 0 0, .string ⟨#[]⟩, .slice none 0 0]) 6 96 Tryz.underlying23 Hi.out Hz0.out Hz1.out Hz2.out rfl (by decide) _ l.length C rfl O4' ⟨_, 0, none⟩ 1 1 [.int .i64 kd, .int .i64 sq, .string nm, .slice xa ats.length xc, .string tx, .slice ka ks.length kc] rfl rfl (six_cells _ _ _ _ _ _ _ _ _ (by first | rfl | simp | simp [World.setCell])) (by intro u hu; simp only [List.mem_cons, List.not_mem_nil, or_false] at hu; rcases hu with rfl | rfl | rfl | rfl | rfl | rfl <;> rfl) ?x3 ?x4 ?x5 ?_)
          case x3 => unfold maxLen; omega
          case x4 => omega
          case x5 => exact hc5
          intro v' w5 ho5 hg5 hb5
          have HO5 : Hid (RowO w5 w.heap.size n v' (l ++ [ElB.mk kd sq nm ats tx ks]) _ _) := H4.out.1.more hblk.1 hblk.2 hws H4.out.2.1 ho5 hg5 (fun b hb => (hb5 b hb).imp (fun h => h) (fun h => by first | exact h | (simp; omega) | (simp [World.setCell]; omega)))
          have HF5 : Hid (Fr p w w5) := H4.out.2.2.2.grown O4' hg5
          have HQ5 : Hid (Rq a p s (m : Int) w5) := H4.out.2.2.1.grown O4' hg5 hp
          clear ho5 hg5 hb5 O4' H4 hblk hws hc5
          go_wp2_with fail
          go_roundw
          case rel => exact ⟨l ++ [ElB.mk kd sq nm ats tx ks], f', m, _, _, by omega, hm.2.1, by omega, by rw [hl1]; omega, HRn, HQ5, HF5, HO5⟩
          case measure =>
            rw [rqLeft_at HQ5.out.1, HM.out]
            omega
        · rw [ho] at hst
          have HRe : Hid (none = R) := by
            show _ = _
            rw [← HR.out, hst]
            rfl
          clear HR hst ho
          go_wp2_with fail
          exact ⟨rfl, .inr ⟨HRe.out.symm, rfl⟩, HF3.out⟩
      · rw [hb] at HP
        rw [hb, if_pos rfl] at hst
        have HRe : Hid (some (l, j) = R) := by
          show _ = _
          rw [← HR.out, hst]
          simp
        go_upto_region 2 with fail
        go_quiet ((go_at_call 55; exact Calls.quiet_of_same (HP _)))
        have bn := drew_kd (Below.refl wr.heap.size wr) nq
        have HQ2 : Hid (Rq a p s (j : Int) (wr.drewN nq)) := HQ.out.keep bn
        have HF2 : Hid (Fr p w (wr.drewN nq)) := HF.out.trans (Fr.of_below bn)
        have HO2 : Hid (RowO (wr.drewN nq) w.heap.size n _ l C Fs) := HO.out.below bn
        clear bn c0 c1 z hp1 HQ HF HO HP g0 hb HR hst HM
        generalize wr.drewN nq = w2 at *
        go_wp2_with fail
        go_ret
        exact ⟨.inl ⟨l, j, _, C, Fs, rfl, HO2.out, hkj, hj, HQ2.out, .inl HRe.out.symm⟩, HF2.out⟩
    · have g0 : decide ((j : Int) < (s.size : Int)) = false := decide_eq_false (by omega)
      have hb : standsB s j ltSlash = false := by
        cases e : standsB s j ltSlash
        · rfl
        · have := stands_le e
          have u : ltSlash.size = 2 := rfl
          omega
      rw [hb, if_neg (by decide), if_pos (by omega)] at hst
      have HRe : Hid (R = none) := by
        show _ = _
        rw [← HR.out, hst]
        rfl
      have ej : j = s.size := by omega
      go_upto_region 2 with fail
      go_quiet (fail)
      have bn := drew_kd (Below.refl wr.heap.size wr) nq
      have HQ2 : Hid (Rq a p s (j : Int) (wr.drewN nq)) := HQ.out.keep bn
      have HF2 : Hid (Fr p w (wr.drewN nq)) := HF.out.trans (Fr.of_below bn)
      have HO2 : Hid (RowO (wr.drewN nq) w.heap.size n _ l C Fs) := HO.out.below bn
      clear bn c0 c1 z hp1 HQ HF HO HP g0 hb HR hst HM
      generalize wr.drewN nq = w2 at *
      go_wp2_with fail
      go_ret
      exact ⟨.inl ⟨l, j, _, C, Fs, rfl, HO2.out, hkj, hj, HQ2.out, .inr ⟨HRe.out, ej⟩⟩, HF2.out⟩

end Go.Proofs.YthipdkagkdnaiaaGreatDoor.Sg

namespace Go.Proofs.YthipdkagkdnaiaaGreatDoor.Sg
open Go.ChangeShapes Go.WideShapes Go.ChangeAt Go.RowKit

set_option maxRecDepth 20000 in
set_option maxHeartbeats 16000000 in
theorem implTagS (a : Addr) (p : Nat) (s : ByteArray) (m d k : Nat) (about deep : Int) (w : World) (hdeep : deep + (d : Int) = 61) (hd : d ≤ 60) (hk : k ≤ s.size) (hm : s.size < m + 1 + k) (hs : s.size ≤ 1048576) (h : Rq a p s (k : Int) w)
    (IH : ∀ (d' k' : Nat) (ab' dp' : Int) (W : World), dp' + (d' : Int) = 61 → d' ≤ 60 → k' ≤ s.size → s.size < m + k' → Rq a p s (k' : Int) W → Calls Tryz.prog 22 #[.pointer (some ⟨p, 0, none⟩), .int .i64 ab', .int .i64 dp'] W (fun e w' => GotE a p s m (elQ s m d' k' ab') W e w')) :
    Calls Tryz.prog 22 #[.pointer (some ⟨p, 0, none⟩), .int .i64 about, .int .i64 deep] w (fun e w' => GotE a p s (m + 1) (elQ s (m + 1) d k about) w e w') := by
  have HIH : Hid (∀ (d' k' : Nat) (ab' dp' : Int) (W : World), dp' + (d' : Int) = 61 → d' ≤ 60 → k' ≤ s.size → s.size < m + k' → Rq a p s (k' : Int) W → Calls Tryz.prog 22 #[.pointer (some ⟨p, 0, none⟩), .int .i64 ab', .int .i64 dp'] W (fun e w' => GotE a p s m (elQ s m d' k' ab') W e w')) := IH
  obtain ⟨o, Ho⟩ : ∃ o, Hid (o = elQ s (m + 1) d k about) := ⟨_, rfl⟩
  rw [← Ho.out]
  have hp := h.1.lt
  have bA := (Below.refl w.heap.size w).alloc (Nat.le_refl _) (.cells #[.int .i64 0, .int .i64 0, .string ⟨#[]⟩, .slice none 0 0, .string ⟨#[]⟩, .slice none 0 0] 25)
  have H0 : Hid (Rq a p s (k : Int) (w.alloc (.cells #[.int .i64 0, .int .i64 0, .string ⟨#[]⟩, .slice none 0 0, .string ⟨#[]⟩, .slice none 0 0] 25))) := h.keep bA
  have HF0 : Hid (Fr p w (w.alloc (.cells #[.int .i64 0, .int .i64 0, .string ⟨#[]⟩, .slice none 0 0, .string ⟨#[]⟩, .slice none 0 0] 25))) := Fr.of_below bA
  have HM0 : Hid (Many 6 (w.alloc (.cells #[.int .i64 0, .int .i64 0, .string ⟨#[]⟩, .slice none 0 0, .string ⟨#[]⟩, .slice none 0 0] 25)) w.heap.size (fun i => zero6L.getD i undef)) := Many.new w zero6L 25 undef
  unfold GotE
  clear h IH bA
  go_enter Tryz.func22, Tryz.ntmps22
  go_upto_region 1 with fail
  generalize w.alloc (.cells #[.int .i64 0, .int .i64 0, .string ⟨#[]⟩, .slice none 0 0, .string ⟨#[]⟩, .slice none 0 0] 25) = w1 at *
  by_cases hd0 : d = 0
  · have g0 : decide (deep ≤ 60) = false := decide_eq_false (by omega)
    have hE := H0.out.2.x.1.2
    have Hn : Hid (o = none) := by
      show _ = _
      rw [Ho.out]
      rw [elQ, if_pos (.inr hd0)]
    clear HM0 H0
    go_wp2_with fail
    refine (must_no a _ hE).mono ?_
    rintro e w2 ⟨rfl, rfl⟩
    go_wp2_with fail
    exact ⟨rfl, .inr ⟨Hn.out, rfl⟩, HF0.out⟩
  have g0 : decide (deep ≤ 60) = true := decide_eq_true (by omega)
  have q1 : IntKind.i64.wrap (deep + 1) = deep + 1 := IntWalk.i64_in _ (by omega)
  go_wp2_with fail
  refine (must_yes _).mono ?_
  rintro e w1' ⟨rfl, rfl⟩
  clear g0
  cases hb : standsB s k ltS
  · have HW := want_no a p s ltS k _ H0.out hk hb
    have Hn : Hid (o = none) := by
      show _ = _
      rw [Ho.out]
      rw [elQ, if_pos (.inl hb)]
    clear HM0 H0
    go_wp2_with fail
    refine HW.mono ?_
    rintro e w2 ⟨rfl, F2⟩
    have HF2 : Hid (Fr p w w2) := HF0.out.trans F2
    clear HW F2
    go_wp2_with fail
    exact ⟨rfl, .inr ⟨Hn.out, rfl⟩, HF2.out⟩
  have hk1 := stands_le hb
  have u1 : ltS.size = 1 := rfl
  rw [u1] at hk1
  have HW := want_yes a p s ltS k _ H0.out hk (by omega) (by rw [u1]; omega) hb
  rw [u1] at HW
  have Ho2 : Hid (o = if (xnS s ((k + 1 : Nat) : Int)).size = 0 then none else match attrsQ s about (xnI s ((k + 1 : Nat) : Int)).toNat with
      | none => none
      | some r =>
        if standsB s r.2.2 slashGt = true then some (.mk 1 r.2.1 (xnS s ((k + 1 : Nat) : Int)) r.1 ⟨#[]⟩ [], r.2.2 + 2)
        else if standsB s r.2.2 gtS = false then none
        else match kidsL s (fun q => elQ s m (d - 1) q r.2.1) (s.size + 1) (r.2.2 + 1) with
          | none => none
          | some k1 => if standsB s k1.2 (ltSlash ++ xnS s ((k + 1 : Nat) : Int) ++ gtS) = true then some (.mk 1 r.2.1 (xnS s ((k + 1 : Nat) : Int)) r.1 ⟨#[]⟩ k1.1, k1.2 + (ltSlash ++ xnS s ((k + 1 : Nat) : Int) ++ gtS).size) else none) := by
    have hno : ¬ (standsB s k ltS = false ∨ d = 0) := by
      rintro (h | h)
      · rw [hb] at h
        cases h
      · exact hd0 h
    show _ = _
    rw [Ho.out, elQ]
    exact if_neg hno
  clear Ho hb
  go_wp2_with fail
  refine HW.mono ?_
  rintro e w2 ⟨rfl, R2, F2⟩
  have HF2 : Hid (Fr p w w2) := HF0.out.trans F2
  have HM2 : Hid (Many 6 w2 w.heap.size _) := HM0.out.fr F2 (by omega)
  have HN := implName a p s (k + 1) w2 R2 (by omega)
  clear HW H0 HF0 HM0 R2 F2
  obtain ⟨j1, ej1, hj1, hj2, hj3⟩ := xnI_le (s := s) (k := k + 1) hk1
  have et : (xnI s ((k + 1 : Nat) : Int)).toNat = j1 := by omega
  rw [et] at Ho2
  rw [ej1] at HN
  clear ej1 et
  generalize xnS s ((k + 1 : Nat) : Int) = xn at *
  go_wp2_with fail
  refine HN.mono ?_
  rintro e w3 ⟨hcase, F3⟩
  have HF3 : Hid (Fr p w w3) := HF2.out.trans F3
  have HM3 : Hid (Many 6 w3 w.heap.size _) := HM2.out.fr F3 (by omega)
  clear HN HF2 HM2 F3
  rcases hcase with ⟨hn, rfl, R3⟩ | ⟨hn, rfl⟩
  case inr =>
    have Hn : Hid (o = none) := by
      show _ = _
      rw [Ho2.out, if_pos hn]
    clear HM3
    go_wp2_with fail
    exact ⟨rfl, .inr ⟨Hn.out, rfl⟩, HF3.out⟩
  have Ho3 : Hid (o = match attrsQ s about j1 with
      | none => none
      | some r =>
        if standsB s r.2.2 slashGt = true then some (.mk 1 r.2.1 xn r.1 ⟨#[]⟩ [], r.2.2 + 2)
        else if standsB s r.2.2 gtS = false then none
        else match kidsL s (fun q => elQ s m (d - 1) q r.2.1) (s.size + 1) (r.2.2 + 1) with
          | none => none
          | some k1 => if standsB s k1.2 (ltSlash ++ xn ++ gtS) = true then some (.mk 1 r.2.1 xn r.1 ⟨#[]⟩ k1.1, k1.2 + (ltSlash ++ xn ++ gtS).size) else none) := by
    show _ = _
    rw [Ho2.out, if_neg hn]
  have bB := (Below.refl w3.heap.size w3).alloc (Nat.le_refl _) (.cells #[.int .i64 1, .int .i64 0, .string xn, .slice none 0 0, .string ⟨#[]⟩, .slice none 0 0] 25)
  have HT4 : Hid (TagW a p s w (w3.alloc (.cells #[.int .i64 1, .int .i64 0, .string xn, .slice none 0 0, .string ⟨#[]⟩, .slice none 0 0] 25)) (j1 : Int) w3.heap.size [.int .i64 1, .int .i64 0, .string xn, .slice none 0 0, .string ⟨#[]⟩, .slice none 0 0]) := ⟨R3.keep bB, HF3.out.trans (Fr.of_below bB), HM3.out.below HM3.out.1 bB, Many.new w3 [.int .i64 1, .int .i64 0, .string xn, .slice none 0 0, .string ⟨#[]⟩, .slice none 0 0] 25 undef, HM3.out.1, hp⟩
  have hc4 : w3.heap.size + 1 ≤ (w3.alloc (.cells #[.int .i64 1, .int .i64 0, .string xn, .slice none 0 0, .string ⟨#[]⟩, .slice none 0 0] 25)).heap.size := by simp
  clear Ho2 R3 HF3 HM3 bB hn
  go_upto_region 4 with fail
  generalize (w3.alloc (.cells #[.int .i64 1, .int .i64 0, .string xn, .slice none 0 0, .string ⟨#[]⟩, .slice none 0 0] 25)) = w4 at *
  generalize w3.heap.size = c at *
  have HA := implAttrsR a p s j1 w4 HT4.out.q hj2 hs
  go_wp2_with fail
  refine HA.mono ?_
  rintro e w5 ⟨hcase, F5⟩
  clear HA
  rcases hcase with ⟨l, j, v, ha, rfl, hl, hjj, hj, O5, R5⟩ | ⟨ha, rfl⟩
  case inr =>
    have Hn : Hid (o = none) := by
      show _ = _
      rw [Ho3.out, attrsQ_eq, ha]
    have HF5 := HT4.out.f.trans F5
    have HFh : Hid (Fr p w w5) := HF5
    clear HT4 F5 HF5
    go_wp2_with fail
    exact ⟨rfl, .inr ⟨Hn.out, rfl⟩, HFh.out⟩
  have HT5 : Hid (TagW a p s w w5 (j : Int) c [.int .i64 1, .int .i64 0, .string xn, .slice none 0 0, .string ⟨#[]⟩, .slice none 0 0]) := HT4.out.fr F5 R5
  have hc5 : c + 1 ≤ w5.heap.size := Nat.le_trans hc4 F5.size
  have hE5 := R5.2.x.1.2
  obtain ⟨x, cx, ev, hat⟩ := attrs_of_own O5
  subst ev
  have HO5 : Hid (w5.ownsRow w4.heap.size 73 2 (.slice x l.length cx) l.length (attrCells l)) := O5
  have HS := implSpaceTold l about x cx a w5 hat (by omega) hE5
  have Ho4 : Hid (o = match (toldX about l).map fun sp => (besideA l, sp, j) with
      | none => none
      | some r =>
        if standsB s r.2.2 slashGt = true then some (.mk 1 r.2.1 xn r.1 ⟨#[]⟩ [], r.2.2 + 2)
        else if standsB s r.2.2 gtS = false then none
        else match kidsL s (fun q => elQ s m (d - 1) q r.2.1) (s.size + 1) (r.2.2 + 1) with
          | none => none
          | some k1 => if standsB s k1.2 (ltSlash ++ xn ++ gtS) = true then some (.mk 1 r.2.1 xn r.1 ⟨#[]⟩ k1.1, k1.2 + (ltSlash ++ xn ++ gtS).size) else none) := by
    show _ = _
    rw [Ho3.out, attrsQ_eq, ha]
  clear Ho3 HT4 F5 R5 O5 hat hE5 ha hc4
  go_wp2_with fail
  refine HS.mono ?_
  rintro e w6 ⟨hcase, b6⟩
  have HT6 : Hid (TagW a p s w w6 (j : Int) c [.int .i64 1, .int .i64 0, .string xn, .slice none 0 0, .string ⟨#[]⟩, .slice none 0 0]) := HT5.out.below b6
  have hc6 : c + 1 ≤ w6.heap.size := Nat.le_trans hc5 b6.size
  have HO6 : Hid (w6.ownsRow w4.heap.size 73 2 (.slice x l.length cx) l.length (attrCells l)) := owns_below HO5.out (Nat.le_refl _) b6
  clear HS HT5 HO5 b6 hc5
  rcases hcase with ⟨sp, hsp, rfl⟩ | ⟨hsp, rfl⟩
  case inr =>
    have Hn : Hid (o = none) := by
      show _ = _
      rw [Ho4.out, hsp]
      rfl
    have HFh : Hid (Fr p w w6) := HT6.out.f
    clear HT6
    go_wp2_with fail
    exact ⟨rfl, .inr ⟨Hn.out, rfl⟩, HFh.out⟩
  have Ho5 : Hid (o = if standsB s j slashGt = true then some (.mk 1 sp xn (besideA l) ⟨#[]⟩ [], j + 2)
        else if standsB s j gtS = false then none
        else match kidsL s (fun q => elQ s m (d - 1) q sp) (s.size + 1) (j + 1) with
          | none => none
          | some k1 => if standsB s k1.2 (ltSlash ++ xn ++ gtS) = true then some (.mk 1 sp xn (besideA l) ⟨#[]⟩ k1.1, k1.2 + (ltSlash ++ xn ++ gtS).size) else none) := by
    show _ = _
    rw [Ho4.out, hsp]
    rfl
  obtain ⟨x', cx', ev, hat⟩ := attrs_of_own HO6.out
  cases ev
  have HB := implBeside l x cx w6 hat (by omega)
  clear Ho4 hsp hat HO6
  go_wp2_with fail
  refine HB.mono ?_
  rintro e w7 ⟨v7, rfl, O7, b7⟩
  obtain ⟨xb, xc, ev, _⟩ := attrs_of_own O7
  subst ev
  have T7 := HT6.out.below b7
  have O7' := own_mono O7 hc6
  have y1 := (T7.m1.2 1 (by decide)).1
  have y3 := (T7.m1.2 3 (by decide)).1
  have z1 := (T7.m1.2 1 (by decide)).2
  have z3 := (T7.m1.2 3 (by decide)).2
  simp at y1 y3
  have HT8 : Hid (TagW a p s w ((w7.setCell ⟨c, 1, none⟩ (.int .i64 sp)).setCell ⟨c, 3, none⟩ (.slice xb (besideA l).length xc)) (j : Int) c [.int .i64 1, .int .i64 sp, .string xn, .slice xb (besideA l).length xc, .string ⟨#[]⟩, .slice none 0 0]) := (T7.put 1 (.int .i64 sp) (by simp)).put 3 (.slice xb (besideA l).length xc) (by simp)
  have HO8 : Hid (((w7.setCell ⟨c, 1, none⟩ (.int .i64 sp)).setCell ⟨c, 3, none⟩ (.slice xb (besideA l).length xc)).ownsRow (c + 1) 73 2 (.slice xb (besideA l).length xc) (besideA l).length (attrCells (besideA l))) := owns_setC (owns_setC O7' (Nat.lt_succ_self c)) (Nat.lt_succ_self c)
  clear HB HT6 hc6 T7 O7 O7' b7
  go_upto_region 6 with fail
  generalize (w7.setCell ⟨c, 1, none⟩ (.int .i64 sp)).setCell ⟨c, 3, none⟩ (.slice xb (besideA l).length xc) = w8 at *
  clear y1 y3 z1 z3
  cases hsl : standsB s j slashGt
  case true =>
    have h2 := stands_le hsl
    have u2 : slashGt.size = 2 := rfl
    have HK := takes_yes a p s slashGt j w8 HT8.out.q hj (by omega) (by rw [u2]; omega) hsl
    rw [u2] at HK
    have Hov : Hid (o = some (.mk 1 sp xn (besideA l) ⟨#[]⟩ [], j + 2)) := by
      show _ = _
      rw [Ho5.out, if_pos hsl]
    clear Ho5
    go_wp2_with fail
    refine HK.mono ?_
    rintro e w9 ⟨rfl, R9, F9⟩
    have HT : Hid (TagW a p s w w9 ((j + 2 : Nat) : Int) c [.int .i64 1, .int .i64 sp, .string xn, .slice xb (besideA l).length xc, .string ⟨#[]⟩, .slice none 0 0]) := HT8.out.fr F9 R9
    have HE : Hid (ElNew w9 (c + 1) (m + 1) (.mk 1 sp xn (besideA l) ⟨#[]⟩ []) (.agg #[.int .i64 1, .int .i64 sp, .string xn, .slice xb (besideA l).length xc, .string ⟨#[]⟩, .slice none 0 0])) := ElNew.bareTag (F9.owns (by have := HT.out.p; have := HT.out.lt; omega) HO8.out)
    clear HK HT8 HO8 R9 F9
    have X := HT.out.m0
    have Y := HT.out.m1
    have y0 := (Y.2 0 (by decide)).1
    have y1 := (Y.2 1 (by decide)).1
    have y2 := (Y.2 2 (by decide)).1
    have y3 := (Y.2 3 (by decide)).1
    have y4 := (Y.2 4 (by decide)).1
    have y5 := (Y.2 5 (by decide)).1
    have r0 := (X.2 0 (by decide)).1
    have r1 := (X.2 1 (by decide)).1
    have r2 := (X.2 2 (by decide)).1
    have r3 := (X.2 3 (by decide)).1
    have r4 := (X.2 4 (by decide)).1
    have r5 := (X.2 5 (by decide)).1
    have s0 := (X.2 0 (by decide)).2
    have s1 := (X.2 1 (by decide)).2
    have s2 := (X.2 2 (by decide)).2
    have s3 := (X.2 3 (by decide)).2
    have s4 := (X.2 4 (by decide)).2
    have s5 := (X.2 5 (by decide)).2
    simp at y0 y1 y2 y3 y4 y5 r0 r1 r2 r3 r4 r5
    have HFIN : Hid _ := el_done HT.out.p HT.out.q HT.out.f HT.out.m0 HE.out (Nat.lt_succ_of_lt HT.out.lt)
    clear X Y HT HE
    go_wp2_with fail
    refine bodyPost_ret (v := .agg #[.int .i64 1, .int .i64 sp, .string xn, .slice xb (besideA l).length xc, .string ⟨#[]⟩, .slice none 0 0]) ?_ rfl ⟨.inl ⟨_, _, _, Hov.out, rfl, HFIN.out.2.1, HFIN.out.2.2.1⟩, HFIN.out.2.2.2⟩
    have T := HFIN.out.1
    have t0 := (T.2 0 (by decide)).1
    have t1 := (T.2 1 (by decide)).1
    have t2 := (T.2 2 (by decide)).1
    have t3 := (T.2 3 (by decide)).1
    have t4 := (T.2 4 (by decide)).1
    have t5 := (T.2 5 (by decide)).1
    simp at t0 t1 t2 t3 t4 t5
    simp [results, Tryz.results22, go_sem, t0, t1, t2, t3, t4, t5]
  have HK := takes_no a p s slashGt j w8 HT8.out.q hj hsl
  have Ho6 : Hid (o = if standsB s j gtS = false then none
        else match kidsL s (fun q => elQ s m (d - 1) q sp) (s.size + 1) (j + 1) with
          | none => none
          | some k1 => if standsB s k1.2 (ltSlash ++ xn ++ gtS) = true then some (.mk 1 sp xn (besideA l) ⟨#[]⟩ k1.1, k1.2 + (ltSlash ++ xn ++ gtS).size) else none) := by
    show _ = _
    rw [Ho5.out, hsl, if_neg (by decide)]
  clear Ho5 hsl
  go_wp2_with fail
  refine HK.mono ?_
  rintro e w9 ⟨rfl, R9, F9⟩
  have HT9 : Hid (TagW a p s w w9 (j : Int) c [.int .i64 1, .int .i64 sp, .string xn, .slice xb (besideA l).length xc, .string ⟨#[]⟩, .slice none 0 0]) := HT8.out.fr F9 R9
  have HO9 : Hid (w9.ownsRow (c + 1) 73 2 (.slice xb (besideA l).length xc) (besideA l).length (attrCells (besideA l))) := F9.owns (by have := HT9.out.p; have := HT9.out.lt; omega) HO8.out
  clear HK HT8 HO8 R9 F9
  cases hgt : standsB s j gtS
  case false =>
    have HW := want_no a p s gtS j _ HT9.out.q hj hgt
    have Hn : Hid (o = none) := by
      show _ = _
      rw [Ho6.out, if_pos hgt]
    go_wp2_with fail
    refine HW.mono ?_
    rintro e w10 ⟨rfl, F10⟩
    have HFh : Hid (Fr p w w10) := HT9.out.f.trans F10
    clear HW HT9 F10
    go_wp2_with fail
    exact ⟨rfl, .inr ⟨Hn.out, rfl⟩, HFh.out⟩
  have hgj := stands_le hgt
  have u3 : gtS.size = 1 := rfl
  rw [u3] at hgj
  have HW := want_yes a p s gtS j _ HT9.out.q hj (by omega) (by rw [u3]; omega) hgt
  rw [u3] at HW
  obtain ⟨K, HKv⟩ : ∃ K, Hid (K = kidsL s (fun q => elQ s m (d - 1) q sp) (s.size + 1) (j + 1)) := ⟨_, rfl⟩
  have Ho7 : Hid (o = match (generalizing := false) K with
          | none => none
          | some k1 => if standsB s k1.2 (ltSlash ++ xn ++ gtS) = true then some (.mk 1 sp xn (besideA l) ⟨#[]⟩ k1.1, k1.2 + (ltSlash ++ xn ++ gtS).size) else none) := by
    show _ = _
    rw [Ho6.out, hgt, if_neg (by decide), HKv.out]
  clear Ho6 hgt
  go_wp2_with fail
  refine HW.mono ?_
  rintro e w10 ⟨rfl, R10, F10⟩
  have HT10 : Hid (TagW a p s w w10 ((j + 1 : Nat) : Int) c [.int .i64 1, .int .i64 sp, .string xn, .slice xb (besideA l).length xc, .string ⟨#[]⟩, .slice none 0 0]) := HT9.out.fr F10 R10
  have HO10 : Hid (w10.ownsRow (c + 1) 73 2 (.slice xb (besideA l).length xc) (besideA l).length (attrCells (besideA l))) := F10.owns (by have := HT10.out.p; have := HT10.out.lt; omega) HO9.out
  have hc10 : c + 1 ≤ w10.heap.size := HT10.out.m1.1
  have HK := implKids a p s (j + 1) m sp (deep + 1) (fun q => elQ s m (d - 1) q sp) w10 R10 hgj hs (elQ_size s m (d - 1) sp) (fun q W hq1 hq2 hW => HIH.out (d - 1) q sp (deep + 1) W (by omega) (by omega) (by omega) (by omega) hW)
  rw [← HKv.out] at HK
  have y1 := (HT10.out.m1.2 1 (by decide)).1
  simp at y1
  unfold GotK at HK
  clear HW HT9 HO9 R10 F10 HKv HIH
  go_wp2_with fail
  refine HK.mono ?_
  rintro e w11 ⟨hcase, F11⟩
  have hlav : ∀ b, (Value.slice xb (besideA l).length xc).ownBlock = some b → b < w10.heap.size := fun b hb => (own_since HO10.out hb).2
  clear HK y1
  rcases hcase with ⟨lk, j3, v, C, Fs, rfl, hrow, hj4, hj5, R11, hKK⟩ | ⟨hKn, rfl⟩
  case inr =>
    have Hn : Hid (o = none) := by
      show _ = _
      rw [Ho7.out, hKn]
    have HFh : Hid (Fr p w w11) := HT10.out.f.trans F11
    clear HT10 HO10 F11
    go_wp2_with fail
    exact ⟨rfl, .inr ⟨Hn.out, rfl⟩, HFh.out⟩
  obtain ⟨gk, ck, ev⟩ := hrow.form
  subst ev
  have T11 := HT10.out.fr F11 R11
  have O11 := F11.owns (by have := T11.p; have := T11.lt; omega) HO10.out
  have y5 := (T11.m1.2 5 (by decide)).1
  have z5 := (T11.m1.2 5 (by decide)).2
  simp at y5
  have HT12 : Hid (TagW a p s w (w11.setCell ⟨c, 5, none⟩ (.slice gk lk.length ck)) (j3 : Int) c [.int .i64 1, .int .i64 sp, .string xn, .slice xb (besideA l).length xc, .string ⟨#[]⟩, .slice gk lk.length ck]) := T11.put 5 (.slice gk lk.length ck) (by simp)
  have HE12 : Hid (ElNew (w11.setCell ⟨c, 5, none⟩ (.slice gk lk.length ck)) (c + 1) (m + 1) (.mk 1 sp xn (besideA l) ⟨#[]⟩ lk) (.agg #[.int .i64 1, .int .i64 sp, .string xn, .slice xb (besideA l).length xc, .string ⟨#[]⟩, .slice gk lk.length ck])) := ElNew.tag (owns_setC O11 (Nat.lt_succ_self c)) hlav hc10 (hrow.set (by omega))
  clear HT10 HO10 F11 R11 hrow T11 O11 hlav hc10
  go_upto_region 10 with fail
  generalize w11.setCell ⟨c, 5, none⟩ (.slice gk lk.length ck) = w12 at *
  clear y5 z5
  have y2 := (HT12.out.m1.2 2 (by decide)).1
  simp at y2
  have hxn : xn.size ≤ s.size := by omega
  have t1 : ¬ 9223372036854775807 < 2 + xn.size := by omega
  have t2 : ¬ 9223372036854775807 < 2 + xn.size + 1 := by omega
  have u4 : (ltSlash ++ xn ++ gtS).size = 2 + xn.size + 1 := by
    simp only [ByteArray.size_append]
    rfl
  cases hcl : standsB s j3 (ltSlash ++ xn ++ gtS)
  case false =>
    have HW := want_no a p s (ltSlash ++ xn ++ gtS) j3 _ HT12.out.q hj5 hcl
    have Hn : Hid (o = none) := by
      show _ = _
      rw [Ho7.out]
      rcases hKK with hK | ⟨hK, _⟩
      · rw [hK]
        simp only
        rw [hcl]
        rfl
      · rw [hK]
    unfold ltSlash gtS at HW
    have HFh : Hid (∀ X, Fr p w12 X → Fr p w X) := fun X hX => HT12.out.f.trans hX
    clear Ho7 hKK HE12 HT12
    go_wp2_with fail
    refine HW.mono ?_
    rintro e w13 ⟨rfl, F13⟩
    have HFg : Hid (Fr p w w13) := HFh.out _ F13
    clear HW F13
    go_wp2_with fail
    exact ⟨rfl, .inr ⟨Hn.out, rfl⟩, HFg.out⟩
  have HW := want_yes a p s (ltSlash ++ xn ++ gtS) j3 _ HT12.out.q hj5 (by omega) (by rw [u4]; omega) hcl
  have Hov : Hid (o = some (.mk 1 sp xn (besideA l) ⟨#[]⟩ lk, j3 + (ltSlash ++ xn ++ gtS).size)) := by
    show _ = _
    rw [Ho7.out]
    rcases hKK with hK | ⟨_, hK⟩
    · rw [hK]
      simp only
      rw [if_pos hcl]
    · have := stands_le hcl
      omega
  clear Ho7 hKK
  generalize hcz : j3 + (ltSlash ++ xn ++ gtS).size = j4 at *
  unfold ltSlash gtS at HW
  clear hcl u4 hcz
  go_wp2_with fail
  refine HW.mono ?_
  rintro e w13 ⟨rfl, R13, F13⟩
  have HT : Hid (TagW a p s w w13 (j4 : Int) c [.int .i64 1, .int .i64 sp, .string xn, .slice xb (besideA l).length xc, .string ⟨#[]⟩, .slice gk lk.length ck]) := HT12.out.fr F13 R13
  have HE : Hid (ElNew w13 (c + 1) (m + 1) (.mk 1 sp xn (besideA l) ⟨#[]⟩ lk) (.agg #[.int .i64 1, .int .i64 sp, .string xn, .slice xb (besideA l).length xc, .string ⟨#[]⟩, .slice gk lk.length ck])) := HE12.out.keep F13.size (fun b hb => F13.block b hb.2 (by have := HT.out.p; have := HT.out.lt; have := hb.1; omega))
  clear HW HT12 HE12 R13 F13 y2 t1 t2
  have X := HT.out.m0
  have Y := HT.out.m1
  have y0 := (Y.2 0 (by decide)).1
  have y1 := (Y.2 1 (by decide)).1
  have y2 := (Y.2 2 (by decide)).1
  have y3 := (Y.2 3 (by decide)).1
  have y4 := (Y.2 4 (by decide)).1
  have y5 := (Y.2 5 (by decide)).1
  have r0 := (X.2 0 (by decide)).1
  have r1 := (X.2 1 (by decide)).1
  have r2 := (X.2 2 (by decide)).1
  have r3 := (X.2 3 (by decide)).1
  have r4 := (X.2 4 (by decide)).1
  have r5 := (X.2 5 (by decide)).1
  have s0 := (X.2 0 (by decide)).2
  have s1 := (X.2 1 (by decide)).2
  have s2 := (X.2 2 (by decide)).2
  have s3 := (X.2 3 (by decide)).2
  have s4 := (X.2 4 (by decide)).2
  have s5 := (X.2 5 (by decide)).2
  simp at y0 y1 y2 y3 y4 y5 r0 r1 r2 r3 r4 r5
  have HFIN : Hid _ := el_done HT.out.p HT.out.q HT.out.f HT.out.m0 HE.out (Nat.lt_succ_of_lt HT.out.lt)
  clear X Y HT HE
  go_wp2_with fail
  refine bodyPost_ret (v := .agg #[.int .i64 1, .int .i64 sp, .string xn, .slice xb (besideA l).length xc, .string ⟨#[]⟩, .slice gk lk.length ck]) ?_ rfl ⟨.inl ⟨_, _, _, Hov.out, rfl, HFIN.out.2.1, HFIN.out.2.2.1⟩, HFIN.out.2.2.2⟩
  have T := HFIN.out.1
  have t0 := (T.2 0 (by decide)).1
  have t1 := (T.2 1 (by decide)).1
  have t2 := (T.2 2 (by decide)).1
  have t3 := (T.2 3 (by decide)).1
  have t4 := (T.2 4 (by decide)).1
  have t5 := (T.2 5 (by decide)).1
  simp at t0 t1 t2 t3 t4 t5
  simp [results, Tryz.results22, go_sem, t0, t1, t2, t3, t4, t5]

theorem implTag (a : Addr) (p : Nat) (s : ByteArray) (hs : s.size ≤ 1048576) : ∀ (m d k : Nat) (about deep : Int) (w : World), deep + (d : Int) = 61 → d ≤ 60 → k ≤ s.size → s.size < m + k → Rq a p s (k : Int) w →
    Calls Tryz.prog 22 #[.pointer (some ⟨p, 0, none⟩), .int .i64 about, .int .i64 deep] w (fun e w' => GotE a p s m (elQ s m d k about) w e w')
  | 0, d, k, about, deep, w, h1, h2, h3, h4, h => by omega
  | m + 1, d, k, about, deep, w, h1, h2, h3, h4, h => implTagS a p s m d k about deep w h1 h2 h3 h4 hs h (fun d' k' ab' dp' W g1 g2 g3 g4 g => implTag a p s hs m d' k' ab' dp' W g1 g2 g3 g4 g)

end Go.Proofs.YthipdkagkdnaiaaGreatDoor.Sg

namespace Go.Proofs.YthipdkagkdnaiaaGreatDoor.Sg
open Go.ChangeShapes Go.WideShapes Go.ChangeAt Go.RowKit

set_option maxHeartbeats 4000000 in
theorem rdFace_panics (b c : Nat) (v u : Value) (a : Addr) (older : List PanicEntry) (w : World) (h0 : w.cell? ⟨b, 0, none⟩ = some v) (g0 : w.frozen? ⟨b, 0, none⟩ = false) (h1 : w.cell? ⟨c, 0, none⟩ = some u) (g1 : w.frozen? ⟨c, 0, none⟩ = false) (hbc : b ≠ c) :
    CallsD Tryz.prog 32 #[.pointer (some ⟨b, 0, none⟩), .pointer (some ⟨c, 0, none⟩)] (.panicking ({ v := errV a, recovered := false } :: older)) w fun e u' w' =>
      e = .returned (.tuple #[]) ∧ u' = .panicking ({ v := errV a, recovered := true } :: older) ∧ w' = (w.setCell ⟨b, 0, none⟩ (.slice none 0 0)).setCell ⟨c, 0, none⟩ (.bool false) := by
  have e0 : (w.setCell ⟨b, 0, none⟩ (.slice none 0 0)).cell? ⟨c, 0, none⟩ = some u := (World.cell?_setCell_other _ _ _ _ (fun e => hbc (congrArg Addr.block e))).trans h1
  clear h1
  refine callsD_of_wpS Tryz.func32 rfl fun c₀ cs hu => ?_
  apply wpS_seq
  apply wpS_region
  simp [wpOpsS, go_sem, recoverD, hu, Tryz.ntmps32, Exit.thenS]
  refine wpS_of_wp ?_
  generalize hcs : (_ :: cs) = fs
  simp only [Array.replicate_succ, Array.replicate_zero, List.push_toArray, List.append_toArray, List.nil_append, List.cons_append, List.setIfInBounds_toArray, List.set_cons_zero, List.set_cons_succ]
  go_wp2
  subst hcs
  simp [bodyPostS, results, Tryz.results32]
theorem rdFace_returns (b c : Nat) (w : World) : CallsD Tryz.prog 32 #[.pointer (some ⟨b, 0, none⟩), .pointer (some ⟨c, 0, none⟩)] .returning w fun e u' w' => e = .returned (.tuple #[]) ∧ u' = .returning ∧ w' = w := by
  refine callsD_of_wpS Tryz.func32 rfl fun c₀ cs hu => ?_
  apply wpS_seq
  apply wpS_region
  simp [wpOpsS, go_sem, recoverD, hu, Tryz.ntmps32, Exit.thenS]
  refine wpS_of_wp ?_
  simp only [Array.replicate_succ, Array.replicate_zero, List.push_toArray, List.append_toArray, List.nil_append, List.cons_append, List.setIfInBounds_toArray, List.set_cons_zero, List.set_cons_succ]
  go_wp2
  cases c₀
  simp_all [bodyPostS, results, Tryz.results32]

end Go.Proofs.YthipdkagkdnaiaaGreatDoor.Sg

namespace Go.Proofs.YthipdkagkdnaiaaGreatDoor.Sg
open Go.ChangeShapes Go.WideShapes Go.ChangeAt Go.RowKit

theorem set_behind {α : Type} (C l : List α) (k j : Nat) (u : α) (hk : C.length = k) : (C ++ l).set (k + j) u = C ++ l.set j u := by
  rw [List.set_append_right _ _ (by omega)]
  congr 2
  omega
/-- The six cells of an element, written. -/
def set6 (W : World) (g o : Nat) (a0 a1 a2 a3 a4 a5 : Value) : World := (((((W.setCell ⟨g, o, none⟩ a0).setCell ⟨g, o + 1, none⟩ a1).setCell ⟨g, o + 2, none⟩ a2).setCell ⟨g, o + 3, none⟩ a3).setCell ⟨g, o + 4, none⟩ a4).setCell ⟨g, o + 5, none⟩ a5
theorem set6_block (W : World) (g o : Nat) (a0 a1 a2 a3 a4 a5 : Value) (b : Nat) (h : b ≠ g) : (set6 W g o a0 a1 a2 a3 a4 a5).heap[b]? = W.heap[b]? := by
  have o1 : ∀ (X : World) (j : Nat) (u : Value), (X.setCell ⟨g, j, none⟩ u).heap[b]? = X.heap[b]? := fun X j u => Below.heap_setCell _ _ _ _ (by show b ≠ g; exact h)
  unfold set6
  rw [o1, o1, o1, o1, o1, o1]
theorem set6_size (W : World) (g o : Nat) (a0 a1 a2 a3 a4 a5 : Value) : (set6 W g o a0 a1 a2 a3 a4 a5).heap.size = W.heap.size := by simp [set6]
theorem set6_below {B : Nat} {w W : World} (g o : Nat) (a0 a1 a2 a3 a4 a5 : Value) (h : Below B w W) (hg : B ≤ g) : Below B w (set6 W g o a0 a1 a2 a3 a4 a5) :=
  (((((h.setCell hg _).setCell hg _).setCell hg _).setCell hg _).setCell hg _).setCell hg _
theorem RowO.fill {W : World} {lo n g cap : Nat} {l : List ElB} {z x : ElB} {C : List Value} {Fs : Nat → Foot} {F : Foot} {z0 z1 z2 z3 z4 z5 a0 a1 a2 a3 a4 a5 : Value}
    (h : RowO W lo n (.slice (some ⟨g, 0, none⟩) (l.length + 1) cap) (l ++ [z]) (C ++ [z0, z1, z2, z3, z4, z5]) Fs) (hC : C.length = l.length * 6) (hx : ElOwn (OwnS W lo n) W lo x (.agg #[a0, a1, a2, a3, a4, a5]) F) (hF : ∀ b, F b → Since lo W b ∧ b ≠ g) (hFs : ∀ i, i < l.length → ∀ b, Fs i b → ¬ F b) :
    RowO (set6 W g (l.length * 6) a0 a1 a2 a3 a4 a5) lo n (.slice (some ⟨g, 0, none⟩) (l.length + 1) cap) (l ++ [x]) (C ++ [a0, a1, a2, a3, a4, a5]) (fun i => if i = l.length then F else Fs i) := by
  obtain ⟨h1, h2, h3, h4⟩ := h
  have hl1 : (l ++ [z]).length = l.length + 1 := by simp
  have hl2 : (l ++ [x]).length = l.length + 1 := by simp
  rw [hl1] at h1 h2 h3
  have kept : ∀ b, b ≠ g → (set6 W g (l.length * 6) a0 a1 a2 a3 a4 a5).heap[b]? = W.heap[b]? := fun b h => set6_block W g _ a0 a1 a2 a3 a4 a5 b h
  have hsz := set6_size W g (l.length * 6) a0 a1 a2 a3 a4 a5
  have e1 : ∀ (D : List Value) (j : Nat), j < C.length → (C ++ D).getD j undef = C.getD j undef := fun D j hj => getD_old hj
  have old : ∀ (D : List Value) (i : Nat), i < l.length → sixV (C ++ D) i = sixV C i := fun D i hi => by
    unfold sixV
    rw [e1 D _ (by omega), e1 D _ (by omega), e1 D _ (by omega), e1 D _ (by omega), e1 D _ (by omega), e1 D _ (by omega)]
  refine ⟨?_, ?_, ?_, ?_⟩
  · rw [hl2]
    have q := owns_set (owns_set (owns_set (owns_set (owns_set (owns_set h1 (l.length * 6) a0) (l.length * 6 + 1) a1) (l.length * 6 + 2) a2) (l.length * 6 + 3) a3) (l.length * 6 + 4) a4) (l.length * 6 + 5) a5
    have s0 := set_behind C [z0, z1, z2, z3, z4, z5] (l.length * 6) 0 a0 hC
    rw [Nat.add_zero] at s0
    rw [s0, set_behind C _ _ 1 a1 hC, set_behind C _ _ 2 a2 hC, set_behind C _ _ 3 a3 hC, set_behind C _ _ 4 a4 hC, set_behind C _ _ 5 a5 hC] at q
    exact q
  · intro i hi b hb
    rw [hl2] at hi
    by_cases hie : i = l.length
    · rw [if_pos hie] at hb
      have := hF b hb
      exact ⟨⟨this.1.1, by rw [hsz]; exact this.1.2⟩, fun e => this.2 (Option.some.inj e).symm⟩
    · rw [if_neg hie] at hb
      have := h2 i (by omega) b hb
      exact ⟨⟨this.1.1, by rw [hsz]; exact this.1.2⟩, this.2⟩
  · intro i j hi hj hij b hb hc
    rw [hl2] at hi hj
    by_cases hie : i = l.length
    · rw [if_pos hie] at hb
      rw [if_neg (by omega)] at hc
      exact hFs j (by omega) b hc hb
    · rw [if_neg hie] at hb
      by_cases hje : j = l.length
      · rw [if_pos hje] at hc
        exact hFs i (by omega) b hb hc
      · rw [if_neg hje] at hc
        exact h3 i j hi hj hij b hb hc
  · intro i hi
    by_cases hil : i < l.length
    · have eL : (l ++ [x])[i]'hi = l[i]'hil := List.getElem_append_left hil
      have h5 := h4 i (by rw [hl1]; omega)
      have eL' : (l ++ [z])[i]'(by rw [hl1]; omega) = l[i]'hil := List.getElem_append_left hil
      rw [old _ i hil, eL'] at h5
      rw [old _ i hil, eL]
      show ElOwn _ _ _ _ _ (if i = l.length then _ else _)
      rw [if_neg (by omega)]
      have hg : ∀ b, Fs i b → b ≠ g := fun b hb e => (h2 i (by omega) b hb).2 (by rw [e]; rfl)
      exact h5.stay (fun _ _ _ hS hO => OwnS.stay n hO (fun b hb1 _ => kept b (hg b (hS b hb1)))) (fun b hb _ => kept b (hg b hb))
    · have hie : i = l.length := by rw [hl2] at hi; omega
      subst hie
      have e2 : ∀ j, (C ++ [a0, a1, a2, a3, a4, a5]).getD (l.length * 6 + j) undef = [a0, a1, a2, a3, a4, a5].getD j undef := fun j => by rw [← hC]; exact getD_new
      have eS : sixV (C ++ [a0, a1, a2, a3, a4, a5]) l.length = .agg #[a0, a1, a2, a3, a4, a5] := by
        have e20 := e2 0
        rw [Nat.add_zero] at e20
        unfold sixV
        rw [e20, e2 1, e2 2, e2 3, e2 4, e2 5]
        rfl
      have eL : (l ++ [x])[l.length]'hi = x := by simp
      rw [eS, eL]
      show ElOwn _ _ _ _ _ (if l.length = l.length then _ else _)
      rw [if_pos rfl]
      exact hx.stay (fun _ _ _ hS hO => OwnS.stay n hO (fun b hb1 _ => kept b (hF b (hS b hb1)).2)) (fun b hb _ => kept b (hF b hb).2)

/-- What Read holds: its results' cells (u: in the first), its reader, and the row that it has read. -/
structure ReadW (s : ByteArray) (n : Nat) (w W : World) (j : Nat) (u : Value) (l : List ElB) (v : Value) (C : List Value) (Fs : Nat → Foot) : Prop where
  b : Below w.heap.size w W
  q : RqAt W (w.heap.size + 2) s (j : Int)
  c : W.cell? ⟨w.heap.size, 0, none⟩ = some u
  z : W.frozen? ⟨w.heap.size, 0, none⟩ = false
  c1 : W.cell? ⟨w.heap.size + 1, 0, none⟩ = some (.bool false)
  z1 : W.frozen? ⟨w.heap.size + 1, 0, none⟩ = false
  row : RowO W (w.heap.size + 3) n v l C Fs
theorem ReadW.fr {s : ByteArray} {n : Nat} {w W W' : World} {j j' : Nat} {u : Value} {l : List ElB} {v : Value} {C : List Value} {Fs : Nat → Foot} (h : ReadW s n w W j u l v C Fs) (hf : Fr (w.heap.size + 2) W W') (hq : RqAt W' (w.heap.size + 2) s (j' : Int)) : ReadW s n w W' j' u l v C Fs := by
  have e0 := hf.block w.heap.size (block_lt_of_cell h.c) (by omega)
  have e1 := hf.block (w.heap.size + 1) (block_lt_of_cell h.c1) (by omega)
  exact ⟨h.b.trans (hf.below (by omega) h.b.size), hq, (cell_agree e0).trans h.c, by rw [← h.z]; simp [World.frozen?, e0], (cell_agree e1).trans h.c1, by rw [← h.z1]; simp [World.frozen?, e1], h.row.fr hf (by omega)⟩
theorem ReadW.below {s : ByteArray} {n : Nat} {w W W' : World} {j : Nat} {u : Value} {l : List ElB} {v : Value} {C : List Value} {Fs : Nat → Foot} (h : ReadW s n w W j u l v C Fs) (hb : Below W.heap.size W W') : ReadW s n w W' j u l v C Fs :=
  h.fr (Fr.of_below hb) (h.q.keep hb)
theorem ReadW.size {s : ByteArray} {n : Nat} {w W : World} {j : Nat} {u : Value} {l : List ElB} {v : Value} {C : List Value} {Fs : Nat → Foot} (h : ReadW s n w W j u l v C Fs) : w.heap.size + 3 ≤ W.heap.size := h.q.lt
theorem ReadW.rq {s : ByteArray} {n : Nat} {w W : World} {j : Nat} {u : Value} {l : List ElB} {v : Value} {C : List Value} {Fs : Nat → Foot} {a : Addr} (h : ReadW s n w W j u l v C Fs) (hX : PcX a w) : Rq a (w.heap.size + 2) s (j : Int) W := ⟨h.q, w, hX, by omega, h.b⟩
abbrev zeroEl : ElB := .mk 0 0 ⟨#[]⟩ [] ⟨#[]⟩ []
/-- A nought is appended. -/
theorem ReadW.grow {s : ByteArray} {n : Nat} {w W W' : World} {j : Nat} {u : Value} {l : List ElB} {v : Value} {C : List Value} {Fs : Nat → Foot} {v' : Value} (h : ReadW s n w W j u l v C Fs) (ho : W'.ownsRow (w.heap.size + 3) 25 6 v' (l.length + 1) (C ++ zero6L)) (hg : W.grownBy W' v.ownBlock) (hat : ∀ b, v'.ownBlock = some b → v.ownBlock = some b ∨ W.heap.size ≤ b) :
    ReadW s n w W' j u (l ++ [zeroEl]) v' (C ++ zero6L) (fun i => if i = l.length then Since W.heap.size W else Fs i) := by
  have hv : ∀ b, b < w.heap.size + 3 → v.ownBlock ≠ some b := fun b hb e => by
    have := (own_since h.row.1 e).1
    omega
  have hs := h.size
  have e0 := hg.block w.heap.size (by omega) (Ne.symm (hv _ (by omega)))
  have e1 := hg.block (w.heap.size + 1) (by omega) (Ne.symm (hv _ (by omega)))
  have e2 := hg.block (w.heap.size + 2) (by omega) (Ne.symm (hv _ (by omega)))
  refine ⟨h.b.grown hg h.b.size (fun b hb => by have := (own_since h.row.1 hb).1; omega), e2.trans h.q, (cell_agree e0).trans h.c, by rw [← h.z]; simp [World.frozen?, e0], (cell_agree e1).trans h.c1, by rw [← h.z1]; simp [World.frozen?, e1], ?_⟩
  exact h.row.more h.row.blocks.1 h.row.blocks.2 hs (ElNew.bare W W.heap.size n 0 ⟨#[]⟩) ho hg hat
/-- The new value is held. -/
theorem ReadW.put {s : ByteArray} {n : Nat} {w W : World} {j : Nat} {u : Value} {l : List ElB} {v : Value} {C : List Value} {Fs : Nat → Foot} (h : ReadW s n w W j u l v C Fs) (x : Value) : ReadW s n w (W.setCell ⟨w.heap.size, 0, none⟩ x) j x l v C Fs :=
  ⟨h.b.setCell (Nat.le_refl _) _, (Below.heap_setCell _ _ _ _ (by show w.heap.size + 2 ≠ w.heap.size; omega)).trans h.q, World.cell?_setCell_same _ _ _ h.c, by simpa using h.z, (World.cell?_setCell_other _ _ _ _ (fun e => absurd (congrArg Addr.block e) (by show w.heap.size ≠ w.heap.size + 1; omega))).trans h.c1, by simpa using h.z1, h.row.set (by omega)⟩
/-- An element that was made in blocks from N on, ahead of M. -/
def MadeX (W : World) (lo n : Nat) (x : ElB) (v : Value) (N M : Nat) : Prop := ElOwn (OwnS W lo n) W lo x v (fun b => N ≤ b ∧ b < M) ∧ M ≤ W.heap.size ∧ lo ≤ N
theorem MadeX.of {W : World} {N n lo : Nat} {x : ElB} {v : Value} (h : ElNew W N n x v) (hN : lo ≤ N) : MadeX W lo n x v N W.heap.size :=
  ⟨ElOwn.low h hN (fun _ _ _ hS => OwnS.low hN n hS), Nat.le_refl _, hN⟩
theorem MadeX.keep {W W' : World} {lo n N M : Nat} {x : ElB} {v : Value} (h : MadeX W lo n x v N M) (hs : W.heap.size ≤ W'.heap.size) (hb : ∀ b, N ≤ b → b < M → W'.heap[b]? = W.heap[b]?) : MadeX W' lo n x v N M :=
  ⟨h.1.stay (fun _ _ _ hF hS => OwnS.stay n hS (fun b hb1 _ => hb b (hF b hb1).1 (hF b hb1).2)) (fun b hF _ => hb b hF.1 hF.2), Nat.le_trans h.2.1 hs, h.2.2⟩
theorem MadeX.grown {W W' : World} {lo n N M : Nat} {x : ElB} {v r : Value} (h : MadeX W lo n x v N M) (hg : W.grownBy W' r.ownBlock) (hr : ∀ b, r.ownBlock = some b → b < N) : MadeX W' lo n x v N M :=
  h.keep hg.size (fun b h1 h2 => hg.block b (by have := h.2.1; omega) (fun e => by have := hr b e.symm; omega))
/-- The nought is filled by what was made. -/
theorem ReadW.fill {s : ByteArray} {n g cap N M : Nat} {w W : World} {j : Nat} {u : Value} {l : List ElB} {x : ElB} {C : List Value} {Fs : Nat → Foot} {a0 a1 a2 a3 a4 a5 : Value}
    (h : ReadW s n w W j u (l ++ [zeroEl]) (.slice (some ⟨g, 0, none⟩) (l.length + 1) cap) (C ++ zero6L) Fs) (hC : C.length = l.length * 6) (hx : MadeX W (w.heap.size + 3) n x (.agg #[a0, a1, a2, a3, a4, a5]) N M) (hg : ¬ (N ≤ g ∧ g < M)) (hFs : ∀ i, i < l.length → ∀ b, Fs i b → ¬ (N ≤ b ∧ b < M)) :
    ReadW s n w (set6 W g (l.length * 6) a0 a1 a2 a3 a4 a5) j u (l ++ [x]) (.slice (some ⟨g, 0, none⟩) (l.length + 1) cap) (C ++ [a0, a1, a2, a3, a4, a5]) (fun i => if i = l.length then (fun b => N ≤ b ∧ b < M) else Fs i) := by
  have hrow := h.row.fill hC hx.1 (fun b hb => ⟨⟨Nat.le_trans hx.2.2 hb.1, Nat.lt_of_lt_of_le hb.2 hx.2.1⟩, fun e => hg (e ▸ hb)⟩) hFs
  have hgl : w.heap.size + 3 ≤ g := (own_since h.row.1 rfl).1
  have k : ∀ b, b < w.heap.size + 3 → (set6 W g (l.length * 6) a0 a1 a2 a3 a4 a5).heap[b]? = W.heap[b]? := fun b hb => set6_block W g _ a0 a1 a2 a3 a4 a5 b (by omega)
  have e0 := k w.heap.size (by omega)
  have e1 := k (w.heap.size + 1) (by omega)
  exact ⟨set6_below g _ a0 a1 a2 a3 a4 a5 h.b (by omega), (k (w.heap.size + 2) (by omega)).trans h.q, (cell_agree e0).trans h.c, by rw [← h.z]; simp [World.frozen?, e0], (cell_agree e1).trans h.c1, by rw [← h.z1]; simp [World.frozen?, e1], hrow⟩
/-- .. and the new row is held, before or behind. -/
theorem ReadW.fin1 {s : ByteArray} {n g cap N M : Nat} {w W : World} {j : Nat} {u : Value} {l : List ElB} {x : ElB} {C : List Value} {Fs : Nat → Foot} {F0 : Foot} {a0 a1 a2 a3 a4 a5 : Value} (h : ReadW s n w W j u (l ++ [zeroEl]) (.slice (some ⟨g, 0, none⟩) (l.length + 1) cap) (C ++ zero6L) (fun i => if i = l.length then F0 else Fs i)) (hC : C.length = l.length * 6) (hx : MadeX W (w.heap.size + 3) n x (.agg #[a0, a1, a2, a3, a4, a5]) N M) (hg : g < N ∨ M ≤ g) (hFs : ∀ i, i < l.length → ∀ b, Fs i b → b < N) :
    ∃ (v' : Value) (C' : List Value) (Fs' : Nat → Foot), ReadW s n w (((((((W.setCell ⟨g, l.length * 6, none⟩ a0).setCell ⟨g, l.length * 6 + 1, none⟩ a1).setCell ⟨g, l.length * 6 + 2, none⟩ a2).setCell ⟨g, l.length * 6 + 3, none⟩ a3).setCell ⟨g, l.length * 6 + 4, none⟩ a4).setCell ⟨g, l.length * 6 + 5, none⟩ a5).setCell ⟨w.heap.size, 0, none⟩ (.slice (some ⟨g, 0, none⟩) (l.length + 1) cap)) j v' (l ++ [x]) v' C' Fs' := by
  have h1 := h.fill hC hx (by omega) (fun i hi b hb => by
    rw [if_neg (by omega)] at hb
    have := hFs i hi b hb
    omega)
  exact ⟨_, _, _, h1.put (.slice (some ⟨g, 0, none⟩) (l.length + 1) cap)⟩
theorem ReadW.fin2 {s : ByteArray} {n g cap N M : Nat} {w W : World} {j : Nat} {u : Value} {l : List ElB} {x : ElB} {C : List Value} {Fs : Nat → Foot} {F0 : Foot} {a0 a1 a2 a3 a4 a5 : Value} (h : ReadW s n w W j u (l ++ [zeroEl]) (.slice (some ⟨g, 0, none⟩) (l.length + 1) cap) (C ++ zero6L) (fun i => if i = l.length then F0 else Fs i)) (hC : C.length = l.length * 6) (hx : MadeX W (w.heap.size + 3) n x (.agg #[a0, a1, a2, a3, a4, a5]) N M) (hg : g < N ∨ M ≤ g) (hFs : ∀ i, i < l.length → ∀ b, Fs i b → b < N) :
    ∃ (v' : Value) (C' : List Value) (Fs' : Nat → Foot), ReadW s n w (((((((W.setCell ⟨w.heap.size, 0, none⟩ (.slice (some ⟨g, 0, none⟩) (l.length + 1) cap)).setCell ⟨g, l.length * 6, none⟩ a0).setCell ⟨g, l.length * 6 + 1, none⟩ a1).setCell ⟨g, l.length * 6 + 2, none⟩ a2).setCell ⟨g, l.length * 6 + 3, none⟩ a3).setCell ⟨g, l.length * 6 + 4, none⟩ a4).setCell ⟨g, l.length * 6 + 5, none⟩ a5) j v' (l ++ [x]) v' C' Fs' := by
  have h0 := h.put (.slice (some ⟨g, 0, none⟩) (l.length + 1) cap)
  have hx0 : MadeX (W.setCell ⟨w.heap.size, 0, none⟩ (.slice (some ⟨g, 0, none⟩) (l.length + 1) cap)) (w.heap.size + 3) n x (.agg #[a0, a1, a2, a3, a4, a5]) N M :=
    hx.keep (by simp [World.setCell]) (fun b hb _ => Below.heap_setCell _ _ _ _ (by have := hx.2.2; show b ≠ w.heap.size; omega))
  have h1 := h0.fill hC hx0 (by omega) (fun i hi b hb => by
    rw [if_neg (by omega)] at hb
    have := hFs i hi b hb
    omega)
  exact ⟨_, _, _, h1⟩

end Go.Proofs.YthipdkagkdnaiaaGreatDoor.Sg

namespace Go.Proofs.YthipdkagkdnaiaaGreatDoor.Sg
open Go.ChangeShapes Go.WideShapes Go.ChangeAt Go.RowKit

set_option maxHeartbeats 2000000 in
theorem implNoStrictAttr (p1 p2 : ByteArray) (w : World) (h1 : p1.size ≤ 16777216) (h2 : p2.size ≤ 16777216) (hT : StLib w) :
    Calls Tryz.prog 201 #[.agg #[.string p1, .string p2]] w fun e w' => e = .returned (.bool (!attrOk (p1, p2))) ∧ Below w.heap.size w w' := by
  have hb0 : Below w.heap.size w (w.alloc (.cells #[.string p1, .string p2] 73)) := (Below.refl w.heap.size w).alloc (Nat.le_refl _) _
  have HN := implNameOk p1 _ (by omega) (hT.below hb0).1
  have HX : Hid (∀ W, StLib W → Calls Tryz.prog 124 #[.string p2] W fun e w' => e = .returned (.bool (stTextB p2)) ∧ Below W.heap.size W w') := fun W h => implTextOk p2 W (by omega) h.1
  have x0 : (w.alloc (.cells #[.string p1, .string p2] 73)).cell? ⟨w.heap.size, 0, none⟩ = some (.string p1) := by simp
  have x1 : (w.alloc (.cells #[.string p1, .string p2] 73)).cell? ⟨w.heap.size, 1, none⟩ = some (.string p2) := by simp
  have Hd : Hid (attrOk (p1, p2) = (stNameB p1 && (!(p1.toList == [120, 109, 108, 110, 115]) && stTextB p2))) := by
    show _ = _
    unfold attrOk
    rw [show xmlnsB.toList = [120, 109, 108, 110, 115] from ByteArray.toList_mk _]
  generalize attrOk (p1, p2) = R at *
  have HT : Hid (StLib w) := hT
  have HB0 : Hid (Below w.heap.size w (w.alloc (.cells #[.string p1, .string p2] 73))) := hb0
  have hz : w.heap.size < (w.alloc (.cells #[.string p1, .string p2] 73)).heap.size := by simp
  clear hT hb0
  cases hn : stNameB p1
  · rw [hn] at HN
    have Hf : Hid ((!R) = true) := by show _ = _; rw [Hd.out, hn]; rfl
    clear Hd HX hn
    go_enter Tryz.func201, Tryz.ntmps201
    go_wp2_with fail
    refine HN.mono ?_
    rintro e w1 ⟨rfl, b1⟩
    have B1 : Hid (Below w.heap.size w w1) := HB0.out.trans (b1.mono HB0.out.size)
    clear HN b1 HB0
    go_wp2_with fail
    go_ret
    exact ⟨ret_bool Hf.out.symm, B1.out⟩
  rw [hn] at HN
  cases hx : (p1.toList == [120, 109, 108, 110, 115])
  · have Hf : Hid ((!R) = !stTextB p2) := by show _ = _; rw [Hd.out, hn, hx]; rfl
    clear Hd hn
    go_enter Tryz.func201, Tryz.ntmps201
    go_wp2_with fail
    refine HN.mono ?_
    rintro e w1 ⟨rfl, b1⟩
    have y0 := keep_cell b1 x0
    have y1 := keep_cell b1 x1
    have B1 : Hid (Below w.heap.size w w1) := HB0.out.trans (b1.mono HB0.out.size)
    have HX1 := HX.out w1 (HT.out.below B1.out)
    clear HN b1 HB0 HX x0 x1
    go_wp2_with fail
    refine HX1.mono ?_
    rintro e w2 ⟨rfl, b2⟩
    have B2 : Hid (Below w.heap.size w w2) := B1.out.trans (b2.mono B1.out.size)
    clear HX1 b2 B1 y0 y1
    go_wp2_with fail
    go_ret
    exact ⟨ret_bool Hf.out.symm, B2.out⟩
  · have Hf : Hid ((!R) = true) := by show _ = _; rw [Hd.out, hn, hx]; rfl
    clear Hd HX hn
    go_enter Tryz.func201, Tryz.ntmps201
    go_wp2_with fail
    refine HN.mono ?_
    rintro e w1 ⟨rfl, b1⟩
    have y0 := keep_cell b1 x0
    have B1 : Hid (Below w.heap.size w w1) := HB0.out.trans (b1.mono HB0.out.size)
    clear HN b1 HB0 x0 x1
    go_wp2_with fail
    go_ret
    exact ⟨ret_bool Hf.out.symm, B1.out⟩

/-- The first that is not so, from a place on; -1. -/
def noAt (l : List AttrB) (k : Nat) : Bool := (l.drop k).all attrOk
theorem noAt_step (l : List AttrB) (k : Nat) (h : k < l.length) : noAt l k = (attrOk (l[k]'h) && noAt l (k + 1)) := by
  unfold noAt
  rw [List.drop_eq_getElem_cons h, List.all_cons]
theorem noAt_end (l : List AttrB) : noAt l l.length = true := by
  unfold noAt
  rw [List.drop_length]
  rfl

set_option maxRecDepth 20000 in
set_option maxHeartbeats 4000000 in
theorem implNoIndex (l : List AttrB) (a : Option Addr) (cap : Nat) (w : World) (ha : AttrsAt w a l) (hn : l.length ≤ 16777216) (hsz : ∀ p ∈ l, p.1.size ≤ 16777216 ∧ p.2.size ≤ 16777216) (hT : StLib w) :
    Calls Tryz.prog 203 #[.slice a l.length cap, .func (.func 201) #[] #[]] w fun e w' => (∃ z : Int, e = .returned (.int .i64 z) ∧ decide (0 ≤ z) = !l.all attrOk) ∧ Below w.heap.size w w' := by
  have HA : Hid (AttrsAt w a l) := ha
  have HW : Hid (∀ p ∈ l, p.1.size ≤ 16777216 ∧ p.2.size ≤ 16777216) := hsz
  have HT : Hid (StLib w) := hT
  obtain ⟨R, HR⟩ : ∃ R, Hid (noAt l 0 = R) := ⟨_, rfl⟩
  have HR0 : l.all attrOk = R := by
    have := HR.out
    unfold noAt at this
    rw [List.drop_zero] at this
    exact this
  rw [HR0]
  clear ha hsz hT HR0
  go_enter Tryz.func203, Tryz.ntmps203
  go_wp2_with fail
  go_loopw [5, 8] (fun _ iv wr => ∃ k : Nat, k ≤ l.length ∧ iv = .int .i64 (k : Int) ∧ Hid (noAt l k = R) ∧ Hid (Below w.heap.size w wr)) (fun _ iv _ => l.length - (intOf iv).toNat)
  case atStart => exact ⟨0, Nat.zero_le _, rfl, HR, Below.refl _ _⟩
  case round =>
    clear HR
    obtain ⟨k, hk, rfl, HR, HB⟩ := hrel
    have k0 : (0 : Int) ≤ (k : Int) := by omega
    by_cases hlt : k < l.length
    · have k1 : (k : Int) < (l.length : Int) := by omega
      obtain ⟨b, rfl, c0, c1⟩ := attrs_one (HA.out.below HB.out) k hlt
      have hp := HW.out _ (List.getElem_mem hlt)
      have Hs := noAt_step l k hlt
      rw [HR.out] at Hs
      generalize l[k]'hlt = p at *
      obtain ⟨p1, p2⟩ := p
      simp only at c0 c1 hp
      have HI := implNoStrictAttr p1 p2 wr hp.1 hp.2 (HT.out.below HB.out)
      cases ho : attrOk (p1, p2)
      · rw [ho] at HI Hs
        have Hf : Hid (R = false) := by show _ = _; rw [Hs]; rfl
        clear Hs HR ho
        go_wp2_with fail
        refine HI.mono ?_
        rintro e w1 ⟨rfl, b1⟩
        have B1 : Hid (Below w.heap.size w w1) := HB.out.trans (b1.mono HB.out.size)
        clear HI b1 HB c0 c1
        go_wp2_with fail
        go_ret
        exact ⟨⟨_, rfl, by rw [Hf.out]; simp⟩, B1.out⟩
      · rw [ho] at HI Hs
        have HR2 : Hid (noAt l (k + 1) = R) := by show _ = _; rw [Hs]; rfl
        clear Hs HR ho
        go_wp2_with fail
        refine HI.mono ?_
        rintro e w1 ⟨rfl, b1⟩
        have B1 : Hid (Below w.heap.size w w1) := HB.out.trans (b1.mono HB.out.size)
        clear HI b1 HB c0 c1
        go_wp2_with fail
        go_roundw
        case rel => exact ⟨k + 1, by omega, by go_num, HR2, B1⟩
        case measure => simp [intOf]; omega
    · have hkl : k = l.length := by omega
      subst hkl
      have g1 : decide ((l.length : Int) < (l.length : Int)) = false := by simp
      have Hf : Hid (R = true) := by show _ = _; rw [← HR.out]; exact noAt_end l
      clear HR
      go_wp2_with fail
      go_ret
      exact ⟨⟨_, rfl, by rw [Hf.out]; simp⟩, HB.out⟩

set_option maxHeartbeats 1000000 in
theorem implNoContains (l : List AttrB) (a : Option Addr) (cap : Nat) (w : World) (ha : AttrsAt w a l) (hn : l.length ≤ 16777216) (hsz : ∀ p ∈ l, p.1.size ≤ 16777216 ∧ p.2.size ≤ 16777216) (hT : StLib w) :
    Calls Tryz.prog 200 #[.slice a l.length cap, .func (.func 201) #[] #[]] w fun e w' => e = .returned (.bool (!l.all attrOk)) ∧ Below w.heap.size w w' := by
  have HI := implNoIndex l a cap w ha hn hsz hT
  generalize (!l.all attrOk) = R at *
  clear ha hsz hT
  go_enter Tryz.func200, Tryz.ntmps200
  go_wp2_with fail
  refine HI.mono ?_
  rintro e w1 ⟨⟨z, rfl, hz⟩, b1⟩
  clear HI
  go_wp2_with fail
  go_ret
  exact ⟨rfl, b1⟩

end Go.Proofs.YthipdkagkdnaiaaGreatDoor.Sg

namespace Go.Proofs.YthipdkagkdnaiaaGreatDoor.Sg
open Go.ChangeShapes Go.WideShapes Go.ChangeAt Go.RowKit

/-- What it is behind the interface. -/
def elI (kd sp : Int) (nm : ByteArray) (xa : Option Addr) (an xc : Nat) (tx : ByteArray) (kn : Nat) : Value :=
  if kd = 1 ∧ tx.size = 0 then .iface 105 (.agg #[.int .i64 sp, .string nm, .slice xa an xc])
  else if kd = 2 ∧ (sp = 0 ∧ nm.size = 0 ∧ an = 0 ∧ kn = 0) then .iface 98 (.agg #[.string tx])
  else if kd = 3 ∧ (sp = 0 ∧ nm.size = 0 ∧ an = 0 ∧ kn = 0) then .iface 106 (.agg #[.string tx])
  else .iface 123 (.agg #[])

set_option maxRecDepth 20000 in
set_option maxHeartbeats 8000000 in
theorem implElementOf (kd sp : Int) (nm : ByteArray) (xa : Option Addr) (an xc : Nat) (tx : ByteArray) (ka : Option Addr) (kn kc : Nat) (w : World) :
    Calls Tryz.prog 80 #[.agg #[.int .i64 kd, .int .i64 sp, .string nm, .slice xa an xc, .string tx, .slice ka kn kc]] w fun e w' => e = .returned (elI kd sp nm xa an xc tx kn) ∧ Below w.heap.size w w' := by
  have hb0 : Hid (Below w.heap.size w (w.alloc (.cells #[.int .i64 kd, .int .i64 sp, .string nm, .slice xa an xc, .string tx, .slice ka kn kc] 25))) := (Below.refl w.heap.size w).alloc (Nat.le_refl _) _
  by_cases h1 : sp = 0
  rotate_left
  · have gs : (sp == 0) = false := beq_false_of_ne h1
    by_cases k1 : kd = 1
    · subst k1
      by_cases t0 : tx.size = 0
      · have e0 := empty_of t0
        subst e0
        have HV : Hid (elI 1 sp nm xa an xc ⟨#[]⟩ kn = .iface 105 (.agg #[.int .i64 sp, .string nm, .slice xa an xc])) := by show _ = _; unfold elI; rw [if_pos ⟨rfl, rfl⟩]
        rw [HV.out]
        clear HV h1 t0
        go_enter Tryz.func80, Tryz.ntmps80
        go_wp2_with fail
        go_ret
        exact ⟨rfl, hb0.out⟩
      · have gt : (tx.toList == []) = false := not_empty t0
        have HV : Hid (elI 1 sp nm xa an xc tx kn = .iface 123 (.agg #[])) := by show _ = _; unfold elI; rw [if_neg (fun h => t0 h.2), if_neg (fun h => absurd h.1 (by decide)), if_neg (fun h => absurd h.1 (by decide))]
        rw [HV.out]
        clear HV h1 t0
        go_enter Tryz.func80, Tryz.ntmps80
        go_wp2_with fail
        go_ret
        exact ⟨rfl, hb0.out⟩
    have g1 : (kd == 1) = false := beq_false_of_ne k1
    by_cases k2 : kd = 2
    · subst k2
      have HV : Hid (elI 2 sp nm xa an xc tx kn = .iface 123 (.agg #[])) := by show _ = _; unfold elI; rw [if_neg (fun h => absurd h.1 (by decide)), if_neg (fun h => h1 h.2.1), if_neg (fun h => absurd h.1 (by decide))]
      rw [HV.out]
      clear HV h1 k1
      go_enter Tryz.func80, Tryz.ntmps80
      go_wp2_with fail
      go_ret
      exact ⟨rfl, hb0.out⟩
    have g2 : (kd == 2) = false := beq_false_of_ne k2
    by_cases k3 : kd = 3
    · subst k3
      have HV : Hid (elI 3 sp nm xa an xc tx kn = .iface 123 (.agg #[])) := by show _ = _; unfold elI; rw [if_neg (fun h => absurd h.1 (by decide)), if_neg (fun h => absurd h.1 (by decide)), if_neg (fun h => h1 h.2.1)]
      rw [HV.out]
      clear HV h1 k1 k2
      go_enter Tryz.func80, Tryz.ntmps80
      go_wp2_with fail
      go_ret
      exact ⟨rfl, hb0.out⟩
    have g3 : (kd == 3) = false := beq_false_of_ne k3
    have HV : Hid (elI kd sp nm xa an xc tx kn = .iface 123 (.agg #[])) := by show _ = _; unfold elI; rw [if_neg (fun h => k1 h.1), if_neg (fun h => k2 h.1), if_neg (fun h => k3 h.1)]
    rw [HV.out]
    clear HV h1 k1 k2 k3
    go_enter Tryz.func80, Tryz.ntmps80
    go_wp2_with fail
    go_ret
    exact ⟨rfl, hb0.out⟩
  subst h1
  by_cases h2 : nm.size = 0
  rotate_left
  · have gn : (nm.toList == []) = false := not_empty h2
    by_cases k1 : kd = 1
    · subst k1
      by_cases t0 : tx.size = 0
      · have e0 := empty_of t0
        subst e0
        have HV : Hid (elI 1 0 nm xa an xc ⟨#[]⟩ kn = .iface 105 (.agg #[.int .i64 0, .string nm, .slice xa an xc])) := by show _ = _; unfold elI; rw [if_pos ⟨rfl, rfl⟩]
        rw [HV.out]
        clear HV h2 t0
        go_enter Tryz.func80, Tryz.ntmps80
        go_wp2_with fail
        go_ret
        exact ⟨rfl, hb0.out⟩
      · have gt : (tx.toList == []) = false := not_empty t0
        have HV : Hid (elI 1 0 nm xa an xc tx kn = .iface 123 (.agg #[])) := by show _ = _; unfold elI; rw [if_neg (fun h => t0 h.2), if_neg (fun h => absurd h.1 (by decide)), if_neg (fun h => absurd h.1 (by decide))]
        rw [HV.out]
        clear HV h2 t0
        go_enter Tryz.func80, Tryz.ntmps80
        go_wp2_with fail
        go_ret
        exact ⟨rfl, hb0.out⟩
    have g1 : (kd == 1) = false := beq_false_of_ne k1
    by_cases k2 : kd = 2
    · subst k2
      have HV : Hid (elI 2 0 nm xa an xc tx kn = .iface 123 (.agg #[])) := by show _ = _; unfold elI; rw [if_neg (fun h => absurd h.1 (by decide)), if_neg (fun h => h2 h.2.2.1), if_neg (fun h => absurd h.1 (by decide))]
      rw [HV.out]
      clear HV h2 k1
      go_enter Tryz.func80, Tryz.ntmps80
      go_wp2_with fail
      go_ret
      exact ⟨rfl, hb0.out⟩
    have g2 : (kd == 2) = false := beq_false_of_ne k2
    by_cases k3 : kd = 3
    · subst k3
      have HV : Hid (elI 3 0 nm xa an xc tx kn = .iface 123 (.agg #[])) := by show _ = _; unfold elI; rw [if_neg (fun h => absurd h.1 (by decide)), if_neg (fun h => absurd h.1 (by decide)), if_neg (fun h => h2 h.2.2.1)]
      rw [HV.out]
      clear HV h2 k1 k2
      go_enter Tryz.func80, Tryz.ntmps80
      go_wp2_with fail
      go_ret
      exact ⟨rfl, hb0.out⟩
    have g3 : (kd == 3) = false := beq_false_of_ne k3
    have HV : Hid (elI kd 0 nm xa an xc tx kn = .iface 123 (.agg #[])) := by show _ = _; unfold elI; rw [if_neg (fun h => k1 h.1), if_neg (fun h => k2 h.1), if_neg (fun h => k3 h.1)]
    rw [HV.out]
    clear HV h2 k1 k2 k3
    go_enter Tryz.func80, Tryz.ntmps80
    go_wp2_with fail
    go_ret
    exact ⟨rfl, hb0.out⟩
  have e2 := empty_of h2
  subst e2
  clear h2
  by_cases h3 : an = 0
  rotate_left
  · have ga : ((an : Int) == 0) = false := by rw [beq_eq_false_iff_ne]; omega
    by_cases k1 : kd = 1
    · subst k1
      by_cases t0 : tx.size = 0
      · have e0 := empty_of t0
        subst e0
        have HV : Hid (elI 1 0 ⟨#[]⟩ xa an xc ⟨#[]⟩ kn = .iface 105 (.agg #[.int .i64 0, .string ⟨#[]⟩, .slice xa an xc])) := by show _ = _; unfold elI; rw [if_pos ⟨rfl, rfl⟩]
        rw [HV.out]
        clear HV h3 t0
        go_enter Tryz.func80, Tryz.ntmps80
        go_wp2_with fail
        go_ret
        exact ⟨rfl, hb0.out⟩
      · have gt : (tx.toList == []) = false := not_empty t0
        have HV : Hid (elI 1 0 ⟨#[]⟩ xa an xc tx kn = .iface 123 (.agg #[])) := by show _ = _; unfold elI; rw [if_neg (fun h => t0 h.2), if_neg (fun h => absurd h.1 (by decide)), if_neg (fun h => absurd h.1 (by decide))]
        rw [HV.out]
        clear HV h3 t0
        go_enter Tryz.func80, Tryz.ntmps80
        go_wp2_with fail
        go_ret
        exact ⟨rfl, hb0.out⟩
    have g1 : (kd == 1) = false := beq_false_of_ne k1
    by_cases k2 : kd = 2
    · subst k2
      have HV : Hid (elI 2 0 ⟨#[]⟩ xa an xc tx kn = .iface 123 (.agg #[])) := by show _ = _; unfold elI; rw [if_neg (fun h => absurd h.1 (by decide)), if_neg (fun h => h3 h.2.2.2.1), if_neg (fun h => absurd h.1 (by decide))]
      rw [HV.out]
      clear HV h3 k1
      go_enter Tryz.func80, Tryz.ntmps80
      go_wp2_with fail
      go_ret
      exact ⟨rfl, hb0.out⟩
    have g2 : (kd == 2) = false := beq_false_of_ne k2
    by_cases k3 : kd = 3
    · subst k3
      have HV : Hid (elI 3 0 ⟨#[]⟩ xa an xc tx kn = .iface 123 (.agg #[])) := by show _ = _; unfold elI; rw [if_neg (fun h => absurd h.1 (by decide)), if_neg (fun h => absurd h.1 (by decide)), if_neg (fun h => h3 h.2.2.2.1)]
      rw [HV.out]
      clear HV h3 k1 k2
      go_enter Tryz.func80, Tryz.ntmps80
      go_wp2_with fail
      go_ret
      exact ⟨rfl, hb0.out⟩
    have g3 : (kd == 3) = false := beq_false_of_ne k3
    have HV : Hid (elI kd 0 ⟨#[]⟩ xa an xc tx kn = .iface 123 (.agg #[])) := by show _ = _; unfold elI; rw [if_neg (fun h => k1 h.1), if_neg (fun h => k2 h.1), if_neg (fun h => k3 h.1)]
    rw [HV.out]
    clear HV h3 k1 k2 k3
    go_enter Tryz.func80, Tryz.ntmps80
    go_wp2_with fail
    go_ret
    exact ⟨rfl, hb0.out⟩
  subst h3
  by_cases h4 : kn = 0
  rotate_left
  · have gk : ((kn : Int) == 0) = false := by rw [beq_eq_false_iff_ne]; omega
    by_cases k1 : kd = 1
    · subst k1
      by_cases t0 : tx.size = 0
      · have e0 := empty_of t0
        subst e0
        have HV : Hid (elI 1 0 ⟨#[]⟩ xa 0 xc ⟨#[]⟩ kn = .iface 105 (.agg #[.int .i64 0, .string ⟨#[]⟩, .slice xa 0 xc])) := by show _ = _; unfold elI; rw [if_pos ⟨rfl, rfl⟩]
        rw [HV.out]
        clear HV h4 t0
        go_enter Tryz.func80, Tryz.ntmps80
        go_wp2_with fail
        go_ret
        exact ⟨rfl, hb0.out⟩
      · have gt : (tx.toList == []) = false := not_empty t0
        have HV : Hid (elI 1 0 ⟨#[]⟩ xa 0 xc tx kn = .iface 123 (.agg #[])) := by show _ = _; unfold elI; rw [if_neg (fun h => t0 h.2), if_neg (fun h => absurd h.1 (by decide)), if_neg (fun h => absurd h.1 (by decide))]
        rw [HV.out]
        clear HV h4 t0
        go_enter Tryz.func80, Tryz.ntmps80
        go_wp2_with fail
        go_ret
        exact ⟨rfl, hb0.out⟩
    have g1 : (kd == 1) = false := beq_false_of_ne k1
    by_cases k2 : kd = 2
    · subst k2
      have HV : Hid (elI 2 0 ⟨#[]⟩ xa 0 xc tx kn = .iface 123 (.agg #[])) := by show _ = _; unfold elI; rw [if_neg (fun h => absurd h.1 (by decide)), if_neg (fun h => h4 h.2.2.2.2), if_neg (fun h => absurd h.1 (by decide))]
      rw [HV.out]
      clear HV h4 k1
      go_enter Tryz.func80, Tryz.ntmps80
      go_wp2_with fail
      go_ret
      exact ⟨rfl, hb0.out⟩
    have g2 : (kd == 2) = false := beq_false_of_ne k2
    by_cases k3 : kd = 3
    · subst k3
      have HV : Hid (elI 3 0 ⟨#[]⟩ xa 0 xc tx kn = .iface 123 (.agg #[])) := by show _ = _; unfold elI; rw [if_neg (fun h => absurd h.1 (by decide)), if_neg (fun h => absurd h.1 (by decide)), if_neg (fun h => h4 h.2.2.2.2)]
      rw [HV.out]
      clear HV h4 k1 k2
      go_enter Tryz.func80, Tryz.ntmps80
      go_wp2_with fail
      go_ret
      exact ⟨rfl, hb0.out⟩
    have g3 : (kd == 3) = false := beq_false_of_ne k3
    have HV : Hid (elI kd 0 ⟨#[]⟩ xa 0 xc tx kn = .iface 123 (.agg #[])) := by show _ = _; unfold elI; rw [if_neg (fun h => k1 h.1), if_neg (fun h => k2 h.1), if_neg (fun h => k3 h.1)]
    rw [HV.out]
    clear HV h4 k1 k2 k3
    go_enter Tryz.func80, Tryz.ntmps80
    go_wp2_with fail
    go_ret
    exact ⟨rfl, hb0.out⟩
  subst h4
  by_cases k1 : kd = 1
  · subst k1
    by_cases t0 : tx.size = 0
    · have e0 := empty_of t0
      subst e0
      have HV : Hid (elI 1 0 ⟨#[]⟩ xa 0 xc ⟨#[]⟩ 0 = .iface 105 (.agg #[.int .i64 0, .string ⟨#[]⟩, .slice xa 0 xc])) := by show _ = _; unfold elI; rw [if_pos ⟨rfl, rfl⟩]
      rw [HV.out]
      clear HV t0
      go_enter Tryz.func80, Tryz.ntmps80
      go_wp2_with fail
      go_ret
      exact ⟨rfl, hb0.out⟩
    · have gt : (tx.toList == []) = false := not_empty t0
      have HV : Hid (elI 1 0 ⟨#[]⟩ xa 0 xc tx 0 = .iface 123 (.agg #[])) := by show _ = _; unfold elI; rw [if_neg (fun h => t0 h.2), if_neg (fun h => absurd h.1 (by decide)), if_neg (fun h => absurd h.1 (by decide))]
      rw [HV.out]
      clear HV t0
      go_enter Tryz.func80, Tryz.ntmps80
      go_wp2_with fail
      go_ret
      exact ⟨rfl, hb0.out⟩
  have g1 : (kd == 1) = false := beq_false_of_ne k1
  by_cases k2 : kd = 2
  · subst k2
    have HV : Hid (elI 2 0 ⟨#[]⟩ xa 0 xc tx 0 = .iface 98 (.agg #[.string tx])) := by show _ = _; unfold elI; rw [if_neg (fun h => absurd h.1 (by decide)), if_pos ⟨rfl, rfl, rfl, rfl, rfl⟩]
    rw [HV.out]
    clear HV k1
    go_enter Tryz.func80, Tryz.ntmps80
    go_wp2_with fail
    go_ret
    exact ⟨rfl, hb0.out⟩
  have g2 : (kd == 2) = false := beq_false_of_ne k2
  by_cases k3 : kd = 3
  · subst k3
    have HV : Hid (elI 3 0 ⟨#[]⟩ xa 0 xc tx 0 = .iface 106 (.agg #[.string tx])) := by show _ = _; unfold elI; rw [if_neg (fun h => absurd h.1 (by decide)), if_neg (fun h => absurd h.1 (by decide)), if_pos ⟨rfl, rfl, rfl, rfl, rfl⟩]
    rw [HV.out]
    clear HV k1 k2
    go_enter Tryz.func80, Tryz.ntmps80
    go_wp2_with fail
    go_ret
    exact ⟨rfl, hb0.out⟩
  have g3 : (kd == 3) = false := beq_false_of_ne k3
  have HV : Hid (elI kd 0 ⟨#[]⟩ xa 0 xc tx 0 = .iface 123 (.agg #[])) := by show _ = _; unfold elI; rw [if_neg (fun h => k1 h.1), if_neg (fun h => k2 h.1), if_neg (fun h => k3 h.1)]
  rw [HV.out]
  clear HV k1 k2 k3
  go_enter Tryz.func80, Tryz.ntmps80
  go_wp2_with fail
  go_ret
  exact ⟨rfl, hb0.out⟩

end Go.Proofs.YthipdkagkdnaiaaGreatDoor.Sg

namespace Go.Proofs.YthipdkagkdnaiaaGreatDoor.Sg
open Go.ChangeShapes Go.WideShapes Go.ChangeAt Go.RowKit

set_option maxHeartbeats 2000000 in
theorem implStrictNone (w : World) : Calls Tryz.prog 205 #[.agg #[]] w fun e w' => e = .returned (.bool false) ∧ Below w.heap.size w w' := by
  go_enter Tryz.func205, Tryz.ntmps205
  go_wp2_with fail
  go_ret
  exact ⟨rfl, (Below.refl w.heap.size w).alloc (Nat.le_refl _) _⟩
set_option maxHeartbeats 2000000 in
theorem implStrictNote (tx : ByteArray) (w : World) (hs : tx.size ≤ 16777216) (hT : StLib w) : Calls Tryz.prog 204 #[.agg #[.string tx]] w fun e w' => e = .returned (.bool (stNoteB tx)) ∧ Below w.heap.size w w' := by
  have hb0 : Below w.heap.size w (w.alloc (.cells #[.string tx] 106)) := (Below.refl w.heap.size w).alloc (Nat.le_refl _) _
  have HX := implNoteOk tx _ (by omega) (hT.below hb0)
  generalize stNoteB tx = R at *
  clear hT
  go_enter Tryz.func204, Tryz.ntmps204
  go_wp2_with fail
  refine HX.mono ?_
  rintro e w1 ⟨rfl, b1⟩
  have B1 : Hid (Below w.heap.size w w1) := hb0.trans (b1.mono hb0.size)
  clear HX b1 hb0
  go_wp2_with fail
  go_ret
  exact ⟨rfl, B1.out⟩
set_option maxHeartbeats 2000000 in
theorem implStrictText (tx : ByteArray) (w : World) (hs : tx.size ≤ 16777216) (hT : StLib w) : Calls Tryz.prog 197 #[.agg #[.string tx]] w fun e w' => e = .returned (.bool (decide (tx.size ≠ 0) && stTextB tx)) ∧ Below w.heap.size w w' := by
  have hb0 : Below w.heap.size w (w.alloc (.cells #[.string tx] 98)) := (Below.refl w.heap.size w).alloc (Nat.le_refl _) _
  have HX := implTextOk tx _ (by omega) (hT.below hb0).1
  clear hT
  by_cases h0 : tx.size = 0
  · have e0 := empty_of h0
    subst e0
    clear HX
    go_enter Tryz.func197, Tryz.ntmps197
    go_wp2_with fail
    go_ret
    exact ⟨rfl, hb0⟩
  · have g0 : (tx.toList == []) = false := not_empty h0
    have g0' : (tx.toList != []) = true := by rw [bne, g0]; rfl
    have Hd : Hid ((decide (tx.size ≠ 0) && stTextB tx) = stTextB tx) := by show _ = _; rw [decide_eq_true h0]; rfl
    rw [Hd.out]
    generalize stTextB tx = R at *
    clear Hd h0
    go_enter Tryz.func197, Tryz.ntmps197
    go_wp2_with fail
    refine HX.mono ?_
    rintro e w1 ⟨rfl, b1⟩
    have B1 : Hid (Below w.heap.size w w1) := hb0.trans (b1.mono hb0.size)
    clear HX b1 hb0
    go_wp2_with fail
    go_ret
    exact ⟨rfl, B1.out⟩
/-- What a tag is asked for by itself. -/
def tagSelf (sp : Int) (nm : ByteArray) (ats : List AttrB) : Bool := inP sp (0, 2) && (stNameB nm && (unlikeB ats && ats.all attrOk))

set_option maxRecDepth 20000 in
set_option maxHeartbeats 4000000 in
theorem implStrictTag (sp : Int) (nm : ByteArray) (ats : List AttrB) (ab : Option Addr) (ac : Nat) (w : World) (hA : AttrsAt w ab ats) (hnm : nm.size ≤ 16777216) (hal : ats.length ≤ 16777216) (hap : ∀ p ∈ ats, p.1.size ≤ 16777216 ∧ p.2.size ≤ 16777216) (hT : StLib w) :
    Calls Tryz.prog 198 #[.agg #[.int .i64 sp, .string nm, .slice ab ats.length ac]] w fun e w' => e = .returned (.bool (tagSelf sp nm ats)) ∧ Below w.heap.size w w' := by
  have hb0 : Below w.heap.size w (w.alloc (.cells #[.int .i64 sp, .string nm, .slice ab ats.length ac] 105)) := (Below.refl w.heap.size w).alloc (Nat.le_refl _) _
  have HN := implNameOk nm _ (by omega) (hT.below hb0).1
  have HU : Hid (∀ W, Below w.heap.size w W → Calls Tryz.prog 76 #[.slice ab ats.length ac] W fun r w' => r = .returned (.bool (unlikeB ats)) ∧ Below W.heap.size W w') := fun W hW => implUnlike ats ab _ ac W (hA.below hW) rfl hal
  have HC : Hid (∀ W, Below w.heap.size w W → Calls Tryz.prog 200 #[.slice ab ats.length ac, .func (.func 201) #[] #[]] W fun r w' => r = .returned (.bool (!ats.all attrOk)) ∧ Below W.heap.size W w') := fun W hW => implNoContains ats ab ac W (hA.below hW) hal hap (hT.below hW)
  have Hd : Hid (tagSelf sp nm ats = (inP sp (0, 2) && (stNameB nm && (unlikeB ats && ats.all attrOk)))) := rfl
  generalize tagSelf sp nm ats = R at *
  generalize ats.all attrOk = ak at *
  generalize unlikeB ats = uk at *
  generalize stNameB nm = nk at *
  have x2 : (w.alloc (.cells #[.int .i64 sp, .string nm, .slice ab ats.length ac] 105)).cell? ⟨w.heap.size, 2, none⟩ = some (.slice ab ats.length ac) := by simp
  have HB0 : Hid (Below w.heap.size w (w.alloc (.cells #[.int .i64 sp, .string nm, .slice ab ats.length ac] 105))) := hb0
  clear hT hb0 hap hA
  generalize ats.length = an at *
  by_cases h1 : sp < 0
  · have Hf : Hid (R = false) := by
      show _ = _
      rw [Hd.out, show inP sp (0, 2) = false from decide_eq_false (by simp only; omega)]
      rfl
    have g1 : decide ((0 : Int) ≤ sp) = false := decide_eq_false (by omega)
    clear Hd HN HU HC
    go_enter Tryz.func198, Tryz.ntmps198
    go_wp2_with fail
    go_ret
    exact ⟨ret_bool Hf.out.symm, HB0.out⟩
  have g1 : decide ((0 : Int) ≤ sp) = true := decide_eq_true (by omega)
  by_cases h2 : (2 : Int) < sp
  · have Hf : Hid (R = false) := by
      show _ = _
      rw [Hd.out, show inP sp (0, 2) = false from decide_eq_false (by simp only; omega)]
      rfl
    have g2 : decide (sp ≤ (2 : Int)) = false := decide_eq_false (by omega)
    clear Hd HN HU HC
    go_enter Tryz.func198, Tryz.ntmps198
    go_wp2_with fail
    go_ret
    exact ⟨ret_bool Hf.out.symm, HB0.out⟩
  have g2 : decide (sp ≤ (2 : Int)) = true := decide_eq_true (by omega)
  have Hd1 : Hid (R = (nk && (uk && ak))) := by
    show _ = _
    rw [Hd.out, show inP sp (0, 2) = true from decide_eq_true (by simp only; omega)]
    rfl
  clear Hd
  cases nk
  · have Hf : Hid (R = false) := Hd1.out
    clear Hd1 HU HC
    go_enter Tryz.func198, Tryz.ntmps198
    go_wp2_with fail
    refine HN.mono ?_
    rintro e w1 ⟨rfl, b1⟩
    have B1 : Hid (Below w.heap.size w w1) := HB0.out.trans (b1.mono HB0.out.size)
    clear HN b1 HB0
    go_wp2_with fail
    go_ret
    exact ⟨ret_bool Hf.out.symm, B1.out⟩
  cases uk
  · have Hf : Hid (R = false) := Hd1.out
    clear Hd1 HC
    go_enter Tryz.func198, Tryz.ntmps198
    go_wp2_with fail
    refine HN.mono ?_
    rintro e w1 ⟨rfl, b1⟩
    have y2 := keep_cell b1 x2
    have B1 : Hid (Below w.heap.size w w1) := HB0.out.trans (b1.mono HB0.out.size)
    have HU1 := HU.out w1 B1.out
    clear HN b1 HB0 HU x2
    go_wp2_with fail
    refine HU1.mono ?_
    rintro e w2 ⟨rfl, b2⟩
    have B2 : Hid (Below w.heap.size w w2) := B1.out.trans (b2.mono B1.out.size)
    clear HU1 b2 B1 y2
    go_wp2_with fail
    go_ret
    exact ⟨ret_bool Hf.out.symm, B2.out⟩
  have Hf : Hid (R = ak) := by show _ = _; rw [Hd1.out]; simp
  clear Hd1
  go_enter Tryz.func198, Tryz.ntmps198
  go_wp2_with fail
  refine HN.mono ?_
  rintro e w1 ⟨rfl, b1⟩
  have y2 := keep_cell b1 x2
  have B1 : Hid (Below w.heap.size w w1) := HB0.out.trans (b1.mono HB0.out.size)
  have HU1 := HU.out w1 B1.out
  clear HN b1 HB0 HU x2
  go_wp2_with fail
  refine HU1.mono ?_
  rintro e w2 ⟨rfl, b2⟩
  have z2 := keep_cell b2 y2
  have B2 : Hid (Below w.heap.size w w2) := B1.out.trans (b2.mono B1.out.size)
  have HC1 := HC.out w2 B2.out
  clear HU1 b2 B1 y2 HC
  go_wp2_with fail
  refine HC1.mono ?_
  rintro e w3 ⟨rfl, b3⟩
  have B3 : Hid (Below w.heap.size w w3) := B2.out.trans (b3.mono B2.out.size)
  clear HC1 b3 B2 z2
  go_wp2_with fail
  go_ret
  exact ⟨ret_bool Hf.out.symm, B3.out⟩

end Go.Proofs.YthipdkagkdnaiaaGreatDoor.Sg

namespace Go.Proofs.YthipdkagkdnaiaaGreatDoor.Sg
open Go.ChangeShapes Go.WideShapes Go.ChangeAt Go.RowKit

/-- The kids of an element. -/
def kidsE : ElB → List ElB
  | .mk _ _ _ _ _ ks => ks
theorem elN_kids (e : ElB) : elN e = elsN (kidsE e) + 1 := by obtain ⟨kd, sp, nm, ats, tx, ks⟩ := e; rw [elN, kidsE]
theorem elD_kids (e : ElB) : elD e = elsD (kidsE e) + 1 := by obtain ⟨kd, sp, nm, ats, tx, ks⟩ := e; rw [elD, kidsE]
/-- The rows that are put behind for these. -/
def pushP (d : Nat) : List ElB → List (List ElB × Nat)
  | [] => []
  | e :: es => if (kidsE e).length = 0 then pushP d es else (kidsE e, d) :: pushP d es
theorem pushP_append (d : Nat) : ∀ (a b : List ElB), pushP d (a ++ b) = pushP d a ++ pushP d b
  | [], b => rfl
  | e :: a, b => by
    rw [List.cons_append, pushP, pushP, pushP_append d a b]
    split <;> rfl
theorem pushP_step (d : Nat) (els : List ElB) (k : Nat) (h : k < els.length) : pushP d (els.take (k + 1)) = pushP d (els.take k) ++ if (kidsE (els[k]'h)).length = 0 then [] else [(kidsE (els[k]'h), d)] := by
  rw [List.take_succ_eq_append_getElem h, pushP_append]
  rfl
/-- Rows that wait, and those that come, in their order. -/
inductive Vis : List (List ElB × Nat) → List (List ElB × Nat) → Prop where
  | nil : Vis [] []
  | pop (st : List (List ElB × Nat)) (r : List ElB × Nat) (ys : List (List ElB × Nat)) : Vis (st ++ pushP (r.2 + 1) r.1) ys → Vis (st ++ [r]) (r :: ys)
/-- How many elements are in rows, how many rounds there are at most. -/
def wN (st : List (List ElB × Nat)) : Nat := (st.map fun r => elsN r.1).sum
def wM (st : List (List ElB × Nat)) : Nat := (st.map fun r => elsN r.1 + 1).sum
theorem wN_append (a b : List (List ElB × Nat)) : wN (a ++ b) = wN a + wN b := by simp [wN]
theorem wM_append (a b : List (List ElB × Nat)) : wM (a ++ b) = wM a + wM b := by simp [wM]
theorem wM_len : ∀ st : List (List ElB × Nat), st.length ≤ wM st
  | [] => Nat.zero_le _
  | r :: st => by
    have := wM_len st
    rw [show r :: st = [r] ++ st from rfl, wM_append]
    simp [wM] at *
    omega
theorem wN_push (d : Nat) : ∀ els : List ElB, wN (pushP d els) + els.length = elsN els
  | [] => rfl
  | e :: es => by
    have ih := wN_push d es
    have hn := elN_kids e
    rw [pushP, elsN, List.length_cons]
    split
    · rename_i h
      have h0 : elsN (kidsE e) = 0 := by rw [List.length_eq_zero_iff.1 h]; rfl
      omega
    · rw [show (kidsE e, d) :: pushP d es = [(kidsE e, d)] ++ pushP d es from rfl, wN_append]
      have h1 : wN [(kidsE e, d)] = elsN (kidsE e) := by simp [wN]
      omega
theorem wM_push (d : Nat) : ∀ els : List ElB, wM (pushP d els) ≤ elsN els
  | [] => Nat.le_refl _
  | e :: es => by
    have ih := wM_push d es
    have hn := elN_kids e
    rw [pushP, elsN]
    split
    · omega
    · rw [show (kidsE e, d) :: pushP d es = [(kidsE e, d)] ++ pushP d es from rfl, wM_append]
      have h1 : wM [(kidsE e, d)] = elsN (kidsE e) + 1 := by simp [wM]
      omega
theorem wM_pop (st : List (List ElB × Nat)) (r : List ElB × Nat) : wM (st ++ pushP (r.2 + 1) r.1) < wM (st ++ [r]) := by
  have := wM_push (r.2 + 1) r.1
  have h1 : wM [r] = elsN r.1 + 1 := by simp [wM]
  rw [wM_append, wM_append]
  omega
/-- All rows come. -/
theorem vis_any : ∀ (m : Nat) (st : List (List ElB × Nat)), wM st ≤ m → ∃ ys, Vis st ys
  | m, st, h => by
    rcases List.eq_nil_or_concat st with rfl | ⟨s, r, rfl⟩
    · exact ⟨[], .nil⟩
    · rw [List.concat_eq_append] at h ⊢
      have hp := wM_pop s r
      match m, h with
      | 0, h => omega
      | m + 1, h =>
        obtain ⟨ys, hy⟩ := vis_any m (s ++ pushP (r.2 + 1) r.1) (by omega)
        exact ⟨r :: ys, .pop s r ys hy⟩
theorem elsN_take : ∀ (es : List ElB) (k : Nat), elsN (es.take k) ≤ elsN es
  | [], k => by simp
  | e :: es, 0 => by simp [elsN]
  | e :: es, k + 1 => by
    have := elsN_take es k
    rw [List.take_succ_cons, elsN, elsN]
    omega
/-- How many come. -/
def lenR (ys : List (List ElB × Nat)) : Nat := (ys.map fun r => r.1.length).sum
theorem lenR_snoc (ys : List (List ElB × Nat)) (r : List ElB × Nat) : lenR (ys ++ [r]) = lenR ys + r.1.length := by simp [lenR]
theorem vis_len {st ys : List (List ElB × Nat)} (h : Vis st ys) : lenR ys = wN st := by
  induction h with
  | nil => rfl
  | pop st r ys _ ih =>
    rw [wN_append] at ih ⊢
    have := wN_push (r.2 + 1) r.1
    have h1 : wN [r] = elsN r.1 := by simp [wN]
    have h2 : lenR (r :: ys) = r.1.length + lenR ys := by simp [lenR]
    omega
theorem elsD_pos : ∀ es : List ElB, es ≠ [] → 1 ≤ elsD es
  | [], h => absurd rfl h
  | e :: es, _ => by
    have := elD_kids e
    rw [elsD]
    omega
theorem pushP_kids (d : Nat) : ∀ (els : List ElB) (r : List ElB × Nat), r ∈ pushP d els → r.1 ≠ [] ∧ r.2 = d
  | [], r, h => nomatch h
  | e :: es, r, h => by
    rw [pushP] at h
    split at h
    · exact pushP_kids d es r h
    · rename_i hk
      rcases List.mem_cons.1 h with h | h
      · rw [h]
        exact ⟨fun h0 => hk (by rw [show kidsE e = [] from h0]; rfl), rfl⟩
      · exact pushP_kids d es r h
theorem pushP_deep (d : Nat) : ∀ (els : List ElB) (r : List ElB × Nat), r ∈ pushP d els → elsD r.1 + 1 ≤ elsD els
  | [], r, h => nomatch h
  | e :: es, r, h => by
    have he := elD_kids e
    rw [pushP] at h
    rw [elsD]
    split at h
    · have := pushP_deep d es r h
      omega
    · rcases List.mem_cons.1 h with h | h
      · rw [h]
        simp only
        omega
      · have := pushP_deep d es r h
        omega
/-- A row as it lies. -/
structure RowX where
  a : Option Addr
  cap : Nat
  els : List ElB
  deep : Nat
def RowX.p (r : RowX) : List ElB × Nat := (r.els, r.deep)
def rowCs (st : List RowX) : List Value := st.flatMap fun r => [.slice r.a r.els.length r.cap, .int .i64 (r.deep : Int)]
theorem rowCs_append (a b : List RowX) : rowCs (a ++ b) = rowCs a ++ rowCs b := by simp [rowCs]
theorem rowCs_len : ∀ st : List RowX, (rowCs st).length = st.length * 2
  | [] => rfl
  | r :: st => by
    have := rowCs_len st
    rw [show r :: st = [r] ++ st from rfl, rowCs_append, List.length_append, this]
    simp [rowCs]
    omega
theorem rowCs_last (st : List RowX) (r : RowX) : (rowCs (st ++ [r]))[st.length * 2]? = some (.slice r.a r.els.length r.cap) ∧ (rowCs (st ++ [r]))[st.length * 2 + 1]? = some (.int .i64 (r.deep : Int)) := by
  have h := rowCs_len st
  rw [rowCs_append, List.getElem?_append_right (by omega), List.getElem?_append_right (by omega), h]
  have e1 : st.length * 2 - st.length * 2 = 0 := by omega
  have e2 : st.length * 2 + 1 - st.length * 2 = 1 := by omega
  rw [e1, e2]
  exact ⟨rfl, rfl⟩
theorem rowCs_cut (st : List RowX) (r : RowX) : (rowCs (st ++ [r])).take (st.length * 2) = rowCs st := by
  rw [rowCs_append, ← rowCs_len st, List.take_left]
/-- The beginning of a row that is owned. -/
theorem owns_cutn {w : World} {base g cap n m z : Nat} {e : TypeId} {xs : List Value} (h : w.ownsRow base e z (.slice (some ⟨g, 0, none⟩) n cap) n xs) (hm : m ≤ n) : w.ownsRow base e z (.slice (some ⟨g, 0, none⟩) m cap) m (xs.take (m * z)) := by
  have hmz : m * z ≤ n * z := Nat.mul_le_mul_right z hm
  obtain ⟨h1, h2⟩ := h
  rcases h2 with ⟨h2, _⟩ | ⟨g', cap', cur, hv, h3, h4, h5, h6, h7, h8⟩
  · cases h2
  · cases hv
    refine ⟨by rw [List.length_take, h1]; omega, .inr ⟨g, cap, cur, rfl, h3, h4, by omega, h6, h7, ?_⟩⟩
    rw [← h8, List.take_take]
    congr 1
    omega
theorem KidsIn.agree {Q : World → Value → List AttrB → Prop} {P : Nat → Prop} (hQ : LiesP Q P) {w w' : World} (hb : ∀ b, P b → w'.heap[b]? = w.heap[b]?) (hs : w.heap.size ≤ w'.heap.size) {ka : Option Addr} {ks : List ElB} (h : KidsIn Q P w ka ks) : KidsIn Q P w' ka ks := by
  rcases h with h | ⟨kb, ko, e, hp, h⟩
  · exact .inl h
  · exact .inr ⟨kb, ko, e, hp, ElsIn.agree hQ hb hs ks kb ko hp h⟩
theorem ElIn.parts2 {Q : World → Value → List AttrB → Prop} {P : Nat → Prop} (hs : ∀ {w v l}, Q w v l → ∃ a c, v = .slice a l.length c) {W : World} {e : ElB} {b o : Nat} (h : ElIn Q P W e b o) : ∃ kd sp nm xa n xc tx ka kc, W.cell? ⟨b, o, none⟩ = some (.int .i64 kd) ∧ W.cell? ⟨b, o + 1, none⟩ = some (.int .i64 sp) ∧ W.cell? ⟨b, o + 2, none⟩ = some (.string nm) ∧ W.cell? ⟨b, o + 3, none⟩ = some (.slice xa n xc) ∧ W.cell? ⟨b, o + 4, none⟩ = some (.string tx) ∧ W.cell? ⟨b, o + 5, none⟩ = some (.slice ka (kidsE e).length kc) ∧ KidsIn Q P W ka (kidsE e) := by
  obtain ⟨kd, sp, nm, ats, tx, ks⟩ := e
  unfold ElIn at h
  obtain ⟨c0, c1, c2, ⟨av, c3, hq⟩, c4, ka, kc, c5, hk⟩ := h
  obtain ⟨xa, xc, rfl⟩ := hs hq
  exact ⟨kd, sp, nm, xa, _, xc, tx, ka, kc, c0, c1, c2, c3, c4, c5, hk⟩
theorem ElsIn.lt {Q : World → Value → List AttrB → Prop} {P : Nat → Prop} {w : World} {es : List ElB} {b o : Nat} (hz : ¬ es.length = 0) (h : ElsIn Q P w es b o) : b < w.heap.size := by
  cases es with
  | nil => exact absurd rfl hz
  | cons e es =>
    obtain ⟨kd, sp, nm, ats, tx, ks⟩ := e
    unfold ElsIn at h
    have h1 := h.1
    unfold ElIn at h1
    exact block_lt_of_cell h1.1

/-- Attributes as a slice, wherever they lie. -/
def QSh (_ : World) (v : Value) (l : List AttrB) : Prop := ∃ a c, v = .slice a l.length c
theorem QSh.liesP (P : Nat → Prop) : LiesP QSh P := ⟨fun h _ _ => h⟩
mutual
/-- Kids lie where something lies. -/
theorem ElIn.lts {Q : World → Value → List AttrB → Prop} {P : Nat → Prop} {w : World} : ∀ (e : ElB) (b o : Nat), ElIn Q P w e b o → ElIn Q (fun b => P b ∧ b < w.heap.size) w e b o
  | .mk kd sp nm ats tx ks, b, o, h => by
    unfold ElIn at h ⊢
    obtain ⟨c0, c1, c2, c3, c4, ka, kc, c5, hk⟩ := h
    refine ⟨c0, c1, c2, c3, c4, ka, kc, c5, ?_⟩
    rcases hk with h0 | ⟨kb, ko, e, hp, hk⟩
    · exact .inl h0
    · by_cases hz : ks.length = 0
      · exact .inl hz
      · exact .inr ⟨kb, ko, e, ⟨hp, ElsIn.lt hz hk⟩, ElsIn.lts ks kb ko hk⟩
theorem ElsIn.lts {Q : World → Value → List AttrB → Prop} {P : Nat → Prop} {w : World} : ∀ (es : List ElB) (b o : Nat), ElsIn Q P w es b o → ElsIn Q (fun b => P b ∧ b < w.heap.size) w es b o
  | [], _, _, _ => by unfold ElsIn; trivial
  | e :: es, b, o, h => by
    unfold ElsIn at h ⊢
    exact ⟨ElIn.lts e b o h.1, ElsIn.lts es b (o + 6) h.2⟩
end
theorem ElV.lts {Q : World → Value → List AttrB → Prop} {P : Nat → Prop} {w : World} {v : Value} {e : ElB} (h : ElV Q P w v e) : ElV Q (fun b => P b ∧ b < w.heap.size) w v e := by
  obtain ⟨kd, sp, nm, ats, tx, ks⟩ := e
  obtain ⟨av, ka, kc, e, hq, hk⟩ := h
  refine ⟨av, ka, kc, e, hq, ?_⟩
  rcases hk with h0 | ⟨kb, ko, e, hp, hk⟩
  · exact .inl h0
  · by_cases hz : ks.length = 0
    · exact .inl hz
    · exact .inr ⟨kb, ko, e, ⟨hp, ElsIn.lt hz hk⟩, ElsIn.lts ks kb ko hk⟩

end Go.Proofs.YthipdkagkdnaiaaGreatDoor.Sg

namespace Go.Proofs.YthipdkagkdnaiaaGreatDoor.Sg

/-- Strict by itself. -/
def aloneK : ElB → Bool
  | .mk kd sp nm ats tx ks => okSelf kd sp nm ats tx ks.length
/-- A row is strict; the one ahead of it is a text, or not. -/
def rowOk : Bool → List ElB → Bool
  | _, [] => true
  | bt, e :: es => (aloneK e && !(decide (kindE e = 2) && bt)) && rowOk (decide (kindE e = 2)) es
theorem rowOk_drop (es : List ElB) (k : Nat) (h : k < es.length) (bt : Bool) : rowOk bt (es.drop k) = ((aloneK (es[k]'h) && !(decide (kindE (es[k]'h) = 2) && bt)) && rowOk (decide (kindE (es[k]'h) = 2)) (es.drop (k + 1))) := by
  rw [List.drop_eq_getElem_cons h, rowOk]
def goodR (r : List ElB × Nat) : Bool := decide (r.2 ≤ 60) && rowOk false r.1
mutual
/-- The rows within are good. -/
def dgE (d : Nat) : ElB → Bool
  | .mk _ _ _ _ _ ks => decide (ks.length = 0) || (goodR (ks, d) && dgEs (d + 1) ks)
def dgEs (d : Nat) : List ElB → Bool
  | [] => true
  | e :: es => dgE d e && dgEs d es
end
def dgR (r : List ElB × Nat) : Bool := goodR r && dgEs (r.2 + 1) r.1
theorem dgE_kids (d : Nat) (e : ElB) : dgE d e = (decide ((kidsE e).length = 0) || dgR (kidsE e, d)) := by
  obtain ⟨kd, sp, nm, ats, tx, ks⟩ := e
  rw [dgE, kidsE]
  rfl
theorem dg_push (d : Nat) : ∀ els : List ElB, (pushP d els).all dgR = dgEs d els
  | [] => by rw [pushP, dgEs]; rfl
  | e :: es => by
    rw [pushP, dgEs, ← dg_push d es, dgE_kids]
    split
    · rename_i h
      rw [decide_eq_true h]
      rfl
    · rename_i h
      rw [decide_eq_false h, List.all_cons]
      rfl
theorem vis_good {st ys : List (List ElB × Nat)} (h : Vis st ys) : ys.all goodR = st.all dgR := by
  induction h with
  | nil => rfl
  | pop st r ys _ ih =>
    rw [List.all_cons, ih, List.all_append, List.all_append, dg_push]
    show _ = (st.all dgR && (dgR r && true))
    unfold dgR
    generalize goodR r = a
    generalize st.all (fun r => goodR r && dgEs (r.2 + 1) r.1) = b
    generalize dgEs (r.2 + 1) r.1 = c
    cases a <;> cases b <;> cases c <;> rfl
theorem okE_alone (e : ElB) : okE e = (okEs 0 (kidsE e) && aloneK e) := by
  obtain ⟨kd, sp, nm, ats, tx, ks⟩ := e
  rw [okE, kidsE, aloneK]
theorem okEs_rows : ∀ (es : List ElB) (pk : Int), okEs pk es = true ↔ rowOk (decide (pk = 2)) es = true ∧ ∀ e ∈ es, okEs 0 (kidsE e) = true
  | [], pk => by simp [okEs, rowOk]
  | e :: es, pk => by
    rw [okEs, rowOk, Bool.and_eq_true, Bool.and_eq_true, Bool.and_eq_true, Bool.and_eq_true, okE_alone, Bool.and_eq_true, okEs_rows es (kindE e)]
    constructor
    · rintro ⟨⟨⟨h1, h2⟩, h3⟩, h4, h5⟩
      refine ⟨⟨⟨h2, h3⟩, h4⟩, fun x hx => ?_⟩
      rcases List.mem_cons.1 hx with rfl | hx
      · exact h1
      · exact h5 x hx
    · rintro ⟨⟨⟨h2, h3⟩, h4⟩, h5⟩
      exact ⟨⟨⟨h5 e List.mem_cons_self, h2⟩, h3⟩, h4, fun x hx => h5 x (List.mem_cons_of_mem _ hx)⟩
theorem elsD_at : ∀ (es : List ElB) (n : Nat), elsD es ≤ n ↔ ∀ e ∈ es, elD e ≤ n
  | [], n => by simp [elsD]
  | e :: es, n => by
    rw [elsD, Nat.max_le, elsD_at es n]
    constructor
    · rintro ⟨h1, h2⟩ x hx
      rcases List.mem_cons.1 hx with rfl | hx
      · exact h1
      · exact h2 x hx
    · intro h
      exact ⟨h e List.mem_cons_self, fun x hx => h x (List.mem_cons_of_mem _ hx)⟩
mutual
theorem dgE_iff : ∀ (e : ElB) (d : Nat), dgE d e = true ↔ (kidsE e = [] ∨ d + elsD (kidsE e) ≤ 61) ∧ okEs 0 (kidsE e) = true
  | .mk kd sp nm ats tx ks, d => by
    have ih := dgEs_iff ks (d + 1)
    rw [dgE, kidsE]
    by_cases h0 : ks = []
    · subst h0
      simp [okEs]
    · have hl : ks.length ≠ 0 := fun h => h0 (List.length_eq_zero_iff.1 h)
      rw [decide_eq_false hl, Bool.false_or, Bool.and_eq_true, ih, okEs_rows]
      unfold goodR
      rw [Bool.and_eq_true, decide_eq_true_iff]
      obtain ⟨x, xs, rfl⟩ := List.exists_cons_of_ne_nil h0
      have hd : ∀ n, elsD (x :: xs) ≤ n ↔ ∀ e ∈ x :: xs, elD e ≤ n := elsD_at (x :: xs)
      have h1 : 1 ≤ elsD (x :: xs) := by
        rw [elsD]
        have := elD_kids x
        omega
      constructor
      · rintro ⟨⟨a1, a2⟩, a3⟩
        refine ⟨.inr ?_, a2, fun e he => (a3 e he).2⟩
        have : elsD (x :: xs) ≤ 61 - d := (hd _).2 fun e he => by
          have := elD_kids e
          rcases (a3 e he).1 with h | h
          · rw [h, elsD] at this
            omega
          · omega
        omega
      · rintro ⟨a1, a2, a3⟩
        rcases a1 with a1 | a1
        · exact absurd a1 h0
        · refine ⟨⟨by omega, a2⟩, fun e he => ⟨.inr ?_, a3 e he⟩⟩
          have := (hd (61 - d)).1 (by omega) e he
          have := elD_kids e
          omega
theorem dgEs_iff : ∀ (es : List ElB) (d : Nat), dgEs d es = true ↔ ∀ e ∈ es, (kidsE e = [] ∨ d + elsD (kidsE e) ≤ 61) ∧ okEs 0 (kidsE e) = true
  | [], d => by simp [dgEs]
  | e :: es, d => by
    have h1 := dgE_iff e d
    have h2 := dgEs_iff es d
    rw [dgEs, Bool.and_eq_true, h1, h2]
    constructor
    · rintro ⟨a, b⟩ x hx
      rcases List.mem_cons.1 hx with rfl | hx
      · exact a
      · exact b x hx
    · intro h
      exact ⟨h e List.mem_cons_self, fun x hx => h x (List.mem_cons_of_mem _ hx)⟩
end
/-- One element is strict just where all rows that come of it are good. -/
theorem strict_rows {z : ElB} {ys : List (List ElB × Nat)} (h : Vis [([z], 1)] ys) : (decide (elD z ≤ 60) && okE z) = ys.all goodR := by
  rw [vis_good h, List.all_cons, List.all_nil, Bool.and_true]
  rw [Bool.eq_iff_iff, Bool.and_eq_true, decide_eq_true_iff]
  unfold dgR goodR
  rw [Bool.and_eq_true, Bool.and_eq_true, dgEs_iff, okE_alone, Bool.and_eq_true]
  have hk := elD_kids z
  have hr : rowOk false [z] = aloneK z := by
    rw [rowOk, rowOk]
    cases aloneK z <;> simp
  simp only [List.mem_singleton, forall_eq]
  rw [hr]
  constructor
  · rintro ⟨a, b, c⟩
    exact ⟨⟨rfl, c⟩, .inr (by omega), b⟩
  · rintro ⟨⟨_, c⟩, d, b⟩
    refine ⟨?_, b, c⟩
    rcases d with d | d
    · rw [d, elsD] at hk
      omega
    · omega

end Go.Proofs.YthipdkagkdnaiaaGreatDoor.Sg
