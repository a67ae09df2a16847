/- Contract of the model's PopTo. -/
import Derived.Test.YtlnegnikedinaaaCpPopP
namespace Go.Proofs.Ytlnegnikedinaaa.Sg
open Go.ChangeShapes Go.WideShapes Go.ChangeAt Go.RowKit

/-- The length of a slice that lies in a cell. -/
def lenAt (w : World) (b i : Nat) : Nat := match w.cell? ⟨b, i, none⟩ with
  | some (.slice _ n _) => n
  | _ => 0

set_option maxRecDepth 20000 in
set_option maxHeartbeats 16000000 in
theorem specPopTo (p : PgB) (k : Int) (x : Value) (B0 : Nat) (w : World) (hx : OwnPg w B0 x p) (hn : p.its.length ≤ 1073741824) (hat : ∀ t ∈ p.its, t.ats.length ≤ 1099511627776 ∧ t.kids.length ≤ 1099511627776) (ho : p.opn.length ≤ 1099511627776) (hf : p.fms.length ≤ 1099511627776) :
    Calls Try.prog 13 #[x, .int .i64 k] w fun e w' => ∃ x', e = .returned x' ∧ (∀ W, Kb w' W (fun b => b < w.heap.size) → PgAt W x' (popTo p k)) ∧ Below w.heap.size w w' := by
  obtain ⟨R, HR⟩ : ∃ R, Hid (popTo p k = R) := ⟨_, rfl⟩
  rw [HR.out]
  obtain ⟨iv, ov, fv, rfl, hx⟩ := hx
  have Hcp : Hid (∀ W, Below w.heap.size w W → Calls Try.prog 32 #[.agg #[iv, ov, fv, .int .i64 p.hd, .int .i64 p.bd]] W fun e w' => ∃ iv' ov' fv', e = .returned (.agg #[iv', ov', fv', .int .i64 p.hd, .int .i64 p.bd]) ∧ OwnIts w' W.heap.size iv' p.its ∧ RmLate W.heap.size w' ov' p.opn ∧ RmLate W.heap.size w' fv' p.fms ∧ Below W.heap.size W w') := fun W hW => by
    obtain ⟨L, h1, h2, h3, h4, h5, _⟩ := hx.keep hW
    exact specCopyPage p iv ov fv B0 W ⟨L, h1, h2, h3⟩ (ints_of_own h4) (ints_of_own h5) hn hat ho hf
  obtain ⟨ia, ic, oa, oc, fa, fc, e0, _⟩ := pg_of_own ⟨_, _, _, rfl, hx⟩
  obtain ⟨rfl, rfl, rfl⟩ : iv = .slice ia p.its.length ic ∧ ov = .slice oa p.opn.length oc ∧ fv = .slice fa p.fms.length fc := by
    simpa using e0
  clear hx hat e0
  go_enter Try.func13, Try.ntmps13
  go_wp2_with fail
  refine (Hcp.out _ (((Below.refl _ _).alloc (Nat.le_refl _) _).alloc (by simp) _)).mono ?_
  rintro e w1 ⟨iv, ov, fv, rfl, oi, ro, rf, b1⟩
  have M := Many.new (w.alloc (.cells #[.slice ia p.its.length ic, .slice oa p.opn.length oc, .slice fa p.fms.length fc, .int .i64 p.hd, .int .i64 p.bd] 25)) [Value.slice none 0 0, .slice none 0 0, .slice none 0 0, .int .i64 0, .int .i64 0] 25 undef
  have HS := PoS.new (w := w) (t := 25) (by simp) (by simp) b1 (((Below.refl _ _).alloc (Nat.le_refl _) _).alloc (by simp) _) M oi ro rf
  have eA : (w.alloc (.cells #[.slice ia p.its.length ic, .slice oa p.opn.length oc, .slice fa p.fms.length fc, .int .i64 p.hd, .int .i64 p.bd] 25)).heap.size = w.heap.size + 1 := by simp
  rw [eA] at HS
  obtain ⟨ia', ic', rfl, _⟩ := its_of_own oi
  obtain ⟨oa', oc', rfl, _⟩ := ro.now
  obtain ⟨fa', fc', rfl, _⟩ := rf.now
  have HS : Hid (PoS _ _ _ _ _ _ _ _) := HS
  clear M oi ro rf b1 Hcp eA
  go_upto_region 2 with fail
  obtain ⟨W, HW⟩ : ∃ W, Hid (W = w1.alloc (.cells #[.slice ia' p.its.length ic', .slice oa' p.opn.length oc', .slice fa' p.fms.length fc', .int .i64 p.hd, .int .i64 p.bd] 25)) := ⟨_, rfl⟩
  rw [← HW.out] at HS ⊢
  clear HW
  generalize w.heap.size + 1 = c1 at *
  generalize w1.heap.size = c2 at *
  by_cases hk : k < 0
  · have hR : popTo p k = p := by unfold popTo; rw [if_pos hk]
    obtain rfl : p = R := hR.symm.trans HR.out
    clear hR HR
    obtain ⟨q0, q1, q2, q3, q4⟩ := HS.out.box.five
    obtain ⟨r0, r1, r2, r3, r4⟩ := HS.out.res.five
    have f0 := (HS.out.res.2 0 (by omega)).2
    have f1 := (HS.out.res.2 1 (by omega)).2
    have f2 := (HS.out.res.2 2 (by omega)).2
    have f3 := (HS.out.res.2 3 (by omega)).2
    have f4 := (HS.out.res.2 4 (by omega)).2
    have HL := HS.out.last
    clear HS
    go_wp2_with fail
    refine bodyPost_ret (v := .agg #[.slice ia' p.its.length ic', .slice oa' p.opn.length oc', .slice fa' p.fms.length fc', .int .i64 p.hd, .int .i64 p.bd]) ?_ rfl ⟨_, rfl, HL.1, HL.2⟩
    obtain ⟨s0, s1, s2, s3, s4⟩ := st5_all (W := W) (c := c1) (x0 := .slice ia' p.its.length ic') (x1 := .slice oa' p.opn.length oc') (x2 := .slice fa' p.fms.length fc') (x3 := .int .i64 p.hd) (x4 := .int .i64 p.bd) (fun i hi => match i, hi with | 0, _ => ⟨_, r0⟩ | 1, _ => ⟨_, r1⟩ | 2, _ => ⟨_, r2⟩ | 3, _ => ⟨_, r3⟩ | 4, _ => ⟨_, r4⟩)
    simp [results, Try.results13, go_sem, s0, s1, s2, s3, s4]
  · obtain ⟨K, rfl⟩ : ∃ K : Nat, k = (K : Int) := ⟨k.toNat, by omega⟩
    have hR : popTo p (K : Int) = popF (p.opn.length - K) p := by unfold popTo; rw [if_neg hk, Int.toNat_natCast]
    have HR : Hid (popF (p.opn.length - K) p = R) := hR.symm.trans HR.out
    clear hR hk
    have hk : ¬ (K : Int) < 0 := by omega
    go_wp2_with fail
    go_loopw [6] (fun _ wr => ∃ (q : PgB) (iv ov fv : Value), Hid (PoS w wr c1 c2 iv ov fv q) ∧ Hid (popF (q.opn.length - K) q = R) ∧ q.opn.length ≤ 1099511627776 ∧ q.fms.length ≤ 1099511627776) (fun _ wr => lenAt wr c2 1)
    case atStart => exact ⟨p, _, _, _, HS, HR, ho, hf⟩
    case round =>
      clear HS HR ho hf
      obtain ⟨q, iv, ov, fv, HS, HR, ho, hf⟩ := hrel
      obtain ⟨ia, ic, oa, oc, fa, fc, e0, _⟩ := HS.out.pg
      obtain ⟨rfl, rfl, rfl⟩ : iv = .slice ia q.its.length ic ∧ ov = .slice oa q.opn.length oc ∧ fv = .slice fa q.fms.length fc := by simpa using e0
      clear e0
      obtain ⟨q0, q1, q2, q3, q4⟩ := HS.out.box.five
      by_cases hlen : q.opn.length ≤ K
      · have hR' := HR.out
        rw [show q.opn.length - K = 0 by omega] at hR'
        obtain rfl : q = R := hR'
        have g : ¬ (K : Int) < (q.opn.length : Int) := by omega
        obtain ⟨r0, r1, r2, r3, r4⟩ := HS.out.res.five
        have f0 := (HS.out.res.2 0 (by omega)).2
        have f1 := (HS.out.res.2 1 (by omega)).2
        have f2 := (HS.out.res.2 2 (by omega)).2
        have f3 := (HS.out.res.2 3 (by omega)).2
        have f4 := (HS.out.res.2 4 (by omega)).2
        have HL := HS.out.last
        clear HS HR
        go_wp2_with fail
        refine bodyPost_ret (v := .agg #[.slice ia q.its.length ic, .slice oa q.opn.length oc, .slice fa q.fms.length fc, .int .i64 q.hd, .int .i64 q.bd]) ?_ rfl ⟨_, rfl, HL.1, HL.2⟩
        obtain ⟨s0, s1, s2, s3, s4⟩ := st5_all (W := wr) (c := c1) (x0 := .slice ia q.its.length ic) (x1 := .slice oa q.opn.length oc) (x2 := .slice fa q.fms.length fc) (x3 := .int .i64 q.hd) (x4 := .int .i64 q.bd) (fun i hi => match i, hi with | 0, _ => ⟨_, r0⟩ | 1, _ => ⟨_, r1⟩ | 2, _ => ⟨_, r2⟩ | 3, _ => ⟨_, r3⟩ | 4, _ => ⟨_, r4⟩)
        simp [results, Try.results13, go_sem, s0, s1, s2, s3, s4]
      · obtain ⟨m, hm⟩ : ∃ m, q.opn.length = m + 1 := ⟨q.opn.length - 1, by omega⟩
        have hKm : K ≤ m := by omega
        have HR2 : Hid (popF (m - K) (popS q) = R) := by
          have h := HR.out
          rw [hm, show m + 1 - K = (m - K) + 1 by omega] at h
          exact h
        have g : (K : Int) < (q.opn.length : Int) := by omega
        have g2 : IntKind.i64.wrap ((q.opn.length : Int) - 1) = (m : Int) := by rw [hm]; exact (IntWalk.i64_in _ (by omega)).trans (by omega)
        have Hm : Hid (q.opn.length = m + 1) := hm
        clear HR hm hlen
        go_wp2_with fail
        refine (specLast q _ _ HS.out.pg ho).mono ?_
        rintro e w2 ⟨rfl, b2⟩
        have HS2 : Hid (PoS w w2 c1 c2 _ _ _ q) := HS.out.keep b2
        have HM0 : Hid (lenAt wr c2 1 = m + 1) := by show _ = _; unfold lenAt; rw [q1]; exact Hm.out
        clear b2 q0 q1 q2 q3 q4 HS
        obtain ⟨q0, q1, q2, q3, q4⟩ := HS2.out.box.five
        have f1 := (HS2.out.box.2 1 (by omega)).2
        have f2 := (HS2.out.box.2 2 (by omega)).2
        have e1 : ((lastN q).toList == [116, 100]) = isT (lastN q) [116, 100] := rfl
        have e2 : ((lastN q).toList == [116, 104]) = isT (lastN q) [116, 104] := rfl
        have HC : Hid (isCell (lastN q) = (isT (lastN q) [116, 100] || isT (lastN q) [116, 104])) := rfl
        generalize isT (lastN q) [116, 100] = A at *
        generalize isT (lastN q) [116, 104] = B at *
        have HE : Hid (popS q = ⟨q.its, q.opn.take m, if isCell (lastN q) = true then unmarkL q.fms else q.fms, q.hd, q.bd⟩) := by
          show _ = _
          unfold popS
          rw [Hm.out]
          rfl
        rw [HC.out] at HE
        generalize lastN q = S at *
        clear HC
        cases A
        · cases B
          · rw [show (false || false) = false from rfl, if_neg (by decide)] at HE
            go_upto_region 8 with fail
            clear q0 q1 q2 q3 q4 f1 f2
            obtain ⟨W4, HW⟩ : ∃ W4, Hid (W4 = w2) := ⟨_, rfl⟩
            rw [← HW.out] at HS2 ⊢
            have HS4 : Hid (PoS w W4 c1 c2 (.slice ia q.its.length ic) (.slice oa q.opn.length oc) (.slice fa q.fms.length fc) ⟨q.its, q.opn, q.fms, q.hd, q.bd⟩) := HS2
            clear HS2 HW
            obtain ⟨q0, q1, q2, q3, q4⟩ := HS4.out.box.five
            have f1 := (HS4.out.box.2 1 (by omega)).2
            simp only at q3 q4
            obtain ⟨a0, c0, ez, hcap, hI⟩ := HS4.out.opn W4 (Kb.refl _ _)
            obtain ⟨rfl, rfl⟩ : oa = a0 ∧ oc = c0 := by simpa using ez
            clear ez
            rcases hI with h0 | ⟨b, off, rfl, hb, hcell⟩
            · exact absurd Hm.out (by simp only at h0; simp [h0])
            clear hb hcell
            have HRm : Hid (RmInts (W4.alloc (.cells #[] 3)) (.slice (some ⟨b, off, none⟩) m oc) (q.opn.take m)) := rm_take ((HS4.out.opn W4 (Kb.refl _ _)).keep (al_below _ _)) (by show m ≤ q.opn.length; rw [Hm.out]; omega)
            have HTl : Hid ((q.opn.take m).length = m) := by show _ = _; rw [List.length_take, Hm.out]; omega
            have hml : (q.opn.take m).length ≤ 1099511627776 := by rw [HTl.out]; have := Hm.out; omega
            have x3 : m ≤ oc := by simp only at hcap; have := Hm.out; omega
            have x1 : (m : Int) ≤ (oc : Int) := by omega
            have x2 : (0 : Int) ≤ (m : Int) := by omega
            clear hcap
            have qa1 := keep_cell (al_below W4 (.cells #[] 3)) q1
            go_wp2_with (first
              | (at_builtin; refine wpList_append_intsN _ rfl _ _ rfl _ rfl _ _ _ HTl.out rfl HRm.out hml ?_; intro xa xc w5 o5 b5; have HS5 : Hid (PoS w w5 c1 c2 _ _ _ _) := HS4.out.keep (below_then (al_below _ _) b5); have y1 := (HS5.out.box.2 1 (by omega)).1; have y2 := (HS5.out.box.2 1 (by omega)).2; simp only [List.getD_cons_zero, List.getD_cons_succ] at y1)
              | go_in)
            have HS6 : Hid (PoS w (w5.setCell ⟨c2, 1, none⟩ (.slice xa m xc)) c1 c2 _ (.slice xa m xc) _ ⟨q.its, q.opn.take m, q.fms, q.hd, q.bd⟩) := HS5.out.setO (x := .slice xa m xc) (zs := q.opn.take m) (fun W hW => o5 W (hW.more fun b hb => by have h1 := HS4.out.res.1; have h2 := HS4.out.box.1; have h3 := HS4.out.bel.size; rw [World.size_alloc]; rcases hb with h | h | h <;> omega))
            have HN : (popS q).opn.length = m := by rw [popS_opn, Hm.out]; omega
            go_roundw
            case rel =>
              have HS7 := HS6
              rw [← HE.out] at HS7
              exact ⟨popS q, _, _, _, HS7, (by show popF _ _ = _; rw [HN]; exact HR2.out), (by rw [HN]; have := Hm.out; omega), Nat.le_trans (popS_fms q) hf⟩
            case measure =>
              rw [HM0.out]
              have h := (HS6.out.box.2 1 (by omega)).1
              simp only [List.getD_cons_zero, List.getD_cons_succ] at h
              unfold lenAt
              rw [h]
              exact Nat.lt_succ_self m
          · rw [show (false || true) = true from rfl, if_pos rfl] at HE
            go_wp2_with fail
            refine (specUnmark q.fms _ w2 (HS2.out.fms w2 (Kb.refl _ _)) hf).mono ?_
            rintro e w3 ⟨v3, rfl, o3, b3⟩
            have HS3 : Hid (PoS w w3 c1 c2 _ _ _ q) := HS2.out.keep b3
            obtain ⟨fa2, fc2, rfl, _⟩ := o3.now
            have HS4 : Hid (PoS w (w3.setCell ⟨c2, 2, none⟩ (.slice fa2 (unmarkL q.fms).length fc2)) c1 c2 _ _ (.slice fa2 (unmarkL q.fms).length fc2) ⟨q.its, q.opn, unmarkL q.fms, q.hd, q.bd⟩) := HS3.out.setF (fun W hW => o3 W (hW.more fun b hb => by have h1 := HS2.out.res.1; have h2 := HS2.out.box.1; have h3 := HS2.out.bel.size; rcases hb with h | h | h <;> omega))
            clear q0 q1 q2 q3 q4 f1 f2 b3 o3
            have y1 := (HS3.out.box.2 2 (by omega)).1
            have y2 := (HS3.out.box.2 2 (by omega)).2
            simp only [List.getD_cons_zero, List.getD_cons_succ] at y1
            clear HS3 HS2
            go_upto_region 8 with fail
            generalize w3.setCell ⟨c2, 2, none⟩ (.slice fa2 (unmarkL q.fms).length fc2) = W4 at *
            clear y1 y2
            obtain ⟨q0, q1, q2, q3, q4⟩ := HS4.out.box.five
            have f1 := (HS4.out.box.2 1 (by omega)).2
            simp only at q3 q4
            obtain ⟨a0, c0, ez, hcap, hI⟩ := HS4.out.opn W4 (Kb.refl _ _)
            obtain ⟨rfl, rfl⟩ : oa = a0 ∧ oc = c0 := by simpa using ez
            clear ez
            rcases hI with h0 | ⟨b, off, rfl, hb, hcell⟩
            · exact absurd Hm.out (by simp only at h0; simp [h0])
            clear hb hcell
            have HRm : Hid (RmInts (W4.alloc (.cells #[] 3)) (.slice (some ⟨b, off, none⟩) m oc) (q.opn.take m)) := rm_take ((HS4.out.opn W4 (Kb.refl _ _)).keep (al_below _ _)) (by show m ≤ q.opn.length; rw [Hm.out]; omega)
            have HTl : Hid ((q.opn.take m).length = m) := by show _ = _; rw [List.length_take, Hm.out]; omega
            have hml : (q.opn.take m).length ≤ 1099511627776 := by rw [HTl.out]; have := Hm.out; omega
            have x3 : m ≤ oc := by simp only at hcap; have := Hm.out; omega
            have x1 : (m : Int) ≤ (oc : Int) := by omega
            have x2 : (0 : Int) ≤ (m : Int) := by omega
            clear hcap
            have qa1 := keep_cell (al_below W4 (.cells #[] 3)) q1
            go_wp2_with (first
              | (at_builtin; refine wpList_append_intsN _ rfl _ _ rfl _ rfl _ _ _ HTl.out rfl HRm.out hml ?_; intro xa xc w5 o5 b5; have HS5 : Hid (PoS w w5 c1 c2 _ _ _ _) := HS4.out.keep (below_then (al_below _ _) b5); have y1 := (HS5.out.box.2 1 (by omega)).1; have y2 := (HS5.out.box.2 1 (by omega)).2; simp only [List.getD_cons_zero, List.getD_cons_succ] at y1)
              | go_in)
            have HS6 : Hid (PoS w (w5.setCell ⟨c2, 1, none⟩ (.slice xa m xc)) c1 c2 _ (.slice xa m xc) _ ⟨q.its, q.opn.take m, unmarkL q.fms, q.hd, q.bd⟩) := HS5.out.setO (x := .slice xa m xc) (zs := q.opn.take m) (fun W hW => o5 W (hW.more fun b hb => by have h1 := HS4.out.res.1; have h2 := HS4.out.box.1; have h3 := HS4.out.bel.size; rw [World.size_alloc]; rcases hb with h | h | h <;> omega))
            have HN : (popS q).opn.length = m := by rw [popS_opn, Hm.out]; omega
            go_roundw
            case rel =>
              have HS7 := HS6
              rw [← HE.out] at HS7
              exact ⟨popS q, _, _, _, HS7, (by show popF _ _ = _; rw [HN]; exact HR2.out), (by rw [HN]; have := Hm.out; omega), Nat.le_trans (popS_fms q) hf⟩
            case measure =>
              rw [HM0.out]
              have h := (HS6.out.box.2 1 (by omega)).1
              simp only [List.getD_cons_zero, List.getD_cons_succ] at h
              unfold lenAt
              rw [h]
              exact Nat.lt_succ_self m
        · rw [Bool.true_or, if_pos rfl] at HE
          go_wp2_with fail
          refine (specUnmark q.fms _ w2 (HS2.out.fms w2 (Kb.refl _ _)) hf).mono ?_
          rintro e w3 ⟨v3, rfl, o3, b3⟩
          have HS3 : Hid (PoS w w3 c1 c2 _ _ _ q) := HS2.out.keep b3
          obtain ⟨fa2, fc2, rfl, _⟩ := o3.now
          have HS4 : Hid (PoS w (w3.setCell ⟨c2, 2, none⟩ (.slice fa2 (unmarkL q.fms).length fc2)) c1 c2 _ _ (.slice fa2 (unmarkL q.fms).length fc2) ⟨q.its, q.opn, unmarkL q.fms, q.hd, q.bd⟩) := HS3.out.setF (fun W hW => o3 W (hW.more fun b hb => by have h1 := HS2.out.res.1; have h2 := HS2.out.box.1; have h3 := HS2.out.bel.size; rcases hb with h | h | h <;> omega))
          clear q0 q1 q2 q3 q4 f1 f2 b3 o3
          have y1 := (HS3.out.box.2 2 (by omega)).1
          have y2 := (HS3.out.box.2 2 (by omega)).2
          simp only [List.getD_cons_zero, List.getD_cons_succ] at y1
          clear HS3 HS2
          go_upto_region 8 with fail
          generalize w3.setCell ⟨c2, 2, none⟩ (.slice fa2 (unmarkL q.fms).length fc2) = W4 at *
          clear y1 y2
          obtain ⟨q0, q1, q2, q3, q4⟩ := HS4.out.box.five
          have f1 := (HS4.out.box.2 1 (by omega)).2
          simp only at q3 q4
          obtain ⟨a0, c0, ez, hcap, hI⟩ := HS4.out.opn W4 (Kb.refl _ _)
          obtain ⟨rfl, rfl⟩ : oa = a0 ∧ oc = c0 := by simpa using ez
          clear ez
          rcases hI with h0 | ⟨b, off, rfl, hb, hcell⟩
          · exact absurd Hm.out (by simp only at h0; simp [h0])
          clear hb hcell
          have HRm : Hid (RmInts (W4.alloc (.cells #[] 3)) (.slice (some ⟨b, off, none⟩) m oc) (q.opn.take m)) := rm_take ((HS4.out.opn W4 (Kb.refl _ _)).keep (al_below _ _)) (by show m ≤ q.opn.length; rw [Hm.out]; omega)
          have HTl : Hid ((q.opn.take m).length = m) := by show _ = _; rw [List.length_take, Hm.out]; omega
          have hml : (q.opn.take m).length ≤ 1099511627776 := by rw [HTl.out]; have := Hm.out; omega
          have x3 : m ≤ oc := by simp only at hcap; have := Hm.out; omega
          have x1 : (m : Int) ≤ (oc : Int) := by omega
          have x2 : (0 : Int) ≤ (m : Int) := by omega
          clear hcap
          have qa1 := keep_cell (al_below W4 (.cells #[] 3)) q1
          go_wp2_with (first
            | (at_builtin; refine wpList_append_intsN _ rfl _ _ rfl _ rfl _ _ _ HTl.out rfl HRm.out hml ?_; intro xa xc w5 o5 b5; have HS5 : Hid (PoS w w5 c1 c2 _ _ _ _) := HS4.out.keep (below_then (al_below _ _) b5); have y1 := (HS5.out.box.2 1 (by omega)).1; have y2 := (HS5.out.box.2 1 (by omega)).2; simp only [List.getD_cons_zero, List.getD_cons_succ] at y1)
            | go_in)
          have HS6 : Hid (PoS w (w5.setCell ⟨c2, 1, none⟩ (.slice xa m xc)) c1 c2 _ (.slice xa m xc) _ ⟨q.its, q.opn.take m, unmarkL q.fms, q.hd, q.bd⟩) := HS5.out.setO (x := .slice xa m xc) (zs := q.opn.take m) (fun W hW => o5 W (hW.more fun b hb => by have h1 := HS4.out.res.1; have h2 := HS4.out.box.1; have h3 := HS4.out.bel.size; rw [World.size_alloc]; rcases hb with h | h | h <;> omega))
          have HN : (popS q).opn.length = m := by rw [popS_opn, Hm.out]; omega
          go_roundw
          case rel =>
            have HS7 := HS6
            rw [← HE.out] at HS7
            exact ⟨popS q, _, _, _, HS7, (by show popF _ _ = _; rw [HN]; exact HR2.out), (by rw [HN]; have := Hm.out; omega), Nat.le_trans (popS_fms q) hf⟩
          case measure =>
            rw [HM0.out]
            have h := (HS6.out.box.2 1 (by omega)).1
            simp only [List.getD_cons_zero, List.getD_cons_succ] at h
            unfold lenAt
            rw [h]
            exact Nat.lt_succ_self m

end Go.Proofs.Ytlnegnikedinaaa.Sg
