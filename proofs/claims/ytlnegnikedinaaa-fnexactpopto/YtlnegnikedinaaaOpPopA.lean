/- Contract of the program's popTo (into a box). -/
import Derived.Deep.RegionWith
import Derived.Deep.Cut
import Derived.Deep.CutRange
import Derived.Test.YtlnegnikedinaaaOpPopP
namespace Go.Proofs.Ytlnegnikedinaaa.Sg
open Go.ChangeShapes Go.WideShapes Go.ChangeAt Go.RowKit

set_option maxRecDepth 20000 in
set_option maxHeartbeats 16000000 in
theorem implPopInto (p : PgB) (iv ov fv : Value) (k : Int) (bp B : Nat) (w : World) (h : BxS w bp B iv ov fv p) (ho : p.opn.length ≤ 1099511627776) (hf : p.fms.length ≤ 1099511627776) :
    Calls Try.prog 37 #[.pointer (some ⟨bp, 0, none⟩), .int .i64 k] w fun e w' => (∃ v, e = .returned v) ∧ (∃ iv' ov' fv', BxS w' bp B iv' ov' fv' (popTo p k)) ∧ Kb w w' (fun b => b = bp) := by
  have HS : Hid (BxS w bp B iv ov fv p) := h
  obtain ⟨ia, ic, oa, oc, fa, fc, rfl, rfl, rfl⟩ := h.forms
  clear h
  by_cases hk : k < 0
  · have e : popTo p k = p := by unfold popTo; rw [if_pos hk]
    rw [e]
    go_enter Try.func37, Try.ntmps37
    go_wp2_with fail
    refine bodyPost_ret (results_none rfl _ _ _) rfl ?_
    exact ⟨⟨_, rfl⟩, ⟨_, _, _, HS.out⟩, Kb.refl _ _⟩
  · obtain ⟨K, rfl⟩ := Int.eq_ofNat_of_zero_le (show 0 ≤ k by omega)
    have e : popTo p (K : Int) = popF (p.opn.length - K) p := by unfold popTo; rw [if_neg hk, Int.toNat_natCast]
    rw [e]
    obtain ⟨R, HR⟩ : ∃ R, Hid (popF (p.opn.length - K) p = R) := ⟨_, rfl⟩
    rw [HR.out]
    have g1 : IntKind.i64.wrap ((p.opn.length : Int) - 1) = (p.opn.length : Int) - 1 := IntWalk.i64_in _ (by omega)
    have y1 := (HS.out.box.2 1 (by omega)).1
    simp at y1
    have hk0 : decide ((K : Int) < 0) = false := decide_eq_false hk
    go_enter Try.func37, Try.ntmps37
    go_wp2_with fail
    go_loopw [4] (fun lv wr => ∃ (q : PgB) (iv ov fv : Value), lv = .int .i64 ((q.opn.length : Int) - 1) ∧ q.opn.length ≤ 1099511627776 ∧ q.fms.length ≤ 1099511627776 ∧ Hid (popF (q.opn.length - K) q = R) ∧ Hid (BxS wr bp B iv ov fv q) ∧ Hid (Kb w wr (fun b => b = bp))) (fun lv _ => (intOf lv + 1).toNat)
    case atStart => exact ⟨p, _, _, _, rfl, ho, hf, HR, HS, Kb.refl _ _⟩
    case round =>
      clear HS HR ho hf y1 g1 e
      obtain ⟨q, iv, ov, fv, rfl, ho, hf, HR, HS, HK⟩ := hrel
      obtain ⟨ia, ic, oa, oc, fa, fc, rfl, rfl, rfl⟩ := HS.out.forms
      by_cases hlt : K < q.opn.length
      · obtain ⟨m, hm⟩ : ∃ m, q.opn.length = m + 1 := ⟨q.opn.length - 1, by omega⟩
        have Hm : Hid (q.opn.length = m + 1) := hm
        have hbp : bp < wr.heap.size := HS.out.box.1
        obtain ⟨g, rfl, hoc, hgw, cm⟩ : ∃ g, oa = some ⟨g, 0, none⟩ ∧ q.opn.length ≤ oc ∧ g < wr.heap.size ∧ wr.cell? ⟨g, m, none⟩ = some (.int .i64 (q.opn.getD m 0)) := by
          obtain ⟨L, _, _, _, h4, _⟩ := HS.out.own
          rcases h4.2 with ⟨_, h0⟩ | ⟨g, cap, cur, h1, _, _, h5, _⟩
          · omega
          · cases h1
            refine ⟨g, rfl, h5, (h4.lt g rfl).2, (own_cell h4 (j := m) (by omega)).1.trans ?_⟩
            unfold intCellsI
            rw [List.getElem?_map, List.getElem?_eq_getElem (by omega)]
            simp [List.getD, hm]
        have HC : Hid (∀ W, Below (wr.heap.size + 1) (wr.alloc (.cells #[.string ⟨#[116, 100]⟩, .string ⟨#[116, 104]⟩] 9)) W → Calls Try.prog 53 #[.agg #[.slice ia q.its.length ic, .slice (some ⟨g, 0, none⟩) q.opn.length oc, .slice fa q.fms.length fc, .int .i64 q.hd, .int .i64 q.bd], .int .i64 (q.opn.getD m 0), .slice (some ⟨wr.heap.size, 0, none⟩) 2 2] W fun e w' => e = .returned (.bool (isCell (lastN q))) ∧ Below wr.heap.size wr w') := fun W hW => by
          have h1 : Below wr.heap.size wr W := (alB wr _).trans (hW.mono (by omega))
          rw [← cell_named hm]
          refine (implIsNamed q _ _ wr.heap.size 2 2 _ W (HS.out.pg.keep h1) ?_ rfl (by decide)).mono fun e w' h => ⟨h.1, below_then h1 h.2⟩
          have h2 := Texts.laid wr [[116, 100], [116, 104]] #[.string ⟨#[116, 100]⟩, .string ⟨#[116, 104]⟩] 9 rfl
          exact h2.below (by omega) hW
        obtain ⟨y0, y1, y2, y3, y4⟩ := Many.five HS.out.box
        have em : (q.opn.length : Int) - 1 = (m : Int) := by omega
        have g0 : (0 : Int) ≤ (m : Int) := Int.natCast_nonneg m
        have g1 : (m : Int) < (q.opn.length : Int) := by omega
        have g2 : decide ((m : Int) ≥ (K : Int)) = true := decide_eq_true (by omega)
        have g3 : (K : Int) ≤ (m : Int) := by omega
        rw [em]
        obtain ⟨x, hx⟩ : ∃ x, q.opn.getD m 0 = x := ⟨_, rfl⟩
        rw [hx] at cm HC
        obtain ⟨c, hc⟩ : ∃ c, isCell (lastN q) = c := ⟨_, rfl⟩
        rw [hc] at HC
        have Hx : Hid (q.opn.getD m 0 = x) := hx
        have Hc : Hid (isCell (lastN q) = c) := hc
        clear hm hx hc em
        obtain ⟨O, HO⟩ : ∃ O, Hid (q.opn.length = O) := ⟨_, rfl⟩
        obtain ⟨N, HN⟩ : ∃ N, Hid (q.its.length = N) := ⟨_, rfl⟩
        obtain ⟨F, HF⟩ : ∃ F, Hid (q.fms.length = F) := ⟨_, rfl⟩
        simp only [HO.out, HN.out, HF.out] at ho hf hlt Hm HS HC hoc y0 y1 y2 g1 HR ⊢
        go_upto_region 4 with fail
        go_cut [29] from 13 to 51 (fun r wx => r = .bool c ∧ Below wr.heap.size wr wx)
        case first =>
          go_region_with (go_at_call 53; refine Calls.mono (HC.out _ (by first | exact Below.refl _ _ | exact (Below.refl _ _).drew | exact (Below.refl _ _).drew.drew | exact (Below.refl _ _).drew.drew.drew)) ?_; rintro e w' ⟨rfl, hb'⟩)
          all_goals (go_wp2_with fail; go_meet; case rel => exact ⟨rfl, by first | exact hb' | exact hb'.drew | exact hb'.drew.drew⟩)
        case rest =>
          obtain ⟨rfl, hbx⟩ := hcut
          have HSc : Hid (BxS wc bp B (.slice ia N ic) (.slice (some ⟨g, 0, none⟩) O oc) (.slice fa F fc) q) := HS.out.keep hbx
          have HKc : Hid (Kb w wc (fun b => b = bp)) := HK.out.trans (Kb.of_below hbx _)
          clear y0 y1 y2 y3 y4 cm hbp hgw HC HS HK hbx
          obtain ⟨y0, y1, y2, y3, y4⟩ := Many.five HSc.out.box
          have f1 := (HSc.out.box.2 1 (by omega)).2
          have f2 := (HSc.out.box.2 2 (by omega)).2
          have hmo : (m : Int) ≤ (oc : Int) := by omega
          have gw : IntKind.i64.wrap ((m : Int) - 1) = (m : Int) - 1 := IntWalk.i64_in _ (by omega)
          cases c with
          | true =>
            have hz1 := lastF_ge q.fms F
            have hz2 := lastF_le q.fms F
            obtain ⟨M, hM⟩ : ∃ M : Nat, (lastF q.fms F).toNat = M := ⟨_, rfl⟩
            have hMF : M ≤ F := by omega
            have Hun : Hid (unmarkL q.fms = q.fms.take M) := by
              show _ = _
              unfold unmarkL
              rw [HF.out, hM]
            have hfc : F ≤ fc := by
              obtain ⟨L, _, _, _, _, h5, _⟩ := HSc.out.own
              rcases h5.2 with ⟨h1, h0⟩ | ⟨_, cap, cur, h1, _, _, h6, _⟩
              · cases h1
                exact Nat.le_refl _
              · cases h1
                rw [HF.out] at h6
                exact h6
            have HL : Hid (∀ W, Below wc.heap.size wc W → Calls Try.prog 54 #[.agg #[.slice ia N ic, .slice (some ⟨g, 0, none⟩) O oc, .slice fa F fc, .int .i64 q.hd, .int .i64 q.bd]] W fun e w' => e = .returned (.int .i64 (lastF q.fms F)) ∧ (w'.cell? ⟨bp, 0, none⟩ = some (.slice ia N ic) ∧ w'.cell? ⟨bp, 1, none⟩ = some (.slice (some ⟨g, 0, none⟩) O oc) ∧ w'.cell? ⟨bp, 2, none⟩ = some (.slice fa F fc) ∧ w'.cell? ⟨bp, 3, none⟩ = some (.int .i64 q.hd) ∧ w'.cell? ⟨bp, 4, none⟩ = some (.int .i64 q.bd) ∧ w'.frozen? ⟨bp, 2, none⟩ = false) ∧ Below wc.heap.size wc w') := fun W hW => by
              have h := implLastMark q _ W ((HSc.out.keep hW).pg) (by rw [HF.out]; exact hf)
              rw [HF.out] at h
              refine h.mono fun e w' h => ⟨h.1, ?_, below_then hW h.2⟩
              have hb := below_then hW h.2
              exact ⟨keep_cell hb y0, keep_cell hb y1, keep_cell hb y2, keep_cell hb y3, keep_cell hb y4, (hb.frozen (p := ⟨bp, 2, none⟩) HSc.out.box.1).trans f2⟩
            have HW5 : Hid (∀ wx, Below wc.heap.size wc wx → BxS (wx.setCell ⟨bp, 2, none⟩ (.slice fa M fc)) bp B (.slice ia N ic) (.slice (some ⟨g, 0, none⟩) O oc) (.slice fa M fc) { q with fms := q.fms.take M } ∧ Kb w (wx.setCell ⟨bp, 2, none⟩ (.slice fa M fc)) (fun b => b = bp)) := fun wx hx =>
              ⟨(HSc.out.keep hx).cutF HF.out hMF, (HKc.out.trans (Kb.of_below hx _)).trans (kb_set _ _ _ _ rfl)⟩
            have hmax : (if lastF q.fms F < 0 then (0 : Int) else lastF q.fms F) = (M : Int) := by split <;> omega
            have hmax2 : (if 0 > lastF q.fms F then (0 : Int) else lastF q.fms F) = (M : Int) := hmax
            have hsl : sliced fa 0 M fc 1 = .slice fa M fc := by
              obtain ⟨L, _, _, _, _, h5, _⟩ := HSc.out.own
              rcases h5.2 with ⟨h1, h0⟩ | ⟨_, cap, cur, h1, _⟩
              · cases h1
                rw [HF.out] at h0
                have : M = 0 := by omega
                subst this
                rfl
              · cases h1
                simp [sliced, Addr.add]
            have gM0 : (0 : Int) ≤ (M : Int) := Int.natCast_nonneg M
            have gM1 : (M : Int) ≤ (fc : Int) := by omega
            generalize lastF q.fms F = z at *
            clear HSc HKc hz1 hz2 hM hMF hfc
            go_upto_region 5 with fail
            go_cut [29] from 13 to 51 (fun r wx => r = .bool true ∧ (∃ wy, wx = wy.setCell ⟨bp, 2, none⟩ (.slice fa M fc) ∧ Below wc.heap.size wc wy))
            case first =>
              go_region_with (go_at_call 54; refine Calls.mono (HL.out _ (by first | exact Below.refl _ _ | exact (Below.refl _ _).drew | exact (Below.refl _ _).drew.drew | exact (Below.refl _ _).drew.drew.drew)) ?_; rintro e w' ⟨rfl, ⟨z0, z1, z2, z3, z4, z5⟩, hb'⟩)
              all_goals (go_wp2_with fail; go_meet; case rel => exact ⟨rfl, _, rfl, by first | exact hb' | exact hb'.drew | exact hb'.drew.drew⟩)
            case rest =>
              obtain ⟨rfl, wy, hwx, hby⟩ := hcut
              obtain ⟨HSx, HKx⟩ := HW5.out wy hby
              rw [← hwx] at HSx HKx
              clear hwx hby HW5 HL y0 y1 y2 y3 y4 f1 f2 hsl hmax hmax2
              obtain ⟨y0, y1, y2, y3, y4⟩ := Many.five HSx.box
              have f1 := (HSx.box.2 1 (by omega)).2
              have S6 : Hid (BxS (wc.setCell ⟨bp, 1, none⟩ (.slice (some ⟨g, 0, none⟩) m oc)) bp B (.slice ia N ic) (.slice (some ⟨g, 0, none⟩) m oc) (.slice fa M fc) (popS q)) := by
                have h := HSx.cutO HO.out (m := m) (by omega)
                have e : popS q = { q with fms := q.fms.take M, opn := q.opn.take m } := by
                  unfold popS
                  rw [if_pos Hc.out, HO.out, show O - 1 = m by have := Hm.out; omega, Hun.out]
                rw [e]
                exact h
              have K6 : Hid (Kb w (wc.setCell ⟨bp, 1, none⟩ (.slice (some ⟨g, 0, none⟩) m oc)) (fun b => b = bp)) := HKx.trans (kb_set _ _ _ _ rfl)
              have e1 : (popS q).opn.length = m := by have := Hm.out; rw [popS_opn, HO.out]; omega
              have E1 : Hid ((popS q).opn.length = m) := e1
              have hf' : (popS q).fms.length ≤ 1099511627776 := Nat.le_trans (popS_fms q) (by rw [HF.out]; exact hf)
              have R6 : Hid (popF ((popS q).opn.length - K) (popS q) = R) := by rw [← popF_step (by rw [HO.out]; omega), HO.out]; exact HR.out
              clear e1 HSx HKx
              go_wp2_with fail
              go_roundw
              case rel => exact ⟨popS q, _, _, _, by rw [E1.out], by rw [E1.out]; omega, hf', R6, S6, K6⟩
              case measure => simp [intOf]
          | false =>
            have S6 : Hid (BxS (wc.setCell ⟨bp, 1, none⟩ (.slice (some ⟨g, 0, none⟩) m oc)) bp B (.slice ia N ic) (.slice (some ⟨g, 0, none⟩) m oc) (.slice fa F fc) (popS q)) := by
              have h := HSc.out.cutO HO.out (m := m) (by omega)
              have e : popS q = { q with opn := q.opn.take m } := by
                unfold popS
                rw [if_neg (by rw [Hc.out]; decide), HO.out, show O - 1 = m by have := Hm.out; omega]
              rw [e]
              exact h
            have K6 : Hid (Kb w (wc.setCell ⟨bp, 1, none⟩ (.slice (some ⟨g, 0, none⟩) m oc)) (fun b => b = bp)) := HKc.out.trans (kb_set _ _ _ _ rfl)
            have e1 : (popS q).opn.length = m := by have := Hm.out; rw [popS_opn, HO.out]; omega
            have E1 : Hid ((popS q).opn.length = m) := e1
            have hf' : (popS q).fms.length ≤ 1099511627776 := Nat.le_trans (popS_fms q) (by rw [HF.out]; exact hf)
            have R6 : Hid (popF ((popS q).opn.length - K) (popS q) = R) := by rw [← popF_step (by rw [HO.out]; omega), HO.out]; exact HR.out
            clear e1
            go_wp2_with fail
            go_roundw
            case rel => exact ⟨popS q, _, _, _, by rw [E1.out], by rw [E1.out]; omega, hf', R6, S6, K6⟩
            case measure => simp [intOf]
      · have g2 : decide ((q.opn.length : Int) - 1 ≥ (K : Int)) = false := decide_eq_false (by omega)
        have e : R = q := by rw [← HR.out]; exact popF_end (by omega)
        have He : Hid (R = q) := e
        clear e
        go_wp2_with fail
        go_end0
        exact ⟨⟨_, rfl⟩, ⟨_, _, _, by rw [He.out]; exact HS.out⟩, HK.out⟩

end Go.Proofs.Ytlnegnikedinaaa.Sg
