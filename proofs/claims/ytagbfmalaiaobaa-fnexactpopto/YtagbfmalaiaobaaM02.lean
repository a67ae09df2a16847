/- Contract of the program's lastMark. The state of the program's popTo: a page in a box, its lists owned. Contract of the program's popTo (into a box). Contract of the program's PopTo. -/
import Derived.Test.YtagbfmalaiaobaaOpA
import Derived.Test.YtagbfmalaiaobaaOpB
import Derived.Test.YtagbfmalaiaobaaCpPopP
import Derived.Test.YtagbfmalaiaobaaM01
import Derived.Deep.RegionWith
import Derived.Deep.Cut
import Derived.Deep.CutRange
namespace Go.Proofs.Ytagbfmalaiaobaa.Sg
open Go.ChangeShapes Go.WideShapes Go.ChangeAt Go.RowKit

set_option maxHeartbeats 1000000 in
theorem implLastMark1 (x : Int) (W : World) : Calls Try.prog 89 #[.int .i64 x] W fun e W' => e = .returned (.bool (x == -1)) ∧ Below W.heap.size W W' := by
  cases e : (x == -1) with
  | true =>
    obtain rfl : x = -1 := eq_of_beq e
    go_enter Try.func89, Try.ntmps89
    go_wp2_with fail
    go_ret
    exact ⟨rfl, Below.refl _ _⟩
  | false =>
    have e' : ¬ x = -1 := fun h => by rw [h] at e; exact absurd e (by decide)
    go_enter Try.func89, Try.ntmps89
    go_wp2_with fail
    go_ret
    exact ⟨rfl, Below.refl _ _⟩

theorem lastQ_mark (zs : List Int) : ∀ n, lastQ zs (fun x => x == -1) n = lastF zs n
  | 0 => rfl
  | n + 1 => by
    unfold lastQ lastF
    rw [lastQ_mark zs n]
    simp only [beq_iff_eq]

set_option maxRecDepth 20000 in
set_option maxHeartbeats 4000000 in
theorem implLastMark (p : PgB) (v : Value) (w : World) (hv : PgAt w v p) (hf : p.fms.length ≤ 1099511627776) :
    Calls Try.prog 74 #[v] w fun e w' => e = .returned (.int .i64 (lastF p.fms p.fms.length)) ∧ Below w.heap.size w w' := by
  obtain ⟨ia, ic, oa, oc, fa, fc, rfl, _, _, ⟨hF, hf1⟩⟩ := hv
  have HI : Hid (∀ W, Below w.heap.size w W → Calls Try.prog 60 #[.slice fa p.fms.length fc, .func (.func 89) #[] #[]] W fun e w' => e = .returned (.int .i64 (lastF p.fms p.fms.length)) ∧ Below W.heap.size W w') := by
    intro W hW
    have h := implInnermost p.fms fa p.fms.length fc (fun x => x == -1) 89 #[] W (enters_of Try.func89 (by kernel_rfl) rfl) (fun W' x _ => implLastMark1 x W') (hF.below (Nat.le_refl _) hW) rfl hf
    rw [lastQ_mark] at h
    exact h
  clear hF hf1 hf
  generalize lastF p.fms p.fms.length = R at *
  generalize p.its.length = N at *
  generalize p.opn.length = O at *
  generalize p.fms.length = F at *
  go_enter Try.func74, Try.ntmps74
  go_wp2_with fail
  refine (HI.out _ (alB _ _)).mono ?_
  rintro e w1 ⟨rfl, b2⟩
  go_wp2_with fail
  go_ret
  exact ⟨rfl, below_then (alB _ _) b2⟩

end Go.Proofs.Ytagbfmalaiaobaa.Sg

namespace Go.Proofs.Ytagbfmalaiaobaa.Sg
open Go.ChangeShapes Go.WideShapes Go.ChangeAt Go.RowKit

/-- A part of an owned row, from its beginning on. -/
theorem own_take {w : World} {B : Nat} {a : Option Addr} {n c m : Nat} {zs : List Int} {e : TypeId} (h : w.ownsRow B e 1 (.slice a n c) n (intCellsI zs)) (hm : m ≤ n) : w.ownsRow B e 1 (.slice a m c) m (intCellsI (zs.take m)) := by
  obtain ⟨h1, h2⟩ := h
  have hz : zs.length = n := by simpa [intCellsI] using h1
  refine ⟨by simp [intCellsI]; omega, ?_⟩
  rcases h2 with ⟨h2, h0⟩ | ⟨g, cap, cur, h2, h3, h4, h5, h6, h7, h8⟩
  · left
    cases h2
    exact ⟨by rw [show m = 0 by omega], by omega⟩
  · right
    cases h2
    refine ⟨g, c, cur, rfl, h3, h4, by omega, h6, h7, ?_⟩
    have e1 : intCellsI (zs.take m) = (intCellsI zs).take m := by simp [intCellsI, List.map_take]
    rw [e1, ← h8, List.take_take]
    congr 1
    omega
theorem own_block {a : Option Addr} {n c m : Nat} : (Value.slice a m c).ownBlock = (Value.slice a n c).ownBlock := by cases a <;> rfl

/-- A page in a box. -/
structure BxS (wr : World) (bp B : Nat) (iv ov fv : Value) (q : PgB) : Prop where
  box : Many 5 wr bp (fun i => [iv, ov, fv, .int .i64 q.hd, .int .i64 q.bd].getD i undef)
  own : OwnPg3 wr B iv ov fv q
  low : bp < B

theorem OwnPg3.kb {w w' : World} {B : Nat} {iv ov fv : Value} {p : PgB} (h : OwnPg3 w B iv ov fv p) (hk : Kb w w' (fun b => b < B)) : OwnPg3 w' B iv ov fv p := by
  obtain ⟨L, h1, h2, h3, h4, h5, h6⟩ := h
  exact ⟨L, h1, own_late h2 (Nat.le_refl _) hk, ⟨fun q hq => ⟨own_late (h3.1 q hq).1 (Nat.le_refl _) hk, own_late (h3.1 q hq).2 (Nat.le_refl _) hk⟩, h3.2⟩, own_late h4 (Nat.le_refl _) hk, own_late h5 (Nat.le_refl _) hk, h6⟩

theorem BxS.keep {wr wr' : World} {bp B : Nat} {iv ov fv : Value} {q : PgB} (h : BxS wr bp B iv ov fv q) (hb : Below wr.heap.size wr wr') : BxS wr' bp B iv ov fv q :=
  ⟨h.box.keep hb, h.own.keep hb, h.low⟩
theorem BxS.pg {wr : World} {bp B : Nat} {iv ov fv : Value} {q : PgB} (h : BxS wr bp B iv ov fv q) : PgAt wr (.agg #[iv, ov, fv, .int .i64 q.hd, .int .i64 q.bd]) q :=
  pg_of_own ⟨iv, ov, fv, rfl, h.own⟩
theorem BxS.forms {wr : World} {bp B : Nat} {iv ov fv : Value} {q : PgB} (h : BxS wr bp B iv ov fv q) : ∃ ia ic oa oc fa fc, iv = .slice ia q.its.length ic ∧ ov = .slice oa q.opn.length oc ∧ fv = .slice fa q.fms.length fc := by
  obtain ⟨ia, ic, oa, oc, fa, fc, e, _⟩ := h.pg
  injection e with e
  simp at e
  exact ⟨ia, ic, oa, oc, fa, fc, e.1, e.2.1, e.2.2⟩

/-- What is open is cut. -/
theorem BxS.cutO {wr : World} {bp B : Nat} {iv fv : Value} {oa : Option Addr} {n oc : Nat} {q : PgB} (h : BxS wr bp B iv (.slice oa n oc) fv q) (hn : q.opn.length = n) {m : Nat} (hm : m ≤ n) :
    BxS (wr.setCell ⟨bp, 1, none⟩ (.slice oa m oc)) bp B iv (.slice oa m oc) fv { q with opn := q.opn.take m } := by
  have k : Kb wr (wr.setCell ⟨bp, 1, none⟩ (.slice oa m oc)) (fun b => b < B) := kb_low _ h.low
  subst hn
  refine ⟨(h.box.set (i := 1) (.slice oa m oc)).cong fun i hi => ?_, ?_, h.low⟩
  · match i, hi with
    | 0, _ => rfl
    | 1, _ => rfl
    | 2, _ => rfl
    | 3, _ => rfl
    | 4, _ => rfl
  · obtain ⟨L, h1, h2, h3, h4, h5, h6, h7⟩ := h.own.kb k
    have hl : (q.opn.take m).length = m := by rw [List.length_take]; omega
    refine ⟨L, h1, h2, h3, ?_, h5, fun b hb => h6 b (by rw [← hb]; exact own_block), fun y hy b hb => ⟨fun e => (h7 y hy b hb).1 (by rw [← e]; exact own_block), (h7 y hy b hb).2⟩⟩
    show World.ownsRow _ _ _ _ _ (q.opn.take m).length _
    rw [hl]
    exact own_take h4 hm
/-- Formats are cut. -/
theorem BxS.cutF {wr : World} {bp B : Nat} {iv ov : Value} {fa : Option Addr} {n fc : Nat} {q : PgB} (h : BxS wr bp B iv ov (.slice fa n fc) q) (hn : q.fms.length = n) {m : Nat} (hm : m ≤ n) :
    BxS (wr.setCell ⟨bp, 2, none⟩ (.slice fa m fc)) bp B iv ov (.slice fa m fc) { q with fms := q.fms.take m } := by
  have k : Kb wr (wr.setCell ⟨bp, 2, none⟩ (.slice fa m fc)) (fun b => b < B) := kb_low _ h.low
  subst hn
  refine ⟨(h.box.set (i := 2) (.slice fa m fc)).cong fun i hi => ?_, ?_, h.low⟩
  · match i, hi with
    | 0, _ => rfl
    | 1, _ => rfl
    | 2, _ => rfl
    | 3, _ => rfl
    | 4, _ => rfl
  · obtain ⟨L, h1, h2, h3, h4, h5, h6, h7⟩ := h.own.kb k
    have hl : (q.fms.take m).length = m := by rw [List.length_take]; omega
    refine ⟨L, h1, h2, h3, h4, ?_, fun b hb e => h6 b hb (by rw [← e]; exact own_block), fun y hy b hb => ⟨(h7 y hy b hb).1, fun e => (h7 y hy b hb).2 (by rw [← e]; exact own_block)⟩⟩
    show World.ownsRow _ _ _ _ _ (q.fms.take m).length _
    rw [hl]
    exact own_take h5 hm

theorem popF_end {q : PgB} {k : Nat} (h : q.opn.length ≤ k) : popF (q.opn.length - k) q = q := by
  rw [show q.opn.length - k = 0 by omega]
  rfl
theorem popF_step {q : PgB} {k : Nat} (h : k < q.opn.length) : popF (q.opn.length - k) q = popF ((popS q).opn.length - k) (popS q) := by
  rw [popS_opn, show q.opn.length - k = (q.opn.length - 1 - k) + 1 by omega]
  rfl
theorem cell_named {q : PgB} {m : Nat} (h : q.opn.length = m + 1) : namedB q (q.opn.getD m 0) [[116, 100], [116, 104]] = isCell (lastN q) := by
  rw [named_open (by omega) (by decide)]
  unfold isCell lastN
  rw [if_neg (by omega), show q.opn.length - 1 = m by omega]
  unfold isIn
  simp only [List.any_cons, List.any_nil, Bool.or_false, isT_swap]

end Go.Proofs.Ytagbfmalaiaobaa.Sg

namespace Go.Proofs.Ytagbfmalaiaobaa.Sg
open Go.ChangeShapes Go.WideShapes Go.ChangeAt Go.RowKit

set_option maxRecDepth 20000 in
set_option maxHeartbeats 16000000 in
theorem implPopInto (p : PgB) (iv ov fv : Value) (k : Int) (bp B : Nat) (w : World) (h : BxS w bp B iv ov fv p) (ho : p.opn.length ≤ 1099511627776) (hf : p.fms.length ≤ 1099511627776) :
    Calls Try.prog 46 #[.pointer (some ⟨bp, 0, none⟩), .int .i64 k] w fun e w' => (∃ v, e = .returned v) ∧ (∃ iv' ov' fv', BxS w' bp B iv' ov' fv' (popTo p k)) ∧ Kb w w' (fun b => b = bp) := by
  have HS : Hid (BxS w bp B iv ov fv p) := h
  obtain ⟨ia, ic, oa, oc, fa, fc, rfl, rfl, rfl⟩ := h.forms
  clear h
  by_cases hk : k < 0
  · have e : popTo p k = p := by unfold popTo; rw [if_pos hk]
    rw [e]
    go_enter Try.func46, Try.ntmps46
    go_wp2_with fail
    refine bodyPost_ret (results_none rfl _ _ _) rfl ?_
    exact ⟨⟨_, rfl⟩, ⟨_, _, _, HS.out⟩, Kb.refl _ _⟩
  · obtain ⟨K, rfl⟩ := Int.eq_ofNat_of_zero_le (show 0 ≤ k by omega)
    have e : popTo p (K : Int) = popF (p.opn.length - K) p := by unfold popTo; rw [if_neg hk, Int.toNat_natCast]
    rw [e]
    obtain ⟨R, HR⟩ : ∃ R, Hid (popF (p.opn.length - K) p = R) := ⟨_, rfl⟩
    rw [HR.out]
    have g1 : IntKind.i64.wrap ((p.opn.length : Int) - 1) = (p.opn.length : Int) - 1 := IntWalk.i64_in _ (by omega)
    have y1 := (HS.out.box.2 1 (by omega)).1
    simp at y1
    have hk0 : decide ((K : Int) < 0) = false := decide_eq_false hk
    go_enter Try.func46, Try.ntmps46
    go_wp2_with fail
    go_loopw [4] (fun lv wr => ∃ (q : PgB) (iv ov fv : Value), lv = .int .i64 ((q.opn.length : Int) - 1) ∧ q.opn.length ≤ 1099511627776 ∧ q.fms.length ≤ 1099511627776 ∧ Hid (popF (q.opn.length - K) q = R) ∧ Hid (BxS wr bp B iv ov fv q) ∧ Hid (Kb w wr (fun b => b = bp))) (fun lv _ => (intOf lv + 1).toNat)
    case atStart => exact ⟨p, _, _, _, rfl, ho, hf, HR, HS, Kb.refl _ _⟩
    case round =>
      clear HS HR ho hf y1 g1 e
      obtain ⟨q, iv, ov, fv, rfl, ho, hf, HR, HS, HK⟩ := hrel
      obtain ⟨ia, ic, oa, oc, fa, fc, rfl, rfl, rfl⟩ := HS.out.forms
      by_cases hlt : K < q.opn.length
      · obtain ⟨m, hm⟩ : ∃ m, q.opn.length = m + 1 := ⟨q.opn.length - 1, by omega⟩
        have Hm : Hid (q.opn.length = m + 1) := hm
        have hbp : bp < wr.heap.size := HS.out.box.1
        obtain ⟨g, rfl, hoc, hgw, cm⟩ : ∃ g, oa = some ⟨g, 0, none⟩ ∧ q.opn.length ≤ oc ∧ g < wr.heap.size ∧ wr.cell? ⟨g, m, none⟩ = some (.int .i64 (q.opn.getD m 0)) := by
          obtain ⟨L, _, _, _, h4, _⟩ := HS.out.own
          rcases h4.2 with ⟨_, h0⟩ | ⟨g, cap, cur, h1, _, _, h5, _⟩
          · omega
          · cases h1
            refine ⟨g, rfl, h5, (h4.lt g rfl).2, (own_cell h4 (j := m) (by omega)).1.trans ?_⟩
            unfold intCellsI
            rw [List.getElem?_map, List.getElem?_eq_getElem (by omega)]
            simp [List.getD, hm]
        have HC : Hid (∀ W, Below (wr.heap.size + 1) (wr.alloc (.cells #[.string ⟨#[116, 100]⟩, .string ⟨#[116, 104]⟩] 9)) W → Calls Try.prog 35 #[.agg #[.slice ia q.its.length ic, .slice (some ⟨g, 0, none⟩) q.opn.length oc, .slice fa q.fms.length fc, .int .i64 q.hd, .int .i64 q.bd], .int .i64 (q.opn.getD m 0), .slice (some ⟨wr.heap.size, 0, none⟩) 2 2] W fun e w' => e = .returned (.bool (isCell (lastN q))) ∧ Below wr.heap.size wr w') := fun W hW => by
          have h1 : Below wr.heap.size wr W := (alB wr _).trans (hW.mono (by omega))
          rw [← cell_named hm]
          refine (implIsNamed q _ _ wr.heap.size 2 2 _ W (HS.out.pg.keep h1) ?_ rfl (by decide)).mono fun e w' h => ⟨h.1, below_then h1 h.2⟩
          have h2 := Texts.laid wr [[116, 100], [116, 104]] #[.string ⟨#[116, 100]⟩, .string ⟨#[116, 104]⟩] 9 rfl
          exact h2.below (by omega) hW
        obtain ⟨y0, y1, y2, y3, y4⟩ := Many.five HS.out.box
        have em : (q.opn.length : Int) - 1 = (m : Int) := by omega
        have g0 : (0 : Int) ≤ (m : Int) := Int.natCast_nonneg m
        have g1 : (m : Int) < (q.opn.length : Int) := by omega
        have g2 : decide ((m : Int) ≥ (K : Int)) = true := decide_eq_true (by omega)
        have g3 : (K : Int) ≤ (m : Int) := by omega
        rw [em]
        obtain ⟨x, hx⟩ : ∃ x, q.opn.getD m 0 = x := ⟨_, rfl⟩
        rw [hx] at cm HC
        obtain ⟨c, hc⟩ : ∃ c, isCell (lastN q) = c := ⟨_, rfl⟩
        rw [hc] at HC
        have Hx : Hid (q.opn.getD m 0 = x) := hx
        have Hc : Hid (isCell (lastN q) = c) := hc
        clear hm hx hc em
        obtain ⟨O, HO⟩ : ∃ O, Hid (q.opn.length = O) := ⟨_, rfl⟩
        obtain ⟨N, HN⟩ : ∃ N, Hid (q.its.length = N) := ⟨_, rfl⟩
        obtain ⟨F, HF⟩ : ∃ F, Hid (q.fms.length = F) := ⟨_, rfl⟩
        simp only [HO.out, HN.out, HF.out] at ho hf hlt Hm HS HC hoc y0 y1 y2 g1 HR ⊢
        go_upto_region 4 with fail
        go_cut [29] from 13 to 51 (fun r wx => r = .bool c ∧ Below wr.heap.size wr wx)
        case first =>
          go_region_with (go_at_call 35; refine Calls.mono (HC.out _ (by first | exact Below.refl _ _ | exact (Below.refl _ _).drew | exact (Below.refl _ _).drew.drew | exact (Below.refl _ _).drew.drew.drew)) ?_; rintro e w' ⟨rfl, hb'⟩)
          all_goals (go_wp2_with fail; go_meet; case rel => exact ⟨rfl, by first | exact hb' | exact hb'.drew | exact hb'.drew.drew⟩)
        case rest =>
          obtain ⟨rfl, hbx⟩ := hcut
          have HSc : Hid (BxS wc bp B (.slice ia N ic) (.slice (some ⟨g, 0, none⟩) O oc) (.slice fa F fc) q) := HS.out.keep hbx
          have HKc : Hid (Kb w wc (fun b => b = bp)) := HK.out.trans (Kb.of_below hbx _)
          clear y0 y1 y2 y3 y4 cm hbp hgw HC HS HK hbx
          obtain ⟨y0, y1, y2, y3, y4⟩ := Many.five HSc.out.box
          have f1 := (HSc.out.box.2 1 (by omega)).2
          have f2 := (HSc.out.box.2 2 (by omega)).2
          have hmo : (m : Int) ≤ (oc : Int) := by omega
          have gw : IntKind.i64.wrap ((m : Int) - 1) = (m : Int) - 1 := IntWalk.i64_in _ (by omega)
          cases c with
          | true =>
            have hz1 := lastF_ge q.fms F
            have hz2 := lastF_le q.fms F
            obtain ⟨M, hM⟩ : ∃ M : Nat, (lastF q.fms F).toNat = M := ⟨_, rfl⟩
            have hMF : M ≤ F := by omega
            have Hun : Hid (unmarkL q.fms = q.fms.take M) := by
              show _ = _
              unfold unmarkL
              rw [HF.out, hM]
            have hfc : F ≤ fc := by
              obtain ⟨L, _, _, _, _, h5, _⟩ := HSc.out.own
              rcases h5.2 with ⟨h1, h0⟩ | ⟨_, cap, cur, h1, _, _, h6, _⟩
              · cases h1
                exact Nat.le_refl _
              · cases h1
                rw [HF.out] at h6
                exact h6
            have HL : Hid (∀ W, Below wc.heap.size wc W → Calls Try.prog 74 #[.agg #[.slice ia N ic, .slice (some ⟨g, 0, none⟩) O oc, .slice fa F fc, .int .i64 q.hd, .int .i64 q.bd]] W fun e w' => e = .returned (.int .i64 (lastF q.fms F)) ∧ (w'.cell? ⟨bp, 0, none⟩ = some (.slice ia N ic) ∧ w'.cell? ⟨bp, 1, none⟩ = some (.slice (some ⟨g, 0, none⟩) O oc) ∧ w'.cell? ⟨bp, 2, none⟩ = some (.slice fa F fc) ∧ w'.cell? ⟨bp, 3, none⟩ = some (.int .i64 q.hd) ∧ w'.cell? ⟨bp, 4, none⟩ = some (.int .i64 q.bd) ∧ w'.frozen? ⟨bp, 2, none⟩ = false) ∧ Below wc.heap.size wc w') := fun W hW => by
              have h := implLastMark q _ W ((HSc.out.keep hW).pg) (by rw [HF.out]; exact hf)
              rw [HF.out] at h
              refine h.mono fun e w' h => ⟨h.1, ?_, below_then hW h.2⟩
              have hb := below_then hW h.2
              exact ⟨keep_cell hb y0, keep_cell hb y1, keep_cell hb y2, keep_cell hb y3, keep_cell hb y4, (hb.frozen (p := ⟨bp, 2, none⟩) HSc.out.box.1).trans f2⟩
            have HW5 : Hid (∀ wx, Below wc.heap.size wc wx → BxS (wx.setCell ⟨bp, 2, none⟩ (.slice fa M fc)) bp B (.slice ia N ic) (.slice (some ⟨g, 0, none⟩) O oc) (.slice fa M fc) { q with fms := q.fms.take M } ∧ Kb w (wx.setCell ⟨bp, 2, none⟩ (.slice fa M fc)) (fun b => b = bp)) := fun wx hx =>
              ⟨(HSc.out.keep hx).cutF HF.out hMF, (HKc.out.trans (Kb.of_below hx _)).trans (kb_set _ _ _ _ rfl)⟩
            have hmax : (if lastF q.fms F < 0 then (0 : Int) else lastF q.fms F) = (M : Int) := by split <;> omega
            have hmax2 : (if 0 > lastF q.fms F then (0 : Int) else lastF q.fms F) = (M : Int) := hmax
            have hsl : sliced fa 0 M fc 1 = .slice fa M fc := by
              obtain ⟨L, _, _, _, _, h5, _⟩ := HSc.out.own
              rcases h5.2 with ⟨h1, h0⟩ | ⟨_, cap, cur, h1, _⟩
              · cases h1
                rw [HF.out] at h0
                have : M = 0 := by omega
                subst this
                rfl
              · cases h1
                simp [sliced, Addr.add]
            have gM0 : (0 : Int) ≤ (M : Int) := Int.natCast_nonneg M
            have gM1 : (M : Int) ≤ (fc : Int) := by omega
            generalize lastF q.fms F = z at *
            clear HSc HKc hz1 hz2 hM hMF hfc
            go_upto_region 5 with fail
            go_cut [29] from 13 to 51 (fun r wx => r = .bool true ∧ (∃ wy, wx = wy.setCell ⟨bp, 2, none⟩ (.slice fa M fc) ∧ Below wc.heap.size wc wy))
            case first =>
              go_region_with (go_at_call 74; refine Calls.mono (HL.out _ (by first | exact Below.refl _ _ | exact (Below.refl _ _).drew | exact (Below.refl _ _).drew.drew | exact (Below.refl _ _).drew.drew.drew)) ?_; rintro e w' ⟨rfl, ⟨z0, z1, z2, z3, z4, z5⟩, hb'⟩)
              all_goals (go_wp2_with fail; go_meet; case rel => exact ⟨rfl, _, rfl, by first | exact hb' | exact hb'.drew | exact hb'.drew.drew⟩)
            case rest =>
              obtain ⟨rfl, wy, hwx, hby⟩ := hcut
              obtain ⟨HSx, HKx⟩ := HW5.out wy hby
              rw [← hwx] at HSx HKx
              clear hwx hby HW5 HL y0 y1 y2 y3 y4 f1 f2 hsl hmax hmax2
              obtain ⟨y0, y1, y2, y3, y4⟩ := Many.five HSx.box
              have f1 := (HSx.box.2 1 (by omega)).2
              have S6 : Hid (BxS (wc.setCell ⟨bp, 1, none⟩ (.slice (some ⟨g, 0, none⟩) m oc)) bp B (.slice ia N ic) (.slice (some ⟨g, 0, none⟩) m oc) (.slice fa M fc) (popS q)) := by
                have h := HSx.cutO HO.out (m := m) (by omega)
                have e : popS q = { q with fms := q.fms.take M, opn := q.opn.take m } := by
                  unfold popS
                  rw [if_pos Hc.out, HO.out, show O - 1 = m by have := Hm.out; omega, Hun.out]
                rw [e]
                exact h
              have K6 : Hid (Kb w (wc.setCell ⟨bp, 1, none⟩ (.slice (some ⟨g, 0, none⟩) m oc)) (fun b => b = bp)) := HKx.trans (kb_set _ _ _ _ rfl)
              have e1 : (popS q).opn.length = m := by have := Hm.out; rw [popS_opn, HO.out]; omega
              have E1 : Hid ((popS q).opn.length = m) := e1
              have hf' : (popS q).fms.length ≤ 1099511627776 := Nat.le_trans (popS_fms q) (by rw [HF.out]; exact hf)
              have R6 : Hid (popF ((popS q).opn.length - K) (popS q) = R) := by rw [← popF_step (by rw [HO.out]; omega), HO.out]; exact HR.out
              clear e1 HSx HKx
              go_wp2_with fail
              go_roundw
              case rel => exact ⟨popS q, _, _, _, by rw [E1.out], by rw [E1.out]; omega, hf', R6, S6, K6⟩
              case measure => simp [intOf]
          | false =>
            have S6 : Hid (BxS (wc.setCell ⟨bp, 1, none⟩ (.slice (some ⟨g, 0, none⟩) m oc)) bp B (.slice ia N ic) (.slice (some ⟨g, 0, none⟩) m oc) (.slice fa F fc) (popS q)) := by
              have h := HSc.out.cutO HO.out (m := m) (by omega)
              have e : popS q = { q with opn := q.opn.take m } := by
                unfold popS
                rw [if_neg (by rw [Hc.out]; decide), HO.out, show O - 1 = m by have := Hm.out; omega]
              rw [e]
              exact h
            have K6 : Hid (Kb w (wc.setCell ⟨bp, 1, none⟩ (.slice (some ⟨g, 0, none⟩) m oc)) (fun b => b = bp)) := HKc.out.trans (kb_set _ _ _ _ rfl)
            have e1 : (popS q).opn.length = m := by have := Hm.out; rw [popS_opn, HO.out]; omega
            have E1 : Hid ((popS q).opn.length = m) := e1
            have hf' : (popS q).fms.length ≤ 1099511627776 := Nat.le_trans (popS_fms q) (by rw [HF.out]; exact hf)
            have R6 : Hid (popF ((popS q).opn.length - K) (popS q) = R) := by rw [← popF_step (by rw [HO.out]; omega), HO.out]; exact HR.out
            clear e1
            go_wp2_with fail
            go_roundw
            case rel => exact ⟨popS q, _, _, _, by rw [E1.out], by rw [E1.out]; omega, hf', R6, S6, K6⟩
            case measure => simp [intOf]
      · have g2 : decide ((q.opn.length : Int) - 1 ≥ (K : Int)) = false := decide_eq_false (by omega)
        have e : R = q := by rw [← HR.out]; exact popF_end (by omega)
        have He : Hid (R = q) := e
        clear e
        go_wp2_with fail
        go_end0
        exact ⟨⟨_, rfl⟩, ⟨_, _, _, by rw [He.out]; exact HS.out⟩, HK.out⟩

end Go.Proofs.Ytagbfmalaiaobaa.Sg

namespace Go.Proofs.Ytagbfmalaiaobaa.Sg
open Go.ChangeShapes Go.WideShapes Go.ChangeAt Go.RowKit

/-- Five cells are written: the box holds them. -/
theorem many_st5 {W : World} {c : Nat} {f : Nat → Value} (h : Many 5 W c f) (x0 x1 x2 x3 x4 : Value) :
    Many 5 (((((W.setCell ⟨c, 0, none⟩ x0).setCell ⟨c, 1, none⟩ x1).setCell ⟨c, 2, none⟩ x2).setCell ⟨c, 3, none⟩ x3).setCell ⟨c, 4, none⟩ x4) c (fun i => [x0, x1, x2, x3, x4].getD i undef) :=
  (((((h.set (i := 0) x0).set (i := 1) x1).set (i := 2) x2).set (i := 3) x3).set (i := 4) x4).cong fun i hi => by
    match i, hi with
    | 0, _ => rfl
    | 1, _ => rfl
    | 2, _ => rfl
    | 3, _ => rfl
    | 4, _ => rfl

set_option maxRecDepth 20000 in
set_option maxHeartbeats 8000000 in
theorem implPopTo (p : PgB) (v : Value) (k : Int) (B0 : Nat) (w : World) (hv : OwnPg w B0 v p) (hz : PgSize p) (hn : p.its.length ≤ 1073741824) :
    Calls Try.prog 18 #[v, .int .i64 k] w fun e w' => ∃ x', e = .returned x' ∧ OwnPg w' w.heap.size x' (popTo p k) ∧ Below w.heap.size w w' := by
  have HV : Hid (OwnPg w B0 v p) := hv
  obtain ⟨ia, ic, oa, oc, fa, fc, rfl, _⟩ := pg_of_own hv
  clear hv
  obtain ⟨W2, HW2⟩ : ∃ W2, Hid (W2 = ((w.alloc (.cells #[.slice ia p.its.length ic, .slice oa p.opn.length oc, .slice fa p.fms.length fc, .int .i64 p.hd, .int .i64 p.bd] 30)).alloc (.cells #[.slice none 0 0, .slice none 0 0, .slice none 0 0, .int .i64 0, .int .i64 0] 30))) := ⟨_, rfl⟩
  have M0 : Many 5 W2 w.heap.size (fun i => [Value.slice ia p.its.length ic, .slice oa p.opn.length oc, .slice fa p.fms.length fc, .int .i64 p.hd, .int .i64 p.bd].getD i undef) := by
    rw [HW2.out]
    exact (Many.new w [Value.slice ia p.its.length ic, .slice oa p.opn.length oc, .slice fa p.fms.length fc, .int .i64 p.hd, .int .i64 p.bd] 30 undef).below (B := w.heap.size + 1) (Nat.lt_succ_self _) ((Below.refl _ _).alloc (by simp) _)
  have M1 : Many 5 W2 (w.heap.size + 1) (fun i => [Value.slice none 0 0, .slice none 0 0, .slice none 0 0, .int .i64 0, .int .i64 0].getD i undef) := by
    rw [HW2.out]
    have h := Many.new (w.alloc (.cells #[.slice ia p.its.length ic, .slice oa p.opn.length oc, .slice fa p.fms.length fc, .int .i64 p.hd, .int .i64 p.bd] 30)) [Value.slice none 0 0, .slice none 0 0, .slice none 0 0, .int .i64 0, .int .i64 0] 30 undef
    rw [show (w.alloc (.cells #[.slice ia p.its.length ic, .slice oa p.opn.length oc, .slice fa p.fms.length fc, .int .i64 p.hd, .int .i64 p.bd] 30)).heap.size = w.heap.size + 1 by simp] at h
    exact h
  have B2 : Below w.heap.size w W2 := by rw [HW2.out]; exact ((Below.refl _ _).alloc (Nat.le_refl _) _).alloc (by simp) _
  have hs2 : W2.heap.size = w.heap.size + 1 + 1 := by rw [HW2.out]; simp
  have C1 := implCopyPage p _ B0 W2 (HV.out.keep B2) hn hz.2.1 hz.2.2.1 hz.2.2.2
  have HM0 : Hid (Many 5 W2 w.heap.size _) := M0
  have HM1 : Hid (Many 5 W2 (w.heap.size + 1) _) := M1
  have HB2 : Hid (Below w.heap.size w W2) := B2
  obtain ⟨R, HR⟩ : ∃ R, Hid (popTo p k = R) := ⟨_, rfl⟩
  rw [HR.out]
  clear M0 M1 B2
  go_enter Try.func18, Try.ntmps18
  go_wp2_with fail
  rw [← HW2.out]
  refine C1.mono ?_
  rintro e w1 ⟨x1, rfl, o1, b1⟩
  obtain ⟨ja, jc, na, nc, ma, mc, rfl, _⟩ := pg_of_own o1
  obtain ⟨jv, nv, mv, ej, o3⟩ := o1
  injection ej with ej
  simp at ej
  obtain ⟨rfl, rfl, rfl⟩ := ej
  have K0 := HM0.out.keep b1
  have K1 := HM1.out.keep b1
  obtain ⟨q0, q1, q2, q3, q4⟩ := Many.five K0
  have f0 := (K0.2 0 (by omega)).2
  have f1 := (K0.2 1 (by omega)).2
  have f2 := (K0.2 2 (by omega)).2
  have f3 := (K0.2 3 (by omega)).2
  have f4 := (K0.2 4 (by omega)).2
  clear C1
  go_upto_region 2 with fail
  obtain ⟨W3, HW3⟩ : ∃ W3, Hid (W3 = (((((w1.setCell ⟨w.heap.size, 0, none⟩ (.slice ja p.its.length jc)).setCell ⟨w.heap.size, 1, none⟩ (.slice na p.opn.length nc)).setCell ⟨w.heap.size, 2, none⟩ (.slice ma p.fms.length mc)).setCell ⟨w.heap.size, 3, none⟩ (.int .i64 p.hd)).setCell ⟨w.heap.size, 4, none⟩ (.int .i64 p.bd))) := ⟨_, rfl⟩
  rw [← HW3.out]
  have hs1 := b1.size
  have S3 : BxS W3 w.heap.size (w.heap.size + 1 + 1) (.slice ja p.its.length jc) (.slice na p.opn.length nc) (.slice ma p.fms.length mc) p := by
    rw [HW3.out]
    exact ⟨many_st5 K0 _ _ _ _ _, by rw [← hs2]; exact o3.kb (st5_kb (by omega)), by omega⟩
  have k13 : Kb w1 W3 (fun b => b = w.heap.size) := by
    rw [HW3.out]
    exact ((((kb_set _ _ _ _ (S := fun b => b = w.heap.size) rfl).trans (kb_set _ _ _ _ (S := fun b => b = w.heap.size) rfl)).trans (kb_set _ _ _ _ (S := fun b => b = w.heap.size) rfl)).trans (kb_set _ _ _ _ (S := fun b => b = w.heap.size) rfl)).trans (kb_set _ _ _ _ (S := fun b => b = w.heap.size) rfl)
  have N1 : Hid (Many 5 W3 (w.heap.size + 1) _) := K1.kb k13 (by omega)
  have HB3 : Hid (Below w.heap.size w W3 ∧ w.heap.size + 1 + 1 ≤ W3.heap.size) := ⟨(below_then HB2.out b1).trans (k13.below (by have := HB2.out.size; omega) fun b hb => by omega), by have := k13.size; omega⟩
  have C2 := implPopInto p _ _ _ k w.heap.size (w.heap.size + 1 + 1) W3 S3 hz.2.2.1 hz.2.2.2
  rw [HR.out] at C2
  clear HM0 HM1 HB2 K0 K1 q0 q1 q2 q3 q4 f0 f1 f2 f3 f4 hs1 hs2 S3 k13 o3 b1 HW3 HW2 HR
  go_wp2_with fail
  refine C2.mono ?_
  rintro e w4 ⟨⟨v4, rfl⟩, ⟨iv4, ov4, fv4, s4⟩, k4⟩
  obtain ⟨xa, xc, ya, yc, za, zc, rfl, rfl, rfl⟩ := s4.forms
  have K1 := N1.out.kb k4 (by omega)
  obtain ⟨q0, q1, q2, q3, q4⟩ := Many.five s4.box
  obtain ⟨r0, r1, r2, r3, r4⟩ := Many.five K1
  have f0 := (K1.2 0 (by omega)).2
  have f1 := (K1.2 1 (by omega)).2
  have f2 := (K1.2 2 (by omega)).2
  have f3 := (K1.2 3 (by omega)).2
  have f4 := (K1.2 4 (by omega)).2
  have HT : Hid _ := st5_all (W := w4) (c := w.heap.size + 1) (x0 := .slice xa R.its.length xc) (x1 := .slice ya R.opn.length yc) (x2 := .slice za R.fms.length zc) (x3 := .int .i64 R.hd) (x4 := .int .i64 R.bd) (fun i hi => ⟨_, (K1.2 i hi).1⟩)
  have HP : Hid (OwnPg (((((w4.setCell ⟨w.heap.size + 1, 0, none⟩ (.slice xa R.its.length xc)).setCell ⟨w.heap.size + 1, 1, none⟩ (.slice ya R.opn.length yc)).setCell ⟨w.heap.size + 1, 2, none⟩ (.slice za R.fms.length zc)).setCell ⟨w.heap.size + 1, 3, none⟩ (.int .i64 R.hd)).setCell ⟨w.heap.size + 1, 4, none⟩ (.int .i64 R.bd)) w.heap.size (.agg #[.slice xa R.its.length xc, .slice ya R.opn.length yc, .slice za R.fms.length zc, .int .i64 R.hd, .int .i64 R.bd]) R) :=
    ⟨_, _, _, rfl, (s4.own.kb (st5_kb (by omega))).base (by omega)⟩
  have HBF : Hid (Below w.heap.size w (((((w4.setCell ⟨w.heap.size + 1, 0, none⟩ (.slice xa R.its.length xc)).setCell ⟨w.heap.size + 1, 1, none⟩ (.slice ya R.opn.length yc)).setCell ⟨w.heap.size + 1, 2, none⟩ (.slice za R.fms.length zc)).setCell ⟨w.heap.size + 1, 3, none⟩ (.int .i64 R.hd)).setCell ⟨w.heap.size + 1, 4, none⟩ (.int .i64 R.bd))) :=
    st5_below (Nat.le_succ _) (HB3.out.1.trans (k4.below (by have := HB3.out.2; omega) fun b hb => by omega))
  have n01 : w.heap.size ≠ w.heap.size + 1 := by omega
  have n10 : w.heap.size + 1 ≠ w.heap.size := by omega
  clear K1 N1 HB3 s4 k4 C2
  generalize w.heap.size + 1 = c1 at *
  go_wp2_with fail
  refine bodyPost_ret (v := .agg #[.slice xa R.its.length xc, .slice ya R.opn.length yc, .slice za R.fms.length zc, .int .i64 R.hd, .int .i64 R.bd]) ?_ rfl ⟨_, rfl, HP.out, HBF.out⟩
  obtain ⟨t0, t1, t2, t3, t4⟩ := HT.out
  simp [results, Try.results18, go_sem, t0, t1, t2, t3, t4]

end Go.Proofs.Ytagbfmalaiaobaa.Sg
