/- A page in a box, its lists owned. -/
import Derived.Test.YtlnegnikedinaaaOpH
namespace Go.Proofs.Ytlnegnikedinaaa.Sg
open Go.ChangeShapes Go.WideShapes Go.ChangeAt Go.RowKit

/-- A part of an owned row, from its beginning on. -/
theorem own_take {w : World} {B : Nat} {a : Option Addr} {n c m : Nat} {zs : List Int} {e : TypeId} (h : w.ownsRow B e 1 (.slice a n c) n (intCellsI zs)) (hm : m ≤ n) : w.ownsRow B e 1 (.slice a m c) m (intCellsI (zs.take m)) := by
  obtain ⟨h1, h2⟩ := h
  have hz : zs.length = n := by simpa [intCellsI] using h1
  refine ⟨by simp [intCellsI]; omega, ?_⟩
  rcases h2 with ⟨h2, h0⟩ | ⟨g, cap, cur, h2, h3, h4, h5, h6, h7, h8⟩
  · left
    cases h2
    exact ⟨by rw [show m = 0 by omega], by omega⟩
  · right
    cases h2
    refine ⟨g, c, cur, rfl, h3, h4, by omega, h6, h7, ?_⟩
    have e1 : intCellsI (zs.take m) = (intCellsI zs).take m := by simp [intCellsI, List.map_take]
    rw [e1, ← h8, List.take_take]
    congr 1
    omega
theorem own_block {a : Option Addr} {n c m : Nat} : (Value.slice a m c).ownBlock = (Value.slice a n c).ownBlock := by cases a <;> rfl

/-- A page in a box. -/
structure BxS (wr : World) (bp B : Nat) (iv ov fv : Value) (q : PgB) : Prop where
  box : Many 5 wr bp (fun i => [iv, ov, fv, .int .i64 q.hd, .int .i64 q.bd].getD i undef)
  own : OwnPg3 wr B iv ov fv q
  low : bp < B

theorem OwnPg3.kb {w w' : World} {B : Nat} {iv ov fv : Value} {p : PgB} (h : OwnPg3 w B iv ov fv p) (hk : Kb w w' (fun b => b < B)) : OwnPg3 w' B iv ov fv p := by
  obtain ⟨L, h1, h2, h3, h4, h5, h6⟩ := h
  exact ⟨L, h1, own_late h2 (Nat.le_refl _) hk, ⟨fun q hq => ⟨own_late (h3.1 q hq).1 (Nat.le_refl _) hk, own_late (h3.1 q hq).2 (Nat.le_refl _) hk⟩, h3.2⟩, own_late h4 (Nat.le_refl _) hk, own_late h5 (Nat.le_refl _) hk, h6⟩

theorem BxS.keep {wr wr' : World} {bp B : Nat} {iv ov fv : Value} {q : PgB} (h : BxS wr bp B iv ov fv q) (hb : Below wr.heap.size wr wr') : BxS wr' bp B iv ov fv q :=
  ⟨h.box.keep hb, h.own.keep hb, h.low⟩
theorem BxS.pg {wr : World} {bp B : Nat} {iv ov fv : Value} {q : PgB} (h : BxS wr bp B iv ov fv q) : PgAt wr (.agg #[iv, ov, fv, .int .i64 q.hd, .int .i64 q.bd]) q :=
  pg_of_own ⟨iv, ov, fv, rfl, h.own⟩
theorem BxS.forms {wr : World} {bp B : Nat} {iv ov fv : Value} {q : PgB} (h : BxS wr bp B iv ov fv q) : ∃ ia ic oa oc fa fc, iv = .slice ia q.its.length ic ∧ ov = .slice oa q.opn.length oc ∧ fv = .slice fa q.fms.length fc := by
  obtain ⟨ia, ic, oa, oc, fa, fc, e, _⟩ := h.pg
  injection e with e
  simp at e
  exact ⟨ia, ic, oa, oc, fa, fc, e.1, e.2.1, e.2.2⟩

/-- What is open is cut. -/
theorem BxS.cutO {wr : World} {bp B : Nat} {iv fv : Value} {oa : Option Addr} {n oc : Nat} {q : PgB} (h : BxS wr bp B iv (.slice oa n oc) fv q) (hn : q.opn.length = n) {m : Nat} (hm : m ≤ n) :
    BxS (wr.setCell ⟨bp, 1, none⟩ (.slice oa m oc)) bp B iv (.slice oa m oc) fv { q with opn := q.opn.take m } := by
  have k : Kb wr (wr.setCell ⟨bp, 1, none⟩ (.slice oa m oc)) (fun b => b < B) := kb_low _ h.low
  subst hn
  refine ⟨(h.box.set (i := 1) (.slice oa m oc)).cong fun i hi => ?_, ?_, h.low⟩
  · match i, hi with
    | 0, _ => rfl
    | 1, _ => rfl
    | 2, _ => rfl
    | 3, _ => rfl
    | 4, _ => rfl
  · obtain ⟨L, h1, h2, h3, h4, h5, h6, h7⟩ := h.own.kb k
    have hl : (q.opn.take m).length = m := by rw [List.length_take]; omega
    refine ⟨L, h1, h2, h3, ?_, h5, fun b hb => h6 b (by rw [← hb]; exact own_block), fun y hy b hb => ⟨fun e => (h7 y hy b hb).1 (by rw [← e]; exact own_block), (h7 y hy b hb).2⟩⟩
    show World.ownsRow _ _ _ _ _ (q.opn.take m).length _
    rw [hl]
    exact own_take h4 hm
/-- Formats are cut. -/
theorem BxS.cutF {wr : World} {bp B : Nat} {iv ov : Value} {fa : Option Addr} {n fc : Nat} {q : PgB} (h : BxS wr bp B iv ov (.slice fa n fc) q) (hn : q.fms.length = n) {m : Nat} (hm : m ≤ n) :
    BxS (wr.setCell ⟨bp, 2, none⟩ (.slice fa m fc)) bp B iv ov (.slice fa m fc) { q with fms := q.fms.take m } := by
  have k : Kb wr (wr.setCell ⟨bp, 2, none⟩ (.slice fa m fc)) (fun b => b < B) := kb_low _ h.low
  subst hn
  refine ⟨(h.box.set (i := 2) (.slice fa m fc)).cong fun i hi => ?_, ?_, h.low⟩
  · match i, hi with
    | 0, _ => rfl
    | 1, _ => rfl
    | 2, _ => rfl
    | 3, _ => rfl
    | 4, _ => rfl
  · obtain ⟨L, h1, h2, h3, h4, h5, h6, h7⟩ := h.own.kb k
    have hl : (q.fms.take m).length = m := by rw [List.length_take]; omega
    refine ⟨L, h1, h2, h3, h4, ?_, fun b hb e => h6 b hb (by rw [← e]; exact own_block), fun y hy b hb => ⟨(h7 y hy b hb).1, fun e => (h7 y hy b hb).2 (by rw [← e]; exact own_block)⟩⟩
    show World.ownsRow _ _ _ _ _ (q.fms.take m).length _
    rw [hl]
    exact own_take h5 hm

/-- Five cells are written: the box holds them. -/
theorem many_st5 {W : World} {c : Nat} {f : Nat → Value} (h : Many 5 W c f) (x0 x1 x2 x3 x4 : Value) :
    Many 5 (((((W.setCell ⟨c, 0, none⟩ x0).setCell ⟨c, 1, none⟩ x1).setCell ⟨c, 2, none⟩ x2).setCell ⟨c, 3, none⟩ x3).setCell ⟨c, 4, none⟩ x4) c (fun i => [x0, x1, x2, x3, x4].getD i undef) :=
  (((((h.set (i := 0) x0).set (i := 1) x1).set (i := 2) x2).set (i := 3) x3).set (i := 4) x4).cong fun i hi => by
    match i, hi with
    | 0, _ => rfl
    | 1, _ => rfl
    | 2, _ => rfl
    | 3, _ => rfl
    | 4, _ => rfl

end Go.Proofs.Ytlnegnikedinaaa.Sg
