/- What is left of a page when ones are closed, in plain terms; the state of the model's PopTo. -/
import Derived.Test.YtlnegnikedinaaaCpUnmark
import Derived.Test.YtlnegnikedinaaaCpPage
import Derived.Test.YtlnegnikedinaaaMDPopTo05
import Derived.Test.YtlnegnikedinaaaLwPgSt
namespace Go.Proofs.Ytlnegnikedinaaa.Sg
open Go.ChangeShapes Go.WideShapes Go.ChangeAt Go.RowKit

/-- A cell of a table. -/
def isCell (s : ByteArray) : Bool := isT s [116, 100] || isT s [116, 104]
/-- The innermost one is closed. -/
def popS (q : PgB) : PgB := { q with fms := if isCell (lastN q) = true then unmarkL q.fms else q.fms, opn := q.opn.take (q.opn.length - 1) }
def popF : Nat → PgB → PgB
  | 0, q => q
  | n + 1, q => popF n (popS q)
/-- As many are closed as leave k open. -/
def popTo (p : PgB) (k : Int) : PgB := if k < 0 then p else popF (p.opn.length - k.toNat) p

theorem unmarkL_le (zs : List Int) : (unmarkL zs).length ≤ zs.length := by
  unfold unmarkL
  rw [List.length_take]
  omega
theorem popS_opn (q : PgB) : (popS q).opn.length = q.opn.length - 1 := by
  show (q.opn.take (q.opn.length - 1)).length = _
  rw [List.length_take]
  omega
theorem popS_fms (q : PgB) : (popS q).fms.length ≤ q.fms.length := by
  show (if isCell (lastN q) = true then unmarkL q.fms else q.fms).length ≤ _
  split
  · exact unmarkL_le _
  · exact Nat.le_refl _

theorem Many.cong {n : Nat} {w : World} {b : Nat} {f g : Nat → Value} (h : Many n w b f) (e : ∀ i, i < n → f i = g i) : Many n w b g := ⟨h.1, fun i hi => ⟨by rw [← e i hi]; exact (h.2 i hi).1, (h.2 i hi).2⟩⟩
theorem kb_set (w : World) (c i : Nat) (x : Value) {S : Nat → Prop} (hS : S c) : Kb w (w.setCell ⟨c, i, none⟩ x) S := Kb.of_grown (grown_set w c i x) fun k e => by rw [← Option.some.inj e]; exact hS
theorem Kb.old {a b c : World} {S T : Nat → Prop} (h : Below a.heap.size a b) (k : Kb b c S) (hST : ∀ i, i < a.heap.size → S i → T i) : Kb a c T :=
  ⟨k.os.trans h.os, k.tape.trans h.tape, k.output.trans h.output, Nat.le_trans h.size k.size, fun i hi hT => (k.block i (Nat.lt_of_lt_of_le hi h.size) fun hs => hT (hST i hi hs)).trans (h.block i hi)⟩

/-- Of the model's PopTo: c1 is what it hands back, c2 the page that it works on. -/
structure PoS (w wr : World) (c1 c2 : Nat) (iv ov fv : Value) (q : PgB) : Prop where
  res : Many 5 wr c1 (fun i => [Value.slice none 0 0, .slice none 0 0, .slice none 0 0, .int .i64 0, .int .i64 0].getD i undef)
  box : Many 5 wr c2 (fun i => [iv, ov, fv, .int .i64 q.hd, .int .i64 q.bd].getD i undef)
  its : ∀ W, Kb wr W (fun b => b = c1 ∨ b = c2 ∨ b < w.heap.size) → ∃ a c, iv = .slice a q.its.length c ∧ q.its.length ≤ c ∧ ItsAt W a q.its
  opn : ∀ W, Kb wr W (fun b => b = c1 ∨ b = c2 ∨ b < w.heap.size) → RmInts W ov q.opn
  fms : ∀ W, Kb wr W (fun b => b = c1 ∨ b = c2 ∨ b < w.heap.size) → RmInts W fv q.fms
  low : w.heap.size ≤ c1 ∧ w.heap.size ≤ c2 ∧ c1 ≠ c2
  bel : Below w.heap.size w wr

theorem PoS.keep {w wr wr' : World} {c1 c2 : Nat} {iv ov fv : Value} {q : PgB} (h : PoS w wr c1 c2 iv ov fv q) (hb : Below wr.heap.size wr wr') : PoS w wr' c1 c2 iv ov fv q :=
  ⟨h.res.keep hb, h.box.keep hb, fun W hW => h.its W ((Kb.of_below hb _).trans hW), fun W hW => h.opn W ((Kb.of_below hb _).trans hW), fun W hW => h.fms W ((Kb.of_below hb _).trans hW), h.low, below_then h.bel hb⟩
theorem PoS.setO {w wr : World} {c1 c2 : Nat} {iv ov fv : Value} {q : PgB} (h : PoS w wr c1 c2 iv ov fv q) {x : Value} {zs : List Int} (hx : ∀ W, Kb wr W (fun b => b = c1 ∨ b = c2 ∨ b < w.heap.size) → RmInts W x zs) :
    PoS w (wr.setCell ⟨c2, 1, none⟩ x) c1 c2 iv x fv { q with opn := zs } := by
  have k := kb_set wr c2 1 x (S := fun b => b = c1 ∨ b = c2 ∨ b < w.heap.size) (.inr (.inl rfl))
  refine ⟨h.res.other (fun e => h.low.2.2 e.symm) x, (h.box.set x).cong fun i hi => ?_, fun W hW => h.its W (k.trans hW), fun W hW => hx W (k.trans hW), fun W hW => h.fms W (k.trans hW), h.low, h.bel.setCell (p := ⟨c2, 1, none⟩) h.low.2.1 x⟩
  match i, hi with
  | 0, _ => rfl
  | 1, _ => rfl
  | 2, _ => rfl
  | 3, _ => rfl
  | 4, _ => rfl
theorem PoS.setF {w wr : World} {c1 c2 : Nat} {iv ov fv : Value} {q : PgB} (h : PoS w wr c1 c2 iv ov fv q) {x : Value} {zs : List Int} (hx : ∀ W, Kb wr W (fun b => b = c1 ∨ b = c2 ∨ b < w.heap.size) → RmInts W x zs) :
    PoS w (wr.setCell ⟨c2, 2, none⟩ x) c1 c2 iv ov x { q with fms := zs } := by
  have k := kb_set wr c2 2 x (S := fun b => b = c1 ∨ b = c2 ∨ b < w.heap.size) (.inr (.inl rfl))
  refine ⟨h.res.other (fun e => h.low.2.2 e.symm) x, (h.box.set x).cong fun i hi => ?_, fun W hW => h.its W (k.trans hW), fun W hW => h.opn W (k.trans hW), fun W hW => hx W (k.trans hW), h.low, h.bel.setCell (p := ⟨c2, 2, none⟩) h.low.2.1 x⟩
  match i, hi with
  | 0, _ => rfl
  | 1, _ => rfl
  | 2, _ => rfl
  | 3, _ => rfl
  | 4, _ => rfl
theorem PoS.pgs {w wr : World} {c1 c2 : Nat} {iv ov fv : Value} {q : PgB} (h : PoS w wr c1 c2 iv ov fv q) (W : World) (hW : Kb wr W (fun b => b = c1 ∨ b = c2 ∨ b < w.heap.size)) : PgAt W (.agg #[iv, ov, fv, .int .i64 q.hd, .int .i64 q.bd]) q := by
  obtain ⟨ia, ic, e1, h1, h2⟩ := h.its W hW
  obtain ⟨oa, oc, e2, h3, h4⟩ := h.opn W hW
  obtain ⟨fa, fc, e3, h5, h6⟩ := h.fms W hW
  exact ⟨ia, ic, oa, oc, fa, fc, by rw [e1, e2, e3], ⟨h2, h1⟩, ⟨h4, h3⟩, ⟨h6, h5⟩⟩
theorem PoS.pg {w wr : World} {c1 c2 : Nat} {iv ov fv : Value} {q : PgB} (h : PoS w wr c1 c2 iv ov fv q) : PgAt wr (.agg #[iv, ov, fv, .int .i64 q.hd, .int .i64 q.bd]) q := h.pgs wr (Kb.refl _ _)

/-- How it begins. -/
theorem PoS.new {w w0 w1 : World} {c1 : Nat} {iv ov fv : Value} {p : PgB} {t : TypeId} (hc : w.heap.size ≤ c1) (hc1 : c1 < w0.heap.size) (h01 : Below w0.heap.size w0 w1) (hw : Below w.heap.size w w0)
    (M : Many 5 w0 c1 (fun i => [Value.slice none 0 0, .slice none 0 0, .slice none 0 0, .int .i64 0, .int .i64 0].getD i undef))
    (oi : OwnIts w1 w0.heap.size iv p.its) (ro : RmLate w0.heap.size w1 ov p.opn) (rf : RmLate w0.heap.size w1 fv p.fms) :
    PoS w (w1.alloc (.cells #[iv, ov, fv, .int .i64 p.hd, .int .i64 p.bd] t)) c1 w1.heap.size iv ov fv p := by
  have hlt : c1 < w1.heap.size := Nat.lt_of_lt_of_le hc1 h01.size
  have hB : Below w.heap.size w w1 := below_then hw h01
  have kk : ∀ W, Kb (w1.alloc (.cells #[iv, ov, fv, .int .i64 p.hd, .int .i64 p.bd] t)) W (fun b => b = c1 ∨ b = w1.heap.size ∨ b < w.heap.size) → Kb w1 W (fun b => b < w0.heap.size) := fun W hW => Kb.old (al_below _ _) hW fun i hi h => by
    have hs := hw.size
    rcases h with h | h | h <;> omega
  exact ⟨(M.below hc1 h01).keep (al_below _ _), Many.new w1 [iv, ov, fv, .int .i64 p.hd, .int .i64 p.bd] t undef, fun W hW => its_of_own (oi.late (kk W hW)), fun W hW => ro W (kk W hW), fun W hW => rf W (kk W hW), ⟨hc, hB.size, by omega⟩, below_then hB (al_below _ _)⟩

/-- How it ends. -/
theorem PoS.last {w wr : World} {c1 c2 : Nat} {iv ov fv : Value} {q : PgB} (h : PoS w wr c1 c2 iv ov fv q) :
    (∀ W, Kb (((((wr.setCell ⟨c1, 0, none⟩ iv).setCell ⟨c1, 1, none⟩ ov).setCell ⟨c1, 2, none⟩ fv).setCell ⟨c1, 3, none⟩ (.int .i64 q.hd)).setCell ⟨c1, 4, none⟩ (.int .i64 q.bd)) W (fun b => b < w.heap.size) → PgAt W (.agg #[iv, ov, fv, .int .i64 q.hd, .int .i64 q.bd]) q) ∧
    Below w.heap.size w (((((wr.setCell ⟨c1, 0, none⟩ iv).setCell ⟨c1, 1, none⟩ ov).setCell ⟨c1, 2, none⟩ fv).setCell ⟨c1, 3, none⟩ (.int .i64 q.hd)).setCell ⟨c1, 4, none⟩ (.int .i64 q.bd)) :=
  ⟨fun W hW => h.pgs W ((((((kb_set _ c1 _ _ (.inl rfl)).trans (kb_set _ c1 _ _ (.inl rfl))).trans (kb_set _ c1 _ _ (.inl rfl))).trans (kb_set _ c1 _ _ (.inl rfl))).trans (kb_set _ c1 _ _ (.inl rfl))).trans (hW.more fun _ hb => .inr (.inr hb))), st5_below h.low.1 h.bel⟩

end Go.Proofs.Ytlnegnikedinaaa.Sg
