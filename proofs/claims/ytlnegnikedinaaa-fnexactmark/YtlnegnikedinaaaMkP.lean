/- A number appended to a row that is owned: where the row then lies; a page whose formats grow. -/
import Derived.Test.YtlnegnikedinaaaGAppAt
import Derived.Test.YtlnegnikedinaaaCpInts
import Derived.Test.YtlnegnikedinaaaCpPopP
namespace Go.Proofs.Ytlnegnikedinaaa.Sg
open Go.ChangeShapes Go.WideShapes Go.ChangeAt Go.RowKit

/-- A mark behind the formats, where there is room. -/
def markP (p : PgB) : PgB := if p.fms.length < 120 then { p with fms := p.fms ++ [-1] } else p

/-- Formats as they lie: an owned row, or an empty slice. -/
def RowE (w : World) (B : Nat) (v v' : Value) (zs : List Int) : Prop := w.ownsRow B 3 1 v' zs.length (intCellsI zs) ∧ (v = v' ∨ zs = [] ∧ v' = .slice none 0 0 ∧ ∃ g, v = .slice (some ⟨g, 0, none⟩) 0 0)

/-- One number is appended to such a row. -/
theorem wpList_append_mark (w : World) {ops : Array Oper} {rest : List Oper} {o : Oper} {a : Act} {Q : Exit → Act → World → Prop} (hgd : o.guard = none) (s x : Operand)
    (ho : o.op = .call { callee := .builtin .append, args := #[s, x], argTypes := #[23, 23] }) (B : Nat) (hB : B ≤ w.heap.size) (v v' : Value) (zs : List Int) (k : Int) (hs : a.eval s = v) (hv : RowE w B v v' zs)
    (g c : Nat) (hx : a.eval x = .slice (some ⟨g, 0, none⟩) 1 c) (hg : w.cell? ⟨g, 0, none⟩ = some (.int .i64 k)) (hn : zs.length ≤ 1099511627776)
    (h : ∀ ad cp w', w'.ownsRow B 3 1 (.slice ad (zs.length + 1) cp) (zs.length + 1) (intCellsI (zs ++ [k])) → w.grownBy w' v'.ownBlock → (∀ b, (Value.slice ad (zs.length + 1) cp).ownBlock = some b → v'.ownBlock = some b ∨ w.heap.size ≤ b) → wpList Try.prog ops Q rest (a.put o.dst (.slice ad (zs.length + 1) cp)) w') : wpList Try.prog ops Q (o :: rest) a w := by
  obtain ⟨j0, gi, gz0, gz1, gz2⟩ := info_parts info_int
  have hnews : ∀ (j : Nat) (u : Value), [Value.int .i64 k][j]? = some u → w.cell? ((⟨g, 0, none⟩ : Addr).add j) = some u := fun j u hj => by
    have hj0 : j = 0 := by have := (List.getElem?_eq_some_iff.1 hj).1; simp at this; exact this
    subst hj0
    obtain rfl : Value.int .i64 k = u := by simpa using hj
    simpa [Addr.add] using hg
  have hz : intCellsI (zs ++ [k]) = intCellsI zs ++ [Value.int .i64 k] := by unfold intCellsI; simp
  obtain ⟨w', vr, hrun, r1, r2, r3⟩ : ∃ w' vr, (Builtin.append_ #[23, 23] o.type #[v, .slice (some ⟨g, 0, none⟩) 1 c]).run Try.prog w = .ok vr w' ∧ w'.ownsRow B 3 1 vr (zs.length + 1) (intCellsI (zs ++ [k])) ∧ w.grownBy w' v'.ownBlock ∧ (∀ b, vr.ownBlock = some b → v'.ownBlock = some b ∨ w.heap.size ≤ b) := by
    rw [hz]
    rcases hv.2 with rfl | ⟨rfl, rfl, g0, rfl⟩
    · obtain ⟨vr, w', h1, h2, h3, h4⟩ := run_append_at (P := Try.prog) w B 23 o.type 3 j0 (.int .i64 0) 1 8 Try.underlying23 gi gz0 gz1 gz2 rfl (by decide) v zs.length (intCellsI zs) hv.1 ⟨g, 0, none⟩ 1 c [.int .i64 k] rfl hnews (fun u hu => by obtain rfl := List.mem_singleton.1 hu; rfl) (by unfold maxLen; omega) (by omega) hB
      exact ⟨w', vr, h1, h2, h3, h4⟩
    · obtain ⟨vr, w', h1, h2, h3⟩ := run_append_arg_grows (P := Try.prog) w 23 o.type 3 j0 (.int .i64 0) 1 8 Try.underlying23 gi gz0 gz1 gz2 rfl (by decide) ⟨g0, 0, none⟩ 0 0 [] rfl (fun _ _ h => by cases h) ⟨g, 0, none⟩ 1 c [.int .i64 k] rfl hnews (by omega) (by unfold maxLen; omega) (by omega)
      exact ⟨w', vr, h1, own_mono h2 hB, h3, fun b hb => .inr (h2.lt b hb).1⟩
  obtain ⟨ad, cp, rfl⟩ := own_form r1
  refine wpList_plain hgd fun K hK => ?_
  unfold Oper.wp
  simp [execOp, ho, resolve, invoke, builtin, hs, hx, hrun, Result.andThen]
  exact hK _ _ (h ad cp w' r1 r2 r3)

/-- The formats of a page grow. -/
theorem OwnPg3.growF {w w' : World} {B : Nat} {iv ov fv v' : Value} {p : PgB} {zs : List Int} (h : OwnPg3 w B iv ov fv p) (ho : w'.ownsRow B 3 1 v' zs.length (intCellsI zs)) (hg : w.grownBy w' fv.ownBlock) (hb : ∀ b, v'.ownBlock = some b → fv.ownBlock = some b ∨ w.heap.size ≤ b) :
    OwnPg3 w' B iv ov v' { p with fms := zs } := by
  obtain ⟨L, h1, h2, h3, h4, h5, h6, h7⟩ := h
  refine ⟨L, h1, owns_grown h2 hg (fun b e1 e2 => owns_apart h2 h5 it_type.2.1 b e1 e2), ⟨fun q hq => ⟨owns_grown (h3.1 q hq).1 hg fun b e1 e2 => owns_apart (h3.1 q hq).1 h5 it_type.2.2 b e1 e2, owns_grown (h3.1 q hq).2 hg fun b e1 e2 => (h7 q hq b e1).2 e2⟩, h3.2⟩, owns_grown h4 hg fun b e1 e2 => h6 b e1 e2, ho, fun b e1 e2 => ?_, fun q hq b e1 => ⟨(h7 q hq b e1).1, fun e2 => ?_⟩⟩
  · rcases hb b e2 with e | e
    · exact h6 b e1 e
    · have := (h4.lt b e1).2; omega
  · rcases hb b e2 with e | e
    · exact (h7 q hq b e1).2 e
    · have := ((h3.1 q hq).2.lt b e1).2; omega

end Go.Proofs.Ytlnegnikedinaaa.Sg
