/- Numbers appended to an empty slice: what comes holds them, and nothing that was there has turned. -/
import Derived.Test.YtlnegnikedinaaaCpP
import Derived.Test.YtlnegnikedinaaaLwKb
import Derived.ArgAppend
namespace Go.Proofs.Ytlnegnikedinaaa.Sg
open Go.ChangeShapes Go.WideShapes Go.ChangeAt Go.RowKit

/-- A slice holds these numbers, and goes on to where nothing turns but blocks below H. -/
def RmLate (H : Nat) (w : World) (v : Value) (zs : List Int) : Prop := ∀ W, Kb w W (fun b => b < H) → RmInts W v zs
theorem RmLate.now {H : Nat} {w : World} {v : Value} {zs : List Int} (h : RmLate H w v zs) : RmInts w v zs := h w (Kb.refl _ _)
theorem RmLate.keep {H : Nat} {w w' : World} {v : Value} {zs : List Int} (h : RmLate H w v zs) (hb : Below w.heap.size w w') : RmLate H w' v zs := fun W hW => h W ((Kb.of_below hb _).trans hW)

theorem run_append_ints (g : Nat) (u : Value) (zs : List Int) (w : World) (ty : TypeId) (hu : RmInts w u zs) (hn : zs.length ≤ 1099511627776) :
    ∃ v' w', (Builtin.append_ #[23, 23] ty #[.slice (some ⟨g, 0, none⟩) 0 0, u]).run Try.prog w = .ok v' w' ∧ RmLate w.heap.size w' v' zs ∧ Below w.heap.size w w' := by
  obtain ⟨j0, gi, gz0, gz1, gz2⟩ := info_parts info_int
  obtain ⟨a, cap, rfl, hc, hI⟩ := hu
  by_cases h0 : zs = []
  · subst h0
    refine ⟨.slice (some ⟨g, 0, none⟩) 0 0, w, ?_, fun _ _ => ⟨_, _, rfl, Nat.le_refl _, .inl rfl⟩, Below.refl _ _⟩
    cases a <;> simp [Builtin.append_, run_underlying Try.underlying23, sizeOf, typeInfo, gi, Builtin.lenOf, Builtin.firstCells, storeCells, loadCells, loadCellsFrom]
  · rcases hI with h | ⟨b, off, rfl, hb, hcell⟩
    · exact absurd h h0
    have hpos : 0 < zs.length := List.length_pos_iff.2 h0
    have hcl : ∀ j y, (intCellsI zs)[j]? = some y → w.cell? ((⟨b, off, none⟩ : Addr).add j) = some y := fun j y hj => by
      have hjl : j < zs.length := by have := (List.getElem?_eq_some_iff.1 hj).1; unfold intCellsI at this; simpa using this
      have e : (⟨b, off, none⟩ : Addr).add j = ⟨b, off + j, none⟩ := by unfold Addr.add; by_cases h : j = 0 <;> simp [h]
      rw [e, hcell j hjl]
      unfold intCellsI at hj
      rw [List.getElem?_map, List.getElem?_eq_getElem hjl] at hj
      simpa [List.getD, hjl] using hj
    obtain ⟨v', w', hrun, r1, r2⟩ := run_append_arg_grows (P := Try.prog) w 23 ty 3 j0 (.int .i64 0) 1 8 Try.underlying23 gi gz0 gz1 gz2 rfl (by decide) ⟨g, 0, none⟩ 0 0 [] rfl (fun _ _ h => by cases h) ⟨b, off, none⟩ zs.length cap (intCellsI zs) (by unfold intCellsI; simp) hcl (by omega) (by unfold maxLen; omega) (by omega)
    refine ⟨v', w', hrun, ?_, ⟨r2.os, r2.tape, r2.output, r2.size, fun k hk => r2.block k hk (by simp)⟩⟩
    rw [Nat.zero_add] at r1
    have r1' : w'.ownsRow w.heap.size 3 1 v' zs.length (intCellsI zs) := by simpa using r1
    exact fun W hW => ints_of_own (hW.owns r1' fun k hk hlt => by have := (r1'.lt k hk).1; omega)

/-- At a region's list. -/
theorem wpList_append_ints (w : World) {ops : Array Oper} {rest : List Oper} {o : Oper} {a : Act} {Q : Exit → Act → World → Prop} (hgd : o.guard = none) (s x : Operand)
    (ho : o.op = .call { callee := .builtin .append, args := #[s, x], argTypes := #[23, 23] }) (g : Nat) (hs : a.eval s = .slice (some ⟨g, 0, none⟩) 0 0)
    (u : Value) (zs : List Int) (hx : a.eval x = u) (hu : RmInts w u zs) (hn : zs.length ≤ 1099511627776)
    (h : ∀ ad c w', RmLate w.heap.size w' (.slice ad zs.length c) zs → Below w.heap.size w w' → wpList Try.prog ops Q rest (a.put o.dst (.slice ad zs.length c)) w') : wpList Try.prog ops Q (o :: rest) a w := by
  refine wpList_plain hgd fun K hK => ?_
  obtain ⟨v', w', hrun, r1, r2⟩ := run_append_ints g u zs w o.type hu hn
  obtain ⟨ad, c, e1, _⟩ := r1.now
  subst e1
  unfold Oper.wp
  simp [execOp, ho, resolve, invoke, builtin, hs, hx, hrun, Result.andThen]
  exact hK _ _ (h ad c w' r1 r2)
/-- At a step of a region that draws its order. -/
theorem step_append_ints {w : World} {ops : Array Oper} {o : Oper} {a : Act} {K : Act → World → Prop} {Q : Exit → Act → World → Prop} {E : Prop} (hgd : o.guard = none) (s x : Operand)
    (ho : o.op = .call { callee := .builtin .append, args := #[s, x], argTypes := #[23, 23] }) (g : Nat) (hs : a.eval s = .slice (some ⟨g, 0, none⟩) 0 0)
    (u : Value) (zs : List Int) (hx : a.eval x = u) (hu : RmInts w u zs) (hn : zs.length ≤ 1099511627776) (H : Nat) (hH : H ≤ w.heap.size)
    (h : ∀ ad c w', RmLate H w' (.slice ad zs.length c) zs → Below w.heap.size w w' → K (a.put o.dst (.slice ad zs.length c)) w') :
    if Region.wanted o (yielded ops a.tmps) = true then Oper.wp Try.prog o a w K Q else E := by
  have hw : Region.wanted o (yielded ops a.tmps) = true := by simp [Region.wanted, hgd]
  rw [if_pos hw]
  obtain ⟨v', w', hrun, r1, r2⟩ := run_append_ints g u zs w o.type hu hn
  obtain ⟨ad, c, e1, _⟩ := r1.now
  subst e1
  unfold Oper.wp
  simp [execOp, ho, resolve, invoke, builtin, hs, hx, hrun, Result.andThen]
  exact h ad c w' (fun W hW => r1 W (hW.more fun b hb => Nat.lt_of_lt_of_le hb hH)) r2

end Go.Proofs.Ytlnegnikedinaaa.Sg
