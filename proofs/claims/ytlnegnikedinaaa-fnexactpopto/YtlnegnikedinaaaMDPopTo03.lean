/- Contract of the model's PageNew. A slice that is owned, appended to an empty one: what comes is owned anew. Numbers appended to an empty slice: what comes holds them, and nothing that was there has turned. -/
import Derived.Test.YtlnegnikedinaaaLwPgNew
import Derived.Test.YtlnegnikedinaaaLwItTo2
import Derived.Laws.AppendOwnNone
import Derived.Maps.AppendAt
import Derived.Test.YtlnegnikedinaaaLwKb
import Derived.ArgAppend
namespace Go.Proofs.Ytlnegnikedinaaa.Sg
open Go.ChangeShapes Go.WideShapes Go.ChangeAt Go.RowKit

theorem nil_row (w : World) (B : Nat) (e : TypeId) (z : Nat) : w.ownsRow B e z (.slice none 0 0) 0 [] := ⟨by simp, .inl ⟨rfl, rfl⟩⟩

/-- A new page lies in one new block. -/
theorem new_page {w : World} {B g : Nat} (hB : B ≤ g) (hg : w.heap[g]? = some (.cells #[.int .i64 1, .int .i64 0, .string ⟨#[]⟩, .slice none 0 0, .string ⟨#[]⟩, .int .i64 (-1), .slice none 0 0] 50 (0, 0))) :
    OwnPg w B (.agg #[.slice (some ⟨g, 0, none⟩) 1 1, .slice none 0 0, .slice none 0 0, .int .i64 0, .int .i64 0]) pgNew := by
  refine ⟨_, _, _, rfl, [(⟨1, 0, ⟨#[]⟩, [], ⟨#[]⟩, -1, []⟩, .slice none 0 0, .slice none 0 0)], rfl, ⟨rfl, .inr ⟨g, 1, _, rfl, hB, hg, Nat.le_refl _, by decide, rfl, rfl⟩⟩, ⟨fun q hq => ?_, List.pairwise_singleton _ _⟩, nil_row _ _ _ _, nil_row _ _ _ _, ⟨fun b hb => (by simp [Value.ownBlock] at hb), fun q hq b hb => ?_⟩⟩
  · obtain rfl := List.mem_singleton.1 hq
    exact ⟨nil_row _ _ _ _, nil_row _ _ _ _⟩
  · obtain rfl := List.mem_singleton.1 hq
    simp [Value.ownBlock] at hb

set_option maxHeartbeats 4000000 in
theorem specPageNew (w : World) : Calls Try.prog 7 #[] w fun e w' => ∃ x', e = .returned x' ∧ OwnPg w' w.heap.size x' pgNew ∧ Below w.heap.size w w' := by
  have Hp : Hid (∀ o : Obj, OwnPg ((w.alloc o).alloc (.cells #[.int .i64 1, .int .i64 0, .string ⟨#[]⟩, .slice none 0 0, .string ⟨#[]⟩, .int .i64 (-1), .slice none 0 0] 50)) w.heap.size (.agg #[.slice (some ⟨w.heap.size + 1, 0, none⟩) 1 1, .slice none 0 0, .slice none 0 0, .int .i64 0, .int .i64 0]) pgNew) := fun o => new_page (Nat.le_succ _) (by
    have h := (MapKept.heap_alloc (w.alloc o) (.cells #[.int .i64 1, .int .i64 0, .string ⟨#[]⟩, .slice none 0 0, .string ⟨#[]⟩, .int .i64 (-1), .slice none 0 0] 50)).1
    simpa using h)
  go_enter Try.func7, Try.ntmps7
  go_wp2_with fail
  refine bodyPost_ret (v := .agg #[.slice (some ⟨w.heap.size + 1, 0, none⟩) 1 1, .slice none 0 0, .slice none 0 0, .int .i64 0, .int .i64 0]) ?_ rfl ⟨_, rfl, Hp.out _, ((Below.refl _ _).alloc (Nat.le_refl _) _).alloc (by simp) _⟩
  simp [results, Try.results7, go_sem]

end Go.Proofs.Ytlnegnikedinaaa.Sg

namespace Go.Proofs.Ytlnegnikedinaaa.Sg
open Go.ChangeShapes Go.WideShapes Go.ChangeAt Go.RowKit

theorem own_form {w : World} {B : Nat} {e : TypeId} {z : Nat} {v : Value} {n : Nat} {xs : List Value} (h : w.ownsRow B e z v n xs) : ∃ a c, v = .slice a n c := by
  rcases h.2 with ⟨rfl, h0⟩ | ⟨g, cap, cur, rfl, _⟩
  · exact ⟨none, 0, by rw [h0]⟩
  · exact ⟨_, _, rfl⟩

/-- An empty slice that is new. -/
theorem own_empty {w : World} {B g : Nat} {e : TypeId} {z : Nat} (hB : B ≤ g) (hg : w.heap[g]? = some (.cells #[] e (0, 0))) : w.ownsRow B e z (.slice (some ⟨g, 0, none⟩) 0 0) 0 [] :=
  ⟨by simp, .inr ⟨g, 0, #[], rfl, hB, hg, Nat.le_refl _, Nat.zero_le _, by simp, by simp⟩⟩

theorem wpList_append_copy {P : Program} (w : World) {ops : Array Oper} {rest : List Oper} {o : Oper} {a : Act} {Q : Exit → Act → World → Prop} (hgd : o.guard = none) (s x : Operand) (t : TypeId)
    (ho : o.op = .call { callee := .builtin .append, args := #[s, x], argTypes := #[t, t] })
    (base : Nat) (e : TypeId) (i : TypeInfo) (z : Value) (size bytes : Nat) (ht : P.underlying t = some (.slice e)) (hi : P.info? e = some i) (hz : i.zero = some z)
    (hsize : i.size = size) (hby : i.bytes = bytes) (hzs : z.cells.size = size) (hsz : 0 < size)
    (v : Value) (hs : a.eval s = v) (hown : w.ownsRow base e size v 0 []) (B0 : Nat) (u : Value) (m : Nat) (xs : List Value) (hx : a.eval x = u) (hu : w.ownsRow B0 e size u m xs) (h1 : ∀ y ∈ xs, y.oneCell' = true)
    (h63 : m ≤ maxLen) (hbytes : m * bytes ≤ 140737488355328) (hbase : base ≤ w.heap.size)
    (h : ∀ v' w', w'.ownsRow base e size v' m xs → w.grownBy w' v.ownBlock → wpList P ops Q rest (a.put o.dst v') w') : wpList P ops Q (o :: rest) a w := by
  have hu' := hu
  obtain ⟨hl, hu⟩ := hu
  rcases hu with ⟨rfl, h0⟩ | ⟨g, cap, cur, rfl, hrest⟩
  · subst h0
    have hn : xs = [] := List.eq_nil_of_length_eq_zero (by simpa using hl)
    subst hn
    exact wpList_append_own_none hgd s x t ho base e i size ht hi v 0 [] hs hown hx (h v w hown (grown_refl _ _))
  · refine wpList_append_own w hgd s x t ho base e i z size bytes ht hi hz hsize hby hzs hsz v 0 [] hs hown ⟨g, 0, none⟩ m cap xs hx hl (fun j y hj => ?_) h1 (by omega) (by rw [Nat.zero_add]; exact hbytes) hbase (fun v' w' a1 a2 _ => h v' w' (by simpa using a1) a2)
    have hjl : j < m * size := by rw [← hl]; exact (List.getElem?_eq_some_iff.1 hj).1
    have hc := (own_cell hu' hjl).1
    rw [hj] at hc
    have e : (⟨g, 0, none⟩ : Addr).add j = ⟨g, j, none⟩ := by unfold Addr.add; by_cases h : j = 0 <;> simp [h]
    rw [e]
    exact hc

theorem attr_one : ∀ (l : List AttrB), ∀ y ∈ attrCells l, y.oneCell' = true
  | [], y, hy => absurd hy List.not_mem_nil
  | p :: l, y, hy => by
    rcases List.mem_cons.1 hy with rfl | hy
    · rfl
    · rcases List.mem_cons.1 hy with rfl | hy
      · rfl
      · exact attr_one l y hy
theorem int_one (l : List Int) : ∀ y ∈ intCellsI l, y.oneCell' = true := by
  intro y hy
  unfold intCellsI at hy
  obtain ⟨p, _, rfl⟩ := List.mem_map.1 hy
  rfl
theorem info_at' : (Try.prog.info? 84).map (fun i => (i.zero, i.size, i.bytes)) = some (some (.agg #[.string ⟨#[]⟩, .string ⟨#[]⟩]), 2, 32) := by kernel_rfl

end Go.Proofs.Ytlnegnikedinaaa.Sg

namespace Go.Proofs.Ytlnegnikedinaaa.Sg
open Go.ChangeShapes Go.WideShapes Go.ChangeAt Go.RowKit

/-- A slice holds these numbers, and goes on to where nothing turns but blocks below H. -/
def RmLate (H : Nat) (w : World) (v : Value) (zs : List Int) : Prop := ∀ W, Kb w W (fun b => b < H) → RmInts W v zs
theorem RmLate.now {H : Nat} {w : World} {v : Value} {zs : List Int} (h : RmLate H w v zs) : RmInts w v zs := h w (Kb.refl _ _)
theorem RmLate.keep {H : Nat} {w w' : World} {v : Value} {zs : List Int} (h : RmLate H w v zs) (hb : Below w.heap.size w w') : RmLate H w' v zs := fun W hW => h W ((Kb.of_below hb _).trans hW)

theorem run_append_ints (g : Nat) (u : Value) (zs : List Int) (w : World) (ty : TypeId) (hu : RmInts w u zs) (hn : zs.length ≤ 1099511627776) :
    ∃ v' w', (Builtin.append_ #[23, 23] ty #[.slice (some ⟨g, 0, none⟩) 0 0, u]).run Try.prog w = .ok v' w' ∧ RmLate w.heap.size w' v' zs ∧ Below w.heap.size w w' := by
  obtain ⟨j0, gi, gz0, gz1, gz2⟩ := info_parts info_int
  obtain ⟨a, cap, rfl, hc, hI⟩ := hu
  by_cases h0 : zs = []
  · subst h0
    refine ⟨.slice (some ⟨g, 0, none⟩) 0 0, w, ?_, fun _ _ => ⟨_, _, rfl, Nat.le_refl _, .inl rfl⟩, Below.refl _ _⟩
    cases a <;> simp [Builtin.append_, run_underlying Try.underlying23, sizeOf, typeInfo, gi, Builtin.lenOf, Builtin.firstCells, storeCells, loadCells, loadCellsFrom]
  · rcases hI with h | ⟨b, off, rfl, hb, hcell⟩
    · exact absurd h h0
    have hpos : 0 < zs.length := List.length_pos_iff.2 h0
    have hcl : ∀ j y, (intCellsI zs)[j]? = some y → w.cell? ((⟨b, off, none⟩ : Addr).add j) = some y := fun j y hj => by
      have hjl : j < zs.length := by have := (List.getElem?_eq_some_iff.1 hj).1; unfold intCellsI at this; simpa using this
      have e : (⟨b, off, none⟩ : Addr).add j = ⟨b, off + j, none⟩ := by unfold Addr.add; by_cases h : j = 0 <;> simp [h]
      rw [e, hcell j hjl]
      unfold intCellsI at hj
      rw [List.getElem?_map, List.getElem?_eq_getElem hjl] at hj
      simpa [List.getD, hjl] using hj
    obtain ⟨v', w', hrun, r1, r2⟩ := run_append_arg_grows (P := Try.prog) w 23 ty 3 j0 (.int .i64 0) 1 8 Try.underlying23 gi gz0 gz1 gz2 rfl (by decide) ⟨g, 0, none⟩ 0 0 [] rfl (fun _ _ h => by cases h) ⟨b, off, none⟩ zs.length cap (intCellsI zs) (by unfold intCellsI; simp) hcl (by omega) (by unfold maxLen; omega) (by omega)
    refine ⟨v', w', hrun, ?_, ⟨r2.os, r2.tape, r2.output, r2.size, fun k hk => r2.block k hk (by simp)⟩⟩
    rw [Nat.zero_add] at r1
    have r1' : w'.ownsRow w.heap.size 3 1 v' zs.length (intCellsI zs) := by simpa using r1
    exact fun W hW => ints_of_own (hW.owns r1' fun k hk hlt => by have := (r1'.lt k hk).1; omega)

/-- At a region's list. -/
theorem wpList_append_ints (w : World) {ops : Array Oper} {rest : List Oper} {o : Oper} {a : Act} {Q : Exit → Act → World → Prop} (hgd : o.guard = none) (s x : Operand)
    (ho : o.op = .call { callee := .builtin .append, args := #[s, x], argTypes := #[23, 23] }) (g : Nat) (hs : a.eval s = .slice (some ⟨g, 0, none⟩) 0 0)
    (u : Value) (zs : List Int) (hx : a.eval x = u) (hu : RmInts w u zs) (hn : zs.length ≤ 1099511627776)
    (h : ∀ ad c w', RmLate w.heap.size w' (.slice ad zs.length c) zs → Below w.heap.size w w' → wpList Try.prog ops Q rest (a.put o.dst (.slice ad zs.length c)) w') : wpList Try.prog ops Q (o :: rest) a w := by
  refine wpList_plain hgd fun K hK => ?_
  obtain ⟨v', w', hrun, r1, r2⟩ := run_append_ints g u zs w o.type hu hn
  obtain ⟨ad, c, e1, _⟩ := r1.now
  subst e1
  unfold Oper.wp
  simp [execOp, ho, resolve, invoke, builtin, hs, hx, hrun, Result.andThen]
  exact hK _ _ (h ad c w' r1 r2)
/-- At a step of a region that draws its order. -/
theorem step_append_ints {w : World} {ops : Array Oper} {o : Oper} {a : Act} {K : Act → World → Prop} {Q : Exit → Act → World → Prop} {E : Prop} (hgd : o.guard = none) (s x : Operand)
    (ho : o.op = .call { callee := .builtin .append, args := #[s, x], argTypes := #[23, 23] }) (g : Nat) (hs : a.eval s = .slice (some ⟨g, 0, none⟩) 0 0)
    (u : Value) (zs : List Int) (hx : a.eval x = u) (hu : RmInts w u zs) (hn : zs.length ≤ 1099511627776) (H : Nat) (hH : H ≤ w.heap.size)
    (h : ∀ ad c w', RmLate H w' (.slice ad zs.length c) zs → Below w.heap.size w w' → K (a.put o.dst (.slice ad zs.length c)) w') :
    if Region.wanted o (yielded ops a.tmps) = true then Oper.wp Try.prog o a w K Q else E := by
  have hw : Region.wanted o (yielded ops a.tmps) = true := by simp [Region.wanted, hgd]
  rw [if_pos hw]
  obtain ⟨v', w', hrun, r1, r2⟩ := run_append_ints g u zs w o.type hu hn
  obtain ⟨ad, c, e1, _⟩ := r1.now
  subst e1
  unfold Oper.wp
  simp [execOp, ho, resolve, invoke, builtin, hs, hx, hrun, Result.andThen]
  exact h ad c w' (fun W hW => r1 W (hW.more fun b hb => Nat.lt_of_lt_of_le hb hH)) r2

end Go.Proofs.Ytlnegnikedinaaa.Sg
