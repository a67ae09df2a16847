/- Contracts of the program's seven sets of names: each is a new map that has the names of its list. -/
import Derived.Test.YtjbjmjnjdadjcaaKtImplP
import Derived.Maps.OwnSet
import Derived.Maps.RangeWalk
import Derived.Maps.AppendAt
import Derived.StringKeys
namespace Go.Proofs.Ytjbjmjnjdadjcaa.Sg
open Go.ChangeShapes Go.WideShapes Go.ChangeAt Go.RowKit Go.Maps

/-- A name that a map's literal lays. -/
theorem wpList_insert_own {H : Type} {P : Program} (w : World) {ops : Array Oper} {rest : List Oper} {o : Oper} {a : Act} {Q : Exit → Act → World → Prop}
    (hg : o.guard = none) (m x v : Operand) (t : TypeId) (hop : o.op = Op.insert t m x v)
    (k e : TypeId) (K : Keyed P k) (ht : P.underlying t = some (.map k e)) (R : Value → Option (DataW H × List MemPlace)) (b n : Nat) (D : DataW H)
    (hm : a.eval m = .map (some b)) (hown : w.ownsMap P k R b n D) (hn : n < maxLen) (key val : Value) (kl : Lit) (hx : a.eval x = key) (hv : a.eval v = val) (hkey : keyOf P k key = some kl)
    (d : DataW H) (ps : List MemPlace) (hval : R val = some (d, ps))
    (hK : ∀ w', w'.ownsMap P k R b (n + 1) (D.put kl d) → w.grownBy w' (some b) → wpList P ops Q rest (a.put o.dst undef) w') :
    wpList P ops Q (o :: rest) a w := by
  refine wpList_plain hg fun K' hK' => ?_
  obtain ⟨w', hrun, r1, r2⟩ := hown.update K ht hn hkey hval
  unfold Oper.wp
  simp [execOp, hop, hm, hx, hv, hrun, Result.andThen]
  exact hK' _ _ (hK w' r1 r2)

theorem lawS : Keyed Try.prog 9 := string_keyed Try.underlying9

/-- A set that is being laid: the map in a block, and nothing else that was there has turned. -/
def SetIn (w : World) (b n : Nat) (D : DataW Unit) (wr : World) : Prop := wr.ownsMap Try.prog 9 unitElem b n D ∧ Below b w wr ∧ b ≤ wr.heap.size

theorem SetIn.made (w : World) : SetIn w w.heap.size 0 (.map []) (w.alloc (.map #[] 0)) :=
  ⟨World.ownsMap_made _ _ _ _, (Below.refl _ _).alloc (Nat.le_refl _) _, by simp⟩
theorem SetIn.step {w wr w1 : World} {b n : Nat} {D D1 : DataW Unit} (h : SetIn w b n D wr) (h1 : w1.ownsMap Try.prog 9 unitElem b (n + 1) D1) (hg : wr.grownBy w1 (some b)) : SetIn w b (n + 1) D1 w1 :=
  ⟨h1, h.2.1.grown hg h.2.2 (fun j hj => by cases hj; exact Nat.le_refl _), Nat.le_trans h.2.2 hg.size⟩

set_option maxRecDepth 100000 in
set_option maxHeartbeats 4000000 in
theorem impl_voidTags (w : World) : Calls Try.prog 35 #[] w fun e w' => e = .returned (.map (some w.heap.size)) ∧ SetIn w w.heap.size 9 (setL voidL) w' := by
  have hmm := @run_makeMap Try.prog
  have K := SetIn.made w
  go_enter Try.func35, Try.ntmps35
  go_wp2_with (first
    | (refine wpList_insert_own _ rfl _ _ _ 30 rfl 9 37 lawS Try.underlying30 unitElem w.heap.size _ _ rfl K.1 (by decide) _ _ _ rfl rfl (WideMaps.keyOf_string_mk Try.underlying9 (by decide)) _ [] unitElem_mk ?_; intro w1 h1 g1; replace K := K.step h1 g1; clear h1 g1)
    | go_in)
  go_ret
  exact ⟨rfl, K⟩
set_option maxRecDepth 100000 in
set_option maxHeartbeats 4000000 in
theorem impl_headTags (w : World) : Calls Try.prog 38 #[] w fun e w' => e = .returned (.map (some w.heap.size)) ∧ SetIn w w.heap.size 6 (setL ofHeadL) w' := by
  have hmm := @run_makeMap Try.prog
  have K := SetIn.made w
  go_enter Try.func38, Try.ntmps38
  go_wp2_with (first
    | (refine wpList_insert_own _ rfl _ _ _ 30 rfl 9 37 lawS Try.underlying30 unitElem w.heap.size _ _ rfl K.1 (by decide) _ _ _ rfl rfl (WideMaps.keyOf_string_mk Try.underlying9 (by decide)) _ [] unitElem_mk ?_; intro w1 h1 g1; replace K := K.step h1 g1; clear h1 g1)
    | go_in)
  go_ret
  exact ⟨rfl, K⟩
set_option maxRecDepth 100000 in
set_option maxHeartbeats 4000000 in
theorem impl_formatTags (w : World) : Calls Try.prog 39 #[] w fun e w' => e = .returned (.map (some w.heap.size)) ∧ SetIn w w.heap.size 8 (setL formatL) w' := by
  have hmm := @run_makeMap Try.prog
  have K := SetIn.made w
  go_enter Try.func39, Try.ntmps39
  go_wp2_with (first
    | (refine wpList_insert_own _ rfl _ _ _ 30 rfl 9 37 lawS Try.underlying30 unitElem w.heap.size _ _ rfl K.1 (by decide) _ _ _ rfl rfl (WideMaps.keyOf_string_mk Try.underlying9 (by decide)) _ [] unitElem_mk ?_; intro w1 h1 g1; replace K := K.step h1 g1; clear h1 g1)
    | go_in)
  go_ret
  exact ⟨rfl, K⟩
set_option maxRecDepth 100000 in
set_option maxHeartbeats 4000000 in
theorem impl_blockTags (w : World) : Calls Try.prog 40 #[] w fun e w' => e = .returned (.map (some w.heap.size)) ∧ SetIn w w.heap.size 13 (setL blockL) w' := by
  have hmm := @run_makeMap Try.prog
  have K := SetIn.made w
  go_enter Try.func40, Try.ntmps40
  go_wp2_with (first
    | (refine wpList_insert_own _ rfl _ _ _ 30 rfl 9 37 lawS Try.underlying30 unitElem w.heap.size _ _ rfl K.1 (by decide) _ _ _ rfl rfl (WideMaps.keyOf_string_mk Try.underlying9 (by decide)) _ [] unitElem_mk ?_; intro w1 h1 g1; replace K := K.step h1 g1; clear h1 g1)
    | go_in)
  go_ret
  exact ⟨rfl, K⟩
set_option maxRecDepth 100000 in
set_option maxHeartbeats 4000000 in
theorem impl_partTags (w : World) : Calls Try.prog 41 #[] w fun e w' => e = .returned (.map (some w.heap.size)) ∧ SetIn w w.heap.size 4 (setL partL) w' := by
  have hmm := @run_makeMap Try.prog
  have K := SetIn.made w
  go_enter Try.func41, Try.ntmps41
  go_wp2_with (first
    | (refine wpList_insert_own _ rfl _ _ _ 30 rfl 9 37 lawS Try.underlying30 unitElem w.heap.size _ _ rfl K.1 (by decide) _ _ _ rfl rfl (WideMaps.keyOf_string_mk Try.underlying9 (by decide)) _ [] unitElem_mk ?_; intro w1 h1 g1; replace K := K.step h1 g1; clear h1 g1)
    | go_in)
  go_ret
  exact ⟨rfl, K⟩
set_option maxRecDepth 100000 in
set_option maxHeartbeats 4000000 in
theorem impl_wallTags (w : World) : Calls Try.prog 42 #[] w fun e w' => e = .returned (.map (some w.heap.size)) ∧ SetIn w w.heap.size 4 (setL wallL) w' := by
  have hmm := @run_makeMap Try.prog
  have K := SetIn.made w
  go_enter Try.func42, Try.ntmps42
  go_wp2_with (first
    | (refine wpList_insert_own _ rfl _ _ _ 30 rfl 9 37 lawS Try.underlying30 unitElem w.heap.size _ _ rfl K.1 (by decide) _ _ _ rfl rfl (WideMaps.keyOf_string_mk Try.underlying9 (by decide)) _ [] unitElem_mk ?_; intro w1 h1 g1; replace K := K.step h1 g1; clear h1 g1)
    | go_in)
  go_ret
  exact ⟨rfl, K⟩
set_option maxRecDepth 100000 in
set_option maxHeartbeats 4000000 in
theorem impl_headingTags (w : World) : Calls Try.prog 43 #[] w fun e w' => e = .returned (.map (some w.heap.size)) ∧ SetIn w w.heap.size 3 (setL headL) w' := by
  have hmm := @run_makeMap Try.prog
  have K := SetIn.made w
  go_enter Try.func43, Try.ntmps43
  go_wp2_with (first
    | (refine wpList_insert_own _ rfl _ _ _ 30 rfl 9 37 lawS Try.underlying30 unitElem w.heap.size _ _ rfl K.1 (by decide) _ _ _ rfl rfl (WideMaps.keyOf_string_mk Try.underlying9 (by decide)) _ [] unitElem_mk ?_; intro w1 h1 g1; replace K := K.step h1 g1; clear h1 g1)
    | go_in)
  go_ret
  exact ⟨rfl, K⟩

end Go.Proofs.Ytjbjmjnjdadjcaa.Sg
