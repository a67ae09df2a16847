/- For every number, the program's Numbered answers as the model's does; nothing of the input is changed. The table of the program is as its text lays it. -/
import Derived.Test.YtcgnblkajpmpbaaDoorRfNum
import Derived.Test.YtcgnblkajpmpbaaDoorKdLaid
import Derived.OpenVars
namespace Go.Proofs.YtcgnblkajpmpbaaDoor.Sg
def cells_middleSigns : Array Value := (midTab.map (Value.int .i64)).toArray

theorem tab_middleSigns {W : World} (h : laidMetH Tryd.prog Rows.fnExactNumberedRow.laid W) : Lib.TabIs Tryd.prog W "loop.example/g00325/impl.middleSigns" .i64 midTab := by
  have h' : laidMet Tryd.prog (("loop.example/g00325/impl.middleSigns", Lib.tabData .i64 midTab) :: []) W := h
  exact Lib.tabIs_of_head (t := 26) (e := 3) (n := 32) (g := 0) (by kernel_rfl) (by kernel_rfl) Tryd.underlying26 Tryd.underlying3 (by kernel_rfl) (by kernel_rfl) h'
end Go.Proofs.YtcgnblkajpmpbaaDoor.Sg

namespace Go.Proofs.YtcgnblkajpmpbaaDoor.fnExactNumbered
open Go.ChangeShapes Go.WideShapes Go.ChangeAt Go.RowKit Sg

set_option maxHeartbeats 1000000 in
theorem walk (w : World) (a0 : Int) (_h0 : (Lit.int .i64 a0).wf = true) (hT : Lib.TabIs Tryd.prog w "loop.example/g00325/impl.middleSigns" .i64 midTab) :
    Calls Tryd.prog 3 #[.int .i64 a0] w fun e w' => e = .returned (.bool true) ∧ Below w.heap.size w w' := by
  have Hg : Hid (0 < w.heap.size) := by
    show _ < _
    have hc := hT.cell (g := 0) (by kernel_rfl) 0 (by decide)
    unfold World.cell? at hc
    simp only at hc
    cases hh : w.heap[(0 : Nat)]? with
    | none => rw [hh] at hc; cases hc
    | some o => exact (Array.getElem?_eq_some_iff.1 hh).1
  have HT : Hid (Lib.TabIs Tryd.prog w "loop.example/g00325/impl.middleSigns" .i64 midTab) := hT
  clear hT
  go_enter Tryd.func3, Tryd.ntmps3
  go_wp2_with fail
  refine (specNumbered a0 _).mono ?_
  rintro e w1 ⟨rfl, b1⟩
  have HT1 : Hid (Lib.TabIs Tryd.prog w1 "loop.example/g00325/impl.middleSigns" .i64 midTab) := by
    have h := HT.out
    unfold Hid Lib.TabIs World.var? at *
    rw [show Tryd.prog.globalNamed "loop.example/g00325/impl.middleSigns" = some 0 by kernel_rfl] at h ⊢
    simp only [Option.bind_some] at h ⊢
    rw [b1.block _ Hg]
    exact h
  go_wp2_with fail
  refine (implNumbered a0 _ HT1.out).mono ?_
  rintro e w2 ⟨rfl, h2⟩
  have b2 : Below w.heap.size w w2 := same_below h2 b1
  clear h2
  generalize numB a0 = x
  clear b1
  have hx : (x != x) = false := by simp
  go_wp2
  go_ret
  exact ⟨rfl, b2⟩

theorem contract (H : Type) (enc : TypeId × Value → H) (W : World) (base : Nat) (args : Array Value) (ds gs : List (DataW H)) (before : List MemPlace)
    (hval : ∀ (j : Nat) t v, Tryd.f3.params[j]? = some t → args[j]? = some v → Value.okWide Tryd.prog W .any base t v)
    (hW : DataW.Whole enc Tryd.prog Tryd.f3.params.toList Rows.fnExactNumberedSpec.vars false W args.toList ds gs before) (hL : laidMetH Tryd.prog Rows.fnExactNumberedRow.laid W) (_hsh : W.ShapedOpen Tryd.prog) :
    Calls Tryd.prog 3 args W fun e W' => ∃ v, e = .returned v ∧ Rows.fnExactNumberedSpec.post enc Tryd.prog Tryd.f3 false true false false W args v W' := by
  have hW' := hW
  obtain ⟨p, q, hA0, hV, rfl, hfz, hnd⟩ := hW
  have hA : DataW.TrodAll enc Tryd.prog W 0 (fun _ => true) true Tryd.f3.params.toList args.toList ds p := hA0
  rw [Tryd.params3] at hA hval
  obtain ⟨v0, vs0, d0, ds0, p0, q0, hargs, rfl, rfl, h0, r0⟩ := trodAll_cons hA
  obtain ⟨rfl, rfl, rfl⟩ := trodAll_nil r0
  obtain rfl : args = #[v0] := by cases args; simp_all
  have hV0 := hV
  obtain ⟨_, _, _, _, gd0, _, rfl, _, _, _, _, _⟩ := trodVars_one hV
  obtain ⟨a0, rfl, rfl, rfl, w0⟩ := open_int Tryd.underlying3 (hval 0 3 v0 rfl rfl) h0
  clear hA0
  refine (walk W a0 w0 (Sg.tab_middleSigns hL)).mono fun e W' ⟨he, bel⟩ => ?_
  subst he
  exact ⟨_, rfl, _, _, _, [], _, _, hW', trodAll_mk1 (shut_bool Tryd.underlying4 _), (trodAll_cons_mk (shut_int Tryd.underlying3 w0) trodAll_mk0), (Below.trodVars Sg.laidOut bel (by kernel_rfl) hV0), bel.frame _, fun h => by cases h⟩

theorem laid_met (os : Os) : laidMet Tryd.prog Rows.fnExactNumberedRow.laid (({ World.holding Tryd.prog os ⟨#[], #[], []⟩ with heap := ((World.holding Tryd.prog os ⟨#[], #[], []⟩).heap.modify 0 (Sg.refill Sg.cells_middleSigns)) } : World).forCall (fun _ _ => 0) ⟨#[], #[.int .i64 0], []⟩).memory :=
  laidMet_of_run' 8 (by kernel_rfl) (by kernel_rfl)
theorem reads (os : Os) {H : Type} (enc : TypeId × Value → H) : ∃ places, DataW.whole enc Tryd.prog (({ World.holding Tryd.prog os ⟨#[], #[], []⟩ with heap := ((World.holding Tryd.prog os ⟨#[], #[], []⟩).heap.modify 0 (Sg.refill Sg.cells_middleSigns)) } : World).forCall (fun _ _ => 0) ⟨#[], #[.int .i64 0], []⟩).memory Tryd.f3.params.toList Rows.fnExactNumberedSpec.vars false (#[(.int .i64 0 : Value)] : Array Value).toList 8 = some ([.lit (.int .i64 0)], [Rows.laid_loop_example_g00325_impl_middleSigns], places) :=
  ⟨MemPlace.row ⟨0, 0, none⟩ Sg.cells_middleSigns.size, by kernel_rfl⟩

set_option maxRecDepth 100000 in
theorem lifted (os : Os) (started : os.Started) (H : Type) (enc : TypeId × Value → H) (F : Stop.Interp) :
    ReturnsInHanded {} Tryd.checked os 3 .any ((OpenSpec.ofChange Rows.fnExactNumberedSpec).preRow enc Tryd.prog Tryd.f3 Rows.fnExactNumberedRow.domain false Rows.fnExactNumberedRow.laid) (((OpenSpec.ofChange Rows.fnExactNumberedSpec).at F).post enc Tryd.prog Tryd.f3 false true false false) := by
  obtain ⟨places, hx⟩ := reads os enc
  refine returnsInHanded_of_row (C := Tryd.checked) (s := OpenSpec.ofChange Rows.fnExactNumberedSpec) Sg.own started (by kernel_rfl) Tryd.func3
    (witness_row_at (enc := enc) (C := Tryd.checked) false ({ World.holding Tryd.prog os ⟨#[], #[], []⟩ with heap := ((World.holding Tryd.prog os ⟨#[], #[], []⟩).heap.modify 0 (Sg.refill Sg.cells_middleSigns)) } : World) #[.int .i64 0] rfl (by kernel_rfl) (by kernel_rfl) (by kernel_rfl)
      (OpenSpec.preRow_of_cond 8 hx (by kernel_rfl) (fun k hk => by cases hk) (by kernel_rfl) (laid_met os))) ?_
  intro W base args ds gs before hval hW _ _ _ hL hsh _
  exact contract H enc W base args ds gs before hval hW hL hsh

theorem said : Rows.FnExactNumberedSaid :=
  OpenClaim.holds_of_cond 3 Tryd.f3 rfl rfl rfl rfl rfl rfl rfl ⟨rfl, rfl, rfl, rfl, rfl⟩ rfl rfl rfl rfl rfl (by kernel_rfl) Tryd.func3 (by kernel_rfl)
    (of_decide_eq_true (by kernel_rfl)) (by unfold Func.isWrapper; first | (rw [if_pos (by decide +kernel)]; kernel_rfl) | (rw [if_neg (by decide +kernel)]; exact ⟨rfl, rfl⟩))
    (fun os started H enc _ F => by rw [OpenClaim.pre_eq_preRow]; exact lifted os started H enc F)

theorem plain (f : FuncId) (fn : Func) (hf : Tryd.pinned.checked.prog.funcNamed Rows.fnExactNumberedRow.func = some f) (hfn : Tryd.pinned.checked.prog.funcs[f]? = some fn) :
    false = Tryd.pinned.checked.prog.looks [] ∧ ∀ (j : Nat) t, fn.params[j]? = some t → Tryd.pinned.checked.prog.wantsStandIn t = false := by
  obtain rfl : f = 3 := Option.some.inj ((show Tryd.prog.funcNamed Rows.fnExactNumberedRow.func = some 3 by kernel_rfl).symm.trans hf) |>.symm
  obtain rfl : fn = Tryd.f3 := (Option.some.inj (Tryd.func3.symm.trans hfn)).symm
  refine ⟨by kernel_rfl, fun j t ht => ?_⟩
  match j with
  | 0 =>
    rw [Tryd.params3] at ht
    obtain rfl : t = 3 := by simpa using ht.symm
    exact (show Tryd.prog.wantsStandIn 3 = false by kernel_rfl)
  | j + 1 =>
    rw [Tryd.params3] at ht
    simp at ht

end Go.Proofs.YtcgnblkajpmpbaaDoor.fnExactNumbered

namespace Go.Proofs.YtcgnblkajpmpbaaDoor
theorem fnExactNumbered_holds : Rows.FnExactNumberedCardSaid :=
  Claim7.holds_tied_plain_at .later [] _ _ _ _ fnExactNumbered.said (fun _ h => by cases h) (by kernel_rfl) (fun _ h => by cases h) fnExactNumbered_row_tie rfl ⟨rfl, rfl⟩ (by kernel_rfl) rfl fnExactNumbered.plain (by kernel_rfl)
#print axioms fnExactNumbered_holds
end Go.Proofs.YtcgnblkajpmpbaaDoor
