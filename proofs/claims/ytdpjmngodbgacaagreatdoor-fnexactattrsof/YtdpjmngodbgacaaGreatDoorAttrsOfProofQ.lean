/- FnExactAttrsOf: at every list of attributes AttrsOf answers as its model, in memory of its own, and writes into nothing of it. -/
import Derived.Test.YtdpjmngodbgacaaGreatDoorStLaidQ
import Derived.Test.YtdpjmngodbgacaaGreatDoorElLawAttrsOfQ
import Derived.Test.YtdpjmngodbgacaaGreatDoorM15
import Derived.Test.YtdpjmngodbgacaaGreatDoorAoImplQ
namespace Go.Proofs.YtdpjmngodbgacaaGreatDoor.fnExactAttrsOf
open Go.ChangeShapes Go.WideShapes Go.ChangeAt Go.RowKit Sg

theorem walk (w : World) (z : List AttrB) (a : Option Addr) (c : Nat) (h : AttrsIn w a z) (m : AttrsHeld z) (hT : NmT w) :
    Calls Tryz.prog 3 #[.slice a z.length c] w fun e w' => e = .returned (.bool true) ∧ Below w.heap.size w w' :=
  lawAttrsOf NmT (fun _ _ h b => h.below b) z a c w hT h m (fun hw W b cp hA hW => implAttrsOf z (some ⟨b, 0, none⟩) z.length cp W hA rfl (attrs_light hw).1 (attrs_light hw).2 hW)

set_option maxRecDepth 100000 in
theorem contract (H : Type) (enc : TypeId × Value → H) (W : World) (base : Nat) (args : Array Value) (ds gs : List (DataW H)) (before : List MemPlace)
    (hval : ∀ (j : Nat) t v, Tryz.f3.params[j]? = some t → args[j]? = some v → Value.okWide Tryz.prog W .any base t v)
    (hW : DataW.Whole enc Tryz.prog Tryz.f3.params.toList Rows.fnExactAttrsOfSpec.vars false W args.toList ds gs before) (hL : laidMetH Tryz.prog Rows.fnExactAttrsOfRow.laid W) (_hsh : W.ShapedOpen Tryz.prog) :
    Calls Tryz.prog 3 args W fun e W' => ∃ v, e = .returned v ∧ Rows.fnExactAttrsOfSpec.post enc Tryz.prog Tryz.f3 false true false false W args v W' := by
  have hW' := hW
  obtain ⟨p, q, hA0, hV, rfl, hfz, hnd⟩ := hW
  have hA : DataW.TrodAll enc Tryz.prog W 0 (fun _ => true) true Tryz.f3.params.toList args.toList ds p := hA0
  rw [Tryz.params3] at hA hval
  obtain ⟨v0, vs0, d0, ds0, p0, q0, hargs, rfl, rfl, h0, r0⟩ := trodAll_cons hA
  obtain ⟨rfl, rfl, rfl⟩ := trodAll_nil r0
  obtain rfl : args = #[v0] := by cases args; simp_all
  obtain ⟨rfl, rfl⟩ := trodVars_none hV
  obtain ⟨a0, len0, cap0, rfl⟩ := okWide_slice Tryz.underlying22 (hval 0 22 v0 rfl rfl)
  have k0 := h0
  have lt0 : ∀ x ∈ p0, x.block < W.heap.size := by obtain ⟨m, hm⟩ := k0; exact DataW.trod_lt m _ _ _ hm
  obtain ⟨z0, rfl, w0, m0⟩ := attrs_came_in h0
  clear hA0
  refine (walk W z0 a0 cap0 w0 m0 (Sg.nm_have hL)).mono fun e W' ⟨he, bel⟩ => ?_
  subst he
  exact ⟨_, rfl, _, _, _, [], _, [], hW', trodAll_mk1 (shut_bool Tryz.underlying4 _), (trodAll_cons_mk (Below.trod Sg.laidOut (by kernel_rfl) (of_decide_eq_true (by kernel_rfl)) k0 bel lt0) trodAll_mk0), rfl, bel.frame _, fun h => by cases h⟩

theorem laid_met (os : Os) : laidMetH Tryz.prog Rows.fnExactAttrsOfRow.laid ((Sg.nmWorld os).forCall (fun _ _ => 0) ⟨#[], #[.slice none 0 0], []⟩).memory :=
  Sg.nm_met os _
theorem reads (os : Os) {H : Type} (enc : TypeId × Value → H) : ∃ places, DataW.whole enc Tryz.prog ((Sg.nmWorld os).forCall (fun _ _ => 0) ⟨#[], #[.slice none 0 0], []⟩).memory Tryz.f3.params.toList Rows.fnExactAttrsOfSpec.vars false (#[(.slice none 0 0 : Value)] : Array Value).toList 8 = some ([.nil], [], places) :=
  ⟨[], by kernel_rfl⟩

set_option maxRecDepth 100000 in
theorem lifted (os : Os) (started : os.Started) (H : Type) (enc : TypeId × Value → H) (F : Stop.Interp) :
    ReturnsInHanded {} Tryz.checked os 3 .any ((OpenSpec.ofChange Rows.fnExactAttrsOfSpec).preRow enc Tryz.prog Tryz.f3 Rows.fnExactAttrsOfRow.domain false Rows.fnExactAttrsOfRow.laid) (((OpenSpec.ofChange Rows.fnExactAttrsOfSpec).at F).post enc Tryz.prog Tryz.f3 false true false false) := by
  obtain ⟨places, hx⟩ := reads os enc
  refine returnsInHanded_of_row (C := Tryz.checked) (s := OpenSpec.ofChange Rows.fnExactAttrsOfSpec) Sg.own started (by kernel_rfl) Tryz.func3
    (witness_row_atRef (enc := enc) (C := Tryz.checked) false (Sg.nmWorld os) #[.slice none 0 0] (Sg.nm_os os) (by kernel_rfl) (by kernel_rfl) (by kernel_rfl)
      (OpenSpec.preRow_of_cond 8 hx (by kernel_rfl) (fun k hk => by cases hk) (by kernel_rfl) (laid_met os))) ?_
  intro W base args ds gs before hval hW _ _ _ hL hsh _
  exact contract H enc W base args ds gs before hval hW hL hsh

theorem said : Rows.FnExactAttrsOfSaid :=
  OpenClaim.holds_of_cond 3 Tryz.f3 rfl rfl rfl rfl rfl rfl rfl ⟨rfl, rfl, rfl, rfl, rfl⟩ rfl rfl rfl rfl rfl (by kernel_rfl) Tryz.func3 (by kernel_rfl)
    (of_decide_eq_true (by kernel_rfl)) (by unfold Func.isWrapper; first | (rw [if_pos (by decide +kernel)]; kernel_rfl) | (rw [if_neg (by decide +kernel)]; exact ⟨rfl, rfl⟩))
    (fun os started H enc _ F => by rw [OpenClaim.pre_eq_preRow]; exact lifted os started H enc F)

theorem plain (f : FuncId) (fn : Func) (hf : Tryz.pinned.checked.prog.funcNamed Rows.fnExactAttrsOfRow.func = some f) (hfn : Tryz.pinned.checked.prog.funcs[f]? = some fn) :
    true = Tryz.pinned.checked.prog.looks [] ∧ ∀ (j : Nat) t, fn.params[j]? = some t → Tryz.pinned.checked.prog.wantsStandIn t = false := by
  obtain rfl : f = 3 := Option.some.inj ((show Tryz.prog.funcNamed Rows.fnExactAttrsOfRow.func = some 3 by kernel_rfl).symm.trans hf) |>.symm
  obtain rfl : fn = Tryz.f3 := (Option.some.inj (Tryz.func3.symm.trans hfn)).symm
  refine ⟨by kernel_rfl, fun j t ht => ?_⟩
  match j with
  | 0 =>
    rw [Tryz.params3] at ht
    obtain rfl : t = 22 := by simpa using ht.symm
    exact (show Tryz.prog.wantsStandIn 22 = false by kernel_rfl)
  | j + 1 =>
    rw [Tryz.params3] at ht
    simp at ht

end Go.Proofs.YtdpjmngodbgacaaGreatDoor.fnExactAttrsOf

namespace Go.Proofs.YtdpjmngodbgacaaGreatDoor
theorem fnExactAttrsOf_holds : Rows.FnExactAttrsOfCardSaid :=
  Claim7.holds_tied_plain_at .later [] _ _ _ _ fnExactAttrsOf.said (fun _ h => by cases h) (by kernel_rfl) (fun _ h => by cases h) fnExactAttrsOf_row_tie rfl ⟨rfl, rfl⟩ (by kernel_rfl) rfl fnExactAttrsOf.plain (by kernel_rfl)
#print axioms fnExactAttrsOf_holds
end Go.Proofs.YtdpjmngodbgacaaGreatDoor
