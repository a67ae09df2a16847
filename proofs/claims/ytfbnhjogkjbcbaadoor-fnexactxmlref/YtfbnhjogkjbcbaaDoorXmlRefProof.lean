/- For every text of at most 2^20 bytes (a longer one is let go by the law itself) and every place, the program's XmlRef answers as the model's does. -/
import Derived.Test.YtfbnhjogkjbcbaaDoorPcLaid
import Derived.Test.YtfbnhjogkjbcbaaDoorPcRefI
import Derived.Test.YtfbnhjogkjbcbaaDoorXmLawXmlRef
namespace Go.Proofs.YtfbnhjogkjbcbaaDoor.fnExactXmlRef
open Go.ChangeShapes Go.WideShapes Go.ChangeAt Go.RowKit Sg

theorem walk (w : World) (s : ByteArray) (_hs : s.size ≤ maxLen) (i : Int) (_h : (Lit.int .i64 i).wf = true) (hT : ∃ a, ErrA a w) (hX : MaxLen w) :
    Calls Tryd.prog 4 #[.string s, .int .i64 i] w fun e w' => e = .returned (.bool true) ∧ Below w.heap.size w w' := by
  obtain ⟨a, hT⟩ := hT
  exact lawXmlRef (fun W => ErrA a W ∧ MaxLen W) (fun _ _ h b => ⟨h.1.below b, h.2.below b⟩) (fun s i W hs hT => implXmlRef s i a W (by omega) hT.1 hT.2) w s i ⟨hT, hX⟩

set_option maxRecDepth 100000 in
theorem contract (H : Type) (enc : TypeId × Value → H) (W : World) (base : Nat) (args : Array Value) (ds gs : List (DataW H)) (before : List MemPlace)
    (hval : ∀ (j : Nat) t v, Tryd.f4.params[j]? = some t → args[j]? = some v → Value.okWide Tryd.prog W .any base t v)
    (hW : DataW.Whole enc Tryd.prog Tryd.f4.params.toList Rows.fnExactXmlRefSpec.vars false W args.toList ds gs before) (hL : laidMetH Tryd.prog Rows.fnExactXmlRefRow.laid W) (hsh : W.ShapedOpen Tryd.prog) :
    Calls Tryd.prog 4 args W fun e W' => ∃ v, e = .returned v ∧ Rows.fnExactXmlRefSpec.post enc Tryd.prog Tryd.f4 false true false false W args v W' := by
  have hW' := hW
  obtain ⟨p, q, hA0, hV, rfl, hfz, hnd⟩ := hW
  have hA : DataW.TrodAll enc Tryd.prog W 0 (fun _ => true) true Tryd.f4.params.toList args.toList ds p := hA0
  rw [Tryd.params4] at hA hval
  obtain ⟨v0, vs0, d0, ds0, p0, q0, hargs, rfl, rfl, h0, r0⟩ := trodAll_cons hA
  obtain ⟨v1, vs1, d1, ds1, p1, q1, rfl, rfl, rfl, h1, r1⟩ := trodAll_cons r0
  obtain ⟨rfl, rfl, rfl⟩ := trodAll_nil r1
  obtain rfl : args = #[v0, v1] := by cases args; simp_all
  have hV0 := hV
  obtain ⟨_, _, _, _, gd0, _, rfl, _, _, _, _, _⟩ := trodVars_one hV
  obtain ⟨s0, rfl, rfl, rfl, w0⟩ := Go.ChangeMaps.open_string Tryd.underlying9 (hval 0 9 v0 rfl rfl) h0
  obtain ⟨a1, rfl, rfl, rfl, w1⟩ := open_int Tryd.underlying3 (hval 1 3 v1 rfl rfl) h1
  clear hA0
  refine (walk W s0 w0 a1 w1 (Sg.pr_have hL) (Sg.maxlen hsh)).mono fun e W' ⟨he, bel⟩ => ?_
  subst he
  exact ⟨_, rfl, _, _, _, [], _, _, hW', trodAll_mk1 (shut_bool Tryd.underlying4 _), (trodAll_cons_mk (Go.ChangeMaps.shut_string Tryd.underlying9 w0) (trodAll_cons_mk (shut_int Tryd.underlying3 w1) trodAll_mk0)), (Below.trodVars Sg.laidOut bel (by kernel_rfl) hV0), bel.frame _, fun h => by cases h⟩

theorem laid_met (os : Os) : laidMetH Tryd.prog Rows.fnExactXmlRefRow.laid ((Sg.prWorld os).forCall (fun _ _ => 0) ⟨#[], #[.string ⟨#[]⟩, .int .i64 0], []⟩).memory :=
  Sg.pr_met os _
theorem reads (os : Os) {H : Type} (enc : TypeId × Value → H) : ∃ gs places, DataW.whole enc Tryd.prog ((Sg.prWorld os).forCall (fun _ _ => 0) ⟨#[], #[.string ⟨#[]⟩, .int .i64 0], []⟩).memory Tryd.f4.params.toList Rows.fnExactXmlRefSpec.vars false (#[(.string ⟨#[]⟩ : Value), (.int .i64 0 : Value)] : Array Value).toList 8 = some ([.lit (.string []), .lit (.int .i64 0)], gs, places) :=
  by
  have h : (DataW.whole enc Tryd.prog ((Sg.prWorld os).forCall (fun _ _ => 0) ⟨#[], #[.string ⟨#[]⟩, .int .i64 0], []⟩).memory Tryd.f4.params.toList Rows.fnExactXmlRefSpec.vars false (#[(.string ⟨#[]⟩ : Value), (.int .i64 0 : Value)] : Array Value).toList 8).map (fun x => x.1) = some [.lit (.string []), .lit (.int .i64 0)] := by kernel_rfl
  obtain ⟨⟨x1, x2, x3⟩, hx, e⟩ := Option.map_eq_some_iff.1 h
  have e1 : x1 = [.lit (.string []), .lit (.int .i64 0)] := e
  subst e1
  exact ⟨x2, x3, hx⟩

set_option maxRecDepth 100000 in
theorem lifted (os : Os) (started : os.Started) (H : Type) (enc : TypeId × Value → H) (F : Stop.Interp) :
    ReturnsInHanded {} Tryd.checked os 4 .any ((OpenSpec.ofChange Rows.fnExactXmlRefSpec).preRow enc Tryd.prog Tryd.f4 Rows.fnExactXmlRefRow.domain false Rows.fnExactXmlRefRow.laid) (((OpenSpec.ofChange Rows.fnExactXmlRefSpec).at F).post enc Tryd.prog Tryd.f4 false true false false) := by
  obtain ⟨gs, places, hx⟩ := reads os enc
  refine returnsInHanded_of_row (C := Tryd.checked) (s := OpenSpec.ofChange Rows.fnExactXmlRefSpec) Sg.own started (by kernel_rfl) Tryd.func4
    (witness_row_atRef (enc := enc) (C := Tryd.checked) false (Sg.prWorld os) #[.string ⟨#[]⟩, .int .i64 0] (Sg.pr_os os) (by kernel_rfl) (by kernel_rfl) (by kernel_rfl)
      (OpenSpec.preRow_of_cond 8 hx (by kernel_rfl) (fun k hk => by cases hk) (by kernel_rfl) (laid_met os))) ?_
  intro W base args ds gs before hval hW _ _ _ hL hsh _
  exact contract H enc W base args ds gs before hval hW hL hsh

theorem said : Rows.FnExactXmlRefSaid :=
  OpenClaim.holds_of_cond 4 Tryd.f4 rfl rfl rfl rfl rfl rfl rfl ⟨rfl, rfl, rfl, rfl, rfl⟩ rfl rfl rfl rfl rfl (by kernel_rfl) Tryd.func4 (by kernel_rfl)
    (of_decide_eq_true (by kernel_rfl)) (by unfold Func.isWrapper; first | (rw [if_pos (by decide +kernel)]; kernel_rfl) | (rw [if_neg (by decide +kernel)]; exact ⟨rfl, rfl⟩))
    (fun os started H enc _ F => by rw [OpenClaim.pre_eq_preRow]; exact lifted os started H enc F)

theorem plain (f : FuncId) (fn : Func) (hf : Tryd.pinned.checked.prog.funcNamed Rows.fnExactXmlRefRow.func = some f) (hfn : Tryd.pinned.checked.prog.funcs[f]? = some fn) :
    true = Tryd.pinned.checked.prog.looks [] ∧ ∀ (j : Nat) t, fn.params[j]? = some t → Tryd.pinned.checked.prog.wantsStandIn t = false := by
  obtain rfl : f = 4 := Option.some.inj ((show Tryd.prog.funcNamed Rows.fnExactXmlRefRow.func = some 4 by kernel_rfl).symm.trans hf) |>.symm
  obtain rfl : fn = Tryd.f4 := (Option.some.inj (Tryd.func4.symm.trans hfn)).symm
  refine ⟨by kernel_rfl, fun j t ht => ?_⟩
  match j with
  | 0 =>
    rw [Tryd.params4] at ht
    obtain rfl : t = 9 := by simpa using ht.symm
    exact (show Tryd.prog.wantsStandIn 9 = false by kernel_rfl)
  | 1 =>
    rw [Tryd.params4] at ht
    obtain rfl : t = 3 := by simpa using ht.symm
    exact (show Tryd.prog.wantsStandIn 3 = false by kernel_rfl)
  | j + 2 =>
    rw [Tryd.params4] at ht
    simp at ht

end Go.Proofs.YtfbnhjogkjbcbaaDoor.fnExactXmlRef

namespace Go.Proofs.YtfbnhjogkjbcbaaDoor
theorem fnExactXmlRef_holds : Rows.FnExactXmlRefCardSaid :=
  Claim7.holds_tied_plain_at .later [] _ _ _ _ fnExactXmlRef.said (fun _ h => by cases h) (by kernel_rfl) (fun _ h => by cases h) fnExactXmlRef_row_tie rfl ⟨rfl, rfl⟩ (by kernel_rfl) rfl fnExactXmlRef.plain (by kernel_rfl)
#print axioms fnExactXmlRef_holds
end Go.Proofs.YtfbnhjogkjbcbaaDoor
