/- For every text, place and flag, the program's Ref answers as the model's does; nothing of the input is changed. The table of the program is as its text lays it. -/
import Derived.Test.YtlaidaghmhmgbaaDoorRfImplC
import Derived.Test.YtlaidaghmhmgbaaDoorRfLaid
namespace Go.Proofs.YtlaidaghmhmgbaaDoor.fnExactRef
open Go.ChangeShapes Go.WideShapes Go.ChangeAt Go.RowKit Sg

set_option maxHeartbeats 1000000 in
theorem walk (w : World) (s : ByteArray) (_hm : s.size ≤ maxLen) (p : Int) (_hp : (Lit.int .i64 p).wf = true) (value : Bool) (hT : Mid w) :
    Calls Tryd.prog 4 #[.string s, .int .i64 p, .bool value] w fun e w' => e = .returned (.bool true) ∧ Below w.heap.size w w' := by
  by_cases hbig : (1048576 : Int) < (s.size : Int)
  · go_enter Tryd.func4, Tryd.ntmps4
    go_wp2
    go_ret
    exact ⟨rfl, Below.refl _ _⟩
  have HT : Hid (Mid w) := hT
  have Hsp : Hid (∀ w, Calls Tryd.prog 21 #[.string s, .int .i64 p, .bool value] w fun e w' => e = .returned (refV (refO s p value)) ∧ Below w.heap.size w w') := fun w => specRef s p value w (by omega)
  have Him : Hid (∀ w, Mid w → Calls Tryd.prog 22 #[.string s, .int .i64 p, .bool value] w fun e w' => e = .returned (refV (refO s p value)) ∧ Below w.heap.size w w') := fun w h => implRef s p value w (by omega) h
  clear hT
  generalize refO s p value = r at *
  go_enter Tryd.func4, Tryd.ntmps4
  go_wp2_with fail
  refine (Hsp.out _).mono ?_
  rintro e w1 ⟨rfl, b1⟩
  have T1 : Mid w1 := HT.out.below (Nat.le_refl _) b1
  have Hc := Him.out _ T1
  clear T1 Him Hsp
  cases r with
  | none =>
    simp only [refV] at Hc ⊢
    go_wp2_with fail
    refine Hc.mono ?_
    rintro e w2 ⟨rfl, b2⟩
    have b12 : Below w.heap.size w w2 := b1.trans (b2.mono b1.size)
    clear b1 b2 Hc
    go_wp2
    go_ret
    exact ⟨rfl, b12⟩
  | some q =>
    obtain ⟨z, m⟩ := q
    simp only [refV] at Hc ⊢
    generalize putS z = t at *
    have hself : (t.toList == t.toList) = true := by simp
    have hself2 : ((m : Int) + 1 != (m : Int) + 1) = false := by simp
    go_wp2_with fail
    refine Hc.mono ?_
    rintro e w2 ⟨rfl, b2⟩
    have b12 : Below w.heap.size w w2 := b1.trans (b2.mono b1.size)
    clear b1 b2 Hc
    go_wp2
    go_ret
    exact ⟨rfl, b12⟩

set_option maxRecDepth 100000 in
theorem contract (H : Type) (enc : TypeId × Value → H) (W : World) (base : Nat) (args : Array Value) (ds gs : List (DataW H)) (before : List MemPlace)
    (hval : ∀ (j : Nat) t v, Tryd.f4.params[j]? = some t → args[j]? = some v → Value.okWide Tryd.prog W .any base t v)
    (hW : DataW.Whole enc Tryd.prog Tryd.f4.params.toList Rows.fnExactRefSpec.vars false W args.toList ds gs before) (hL : laidMetH Tryd.prog Rows.fnExactRefRow.laid W) (_hsh : W.ShapedOpen Tryd.prog) :
    Calls Tryd.prog 4 args W fun e W' => ∃ v, e = .returned v ∧ Rows.fnExactRefSpec.post enc Tryd.prog Tryd.f4 false true false false W args v W' := by
  have hW' := hW
  obtain ⟨p, q, hA0, hV, rfl, hfz, hnd⟩ := hW
  have hA : DataW.TrodAll enc Tryd.prog W 0 (fun _ => true) true Tryd.f4.params.toList args.toList ds p := hA0
  rw [Tryd.params4] at hA hval
  obtain ⟨v0, vs0, d0, ds0, p0, q0, hargs, rfl, rfl, h0, r0⟩ := trodAll_cons hA
  obtain ⟨v1, vs1, d1, ds1, p1, q1, rfl, rfl, rfl, h1, r1⟩ := trodAll_cons r0
  obtain ⟨v2, vs2, d2, ds2, p2, q2, rfl, rfl, rfl, h2, r2⟩ := trodAll_cons r1
  obtain ⟨rfl, rfl, rfl⟩ := trodAll_nil r2
  obtain rfl : args = #[v0, v1, v2] := by cases args; simp_all
  have hV0 := hV
  obtain ⟨_, _, _, _, gd0, _, rfl, _, _, _, _, _⟩ := trodVars_one hV
  obtain ⟨s0, rfl, rfl, rfl, w0⟩ := Go.ChangeMaps.open_string Tryd.underlying9 (hval 0 9 v0 rfl rfl) h0
  obtain ⟨a1, rfl, rfl, rfl, w1⟩ := open_int Tryd.underlying3 (hval 1 3 v1 rfl rfl) h1
  obtain ⟨a2, rfl, rfl, rfl⟩ := open_bool Tryd.underlying4 (hval 2 4 v2 rfl rfl) h2
  clear hA0
  refine (walk W s0 w0 a1 w1 a2 (Sg.tab_middleSigns hL)).mono fun e W' ⟨he, bel⟩ => ?_
  subst he
  exact ⟨_, rfl, _, _, _, [], _, _, hW', trodAll_mk1 (shut_bool Tryd.underlying4 _), (trodAll_cons_mk (Go.ChangeMaps.shut_string Tryd.underlying9 w0) (trodAll_cons_mk (shut_int Tryd.underlying3 w1) (trodAll_cons_mk (shut_bool Tryd.underlying4 a2) trodAll_mk0))), (Below.trodVars Sg.laidOut bel (by kernel_rfl) hV0), bel.frame _, fun h => by cases h⟩

theorem laid_met (os : Os) : laidMet Tryd.prog Rows.fnExactRefRow.laid (({ World.holding Tryd.prog os ⟨#[], #[], []⟩ with heap := ((World.holding Tryd.prog os ⟨#[], #[], []⟩).heap.modify 0 (Sg.refill Sg.cells_middleSigns)) } : World).forCall (fun _ _ => 0) ⟨#[], #[.string ⟨#[]⟩, .int .i64 0, .bool false], []⟩).memory :=
  laidMet_of_run' 8 (by kernel_rfl) (by kernel_rfl)
theorem reads (os : Os) {H : Type} (enc : TypeId × Value → H) : ∃ places, DataW.whole enc Tryd.prog (({ World.holding Tryd.prog os ⟨#[], #[], []⟩ with heap := ((World.holding Tryd.prog os ⟨#[], #[], []⟩).heap.modify 0 (Sg.refill Sg.cells_middleSigns)) } : World).forCall (fun _ _ => 0) ⟨#[], #[.string ⟨#[]⟩, .int .i64 0, .bool false], []⟩).memory Tryd.f4.params.toList Rows.fnExactRefSpec.vars false (#[(.string ⟨#[]⟩ : Value), (.int .i64 0 : Value), (.bool false : Value)] : Array Value).toList 8 = some ([.lit (.string []), .lit (.int .i64 0), .lit (.bool false)], [Rows.laid_loop_example_g00325_impl_middleSigns], places) :=
  ⟨MemPlace.row ⟨0, 0, none⟩ Sg.cells_middleSigns.size, by kernel_rfl⟩

set_option maxRecDepth 100000 in
theorem lifted (os : Os) (started : os.Started) (H : Type) (enc : TypeId × Value → H) (F : Stop.Interp) :
    ReturnsInHanded {} Tryd.checked os 4 .any ((OpenSpec.ofChange Rows.fnExactRefSpec).preRow enc Tryd.prog Tryd.f4 Rows.fnExactRefRow.domain false Rows.fnExactRefRow.laid) (((OpenSpec.ofChange Rows.fnExactRefSpec).at F).post enc Tryd.prog Tryd.f4 false true false false) := by
  obtain ⟨places, hx⟩ := reads os enc
  refine returnsInHanded_of_row (C := Tryd.checked) (s := OpenSpec.ofChange Rows.fnExactRefSpec) Sg.own started (by kernel_rfl) Tryd.func4
    (witness_row_at (enc := enc) (C := Tryd.checked) false ({ World.holding Tryd.prog os ⟨#[], #[], []⟩ with heap := ((World.holding Tryd.prog os ⟨#[], #[], []⟩).heap.modify 0 (Sg.refill Sg.cells_middleSigns)) } : World) #[.string ⟨#[]⟩, .int .i64 0, .bool false] rfl (by kernel_rfl) (by kernel_rfl) (by kernel_rfl)
      (OpenSpec.preRow_of_cond 8 hx (by kernel_rfl) (fun k hk => by cases hk) (by kernel_rfl) (laid_met os))) ?_
  intro W base args ds gs before hval hW _ _ _ hL hsh _
  exact contract H enc W base args ds gs before hval hW hL hsh

theorem said : Rows.FnExactRefSaid :=
  OpenClaim.holds_of_cond 4 Tryd.f4 rfl rfl rfl rfl rfl rfl rfl ⟨rfl, rfl, rfl, rfl, rfl⟩ rfl rfl rfl rfl rfl (by kernel_rfl) Tryd.func4 (by kernel_rfl)
    (of_decide_eq_true (by kernel_rfl)) (by unfold Func.isWrapper; first | (rw [if_pos (by decide +kernel)]; kernel_rfl) | (rw [if_neg (by decide +kernel)]; exact ⟨rfl, rfl⟩))
    (fun os started H enc _ F => by rw [OpenClaim.pre_eq_preRow]; exact lifted os started H enc F)

theorem plain (f : FuncId) (fn : Func) (hf : Tryd.pinned.checked.prog.funcNamed Rows.fnExactRefRow.func = some f) (hfn : Tryd.pinned.checked.prog.funcs[f]? = some fn) :
    false = Tryd.pinned.checked.prog.looks [] ∧ ∀ (j : Nat) t, fn.params[j]? = some t → Tryd.pinned.checked.prog.wantsStandIn t = false := by
  obtain rfl : f = 4 := Option.some.inj ((show Tryd.prog.funcNamed Rows.fnExactRefRow.func = some 4 by kernel_rfl).symm.trans hf) |>.symm
  obtain rfl : fn = Tryd.f4 := (Option.some.inj (Tryd.func4.symm.trans hfn)).symm
  refine ⟨by kernel_rfl, fun j t ht => ?_⟩
  match j with
  | 0 =>
    rw [Tryd.params4] at ht
    obtain rfl : t = 9 := by simpa using ht.symm
    exact (show Tryd.prog.wantsStandIn 9 = false by kernel_rfl)
  | 1 =>
    rw [Tryd.params4] at ht
    obtain rfl : t = 3 := by simpa using ht.symm
    exact (show Tryd.prog.wantsStandIn 3 = false by kernel_rfl)
  | 2 =>
    rw [Tryd.params4] at ht
    obtain rfl : t = 4 := by simpa using ht.symm
    exact (show Tryd.prog.wantsStandIn 4 = false by kernel_rfl)
  | j + 3 =>
    rw [Tryd.params4] at ht
    simp at ht

end Go.Proofs.YtlaidaghmhmgbaaDoor.fnExactRef

namespace Go.Proofs.YtlaidaghmhmgbaaDoor
theorem fnExactRef_holds : Rows.FnExactRefCardSaid :=
  Claim7.holds_tied_plain_at .later [] _ _ _ _ fnExactRef.said (fun _ h => by cases h) (by kernel_rfl) (fun _ h => by cases h) fnExactRef_row_tie rfl ⟨rfl, rfl⟩ (by kernel_rfl) rfl fnExactRef.plain (by kernel_rfl)
#print axioms fnExactRef_holds
end Go.Proofs.YtlaidaghmhmgbaaDoor
