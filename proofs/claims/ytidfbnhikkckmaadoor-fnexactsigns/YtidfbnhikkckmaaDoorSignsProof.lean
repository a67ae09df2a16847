/- For every text of at most 2^20 bytes (a longer one is let go by the law itself), the program's Signs gives the signs that the model's gives, in memory that it shares with no other answer. -/
import Derived.Test.YtidfbnhikkckmaaDoorSgLaid
import Derived.Test.YtidfbnhikkckmaaDoorSgSignsI
import Derived.Test.YtidfbnhikkckmaaDoorSgMark
namespace Go.Proofs.YtidfbnhikkckmaaDoor.fnExactSigns
open Go.ChangeShapes Go.WideShapes Go.ChangeAt Go.RowKit Sg

set_option maxHeartbeats 2000000 in
theorem walk (w : World) (s : ByteArray) (hs : s.size ≤ maxLen) (hT : Lib.Utf8Tabs 0 1 w) :
    Calls Tryd.prog 5 #[.string s] w fun e w' => e = .returned (.bool true) ∧ Below w.heap.size w w' := by
  unfold maxLen at hs
  have HT : Hid (Lib.Utf8Tabs 0 1 w) := hT
  clear hT
  by_cases hbig : (1048576 : Int) < (s.size : Int)
  · go_enter Tryd.func5, Tryd.ntmps5
    go_wp2_with fail
    go_ret
    exact ⟨rfl, Below.refl _ _⟩
  have hn := signsL_length s
  have hsz : s.size ≤ 17592186044416 := by omega
  have hspec := fun w => specSigns s w hsz
  have himpl := fun w hT => implSigns s w hsz hT
  generalize signsL s = zs at *
  have Hspec : Hid (∀ w, Calls Tryd.prog 30 #[.string s] w fun e w' => ∃ a cap, e = .returned (.slice a zs.length cap) ∧ Owned w' w.heap.size a cap zs ∧ Below w.heap.size w w') := hspec
  have Himpl : Hid (∀ w, Lib.Utf8Tabs 0 1 w → Calls Tryd.prog 29 #[.string s] w fun e w' => ∃ a cap, e = .returned (.slice a zs.length cap) ∧ Owned w' w.heap.size a cap zs ∧ Below w.heap.size w w') := himpl
  clear hspec himpl
  go_enter Tryd.func5, Tryd.ntmps5
  go_wp2_with fail
  refine (Hspec.out _).mono ?_
  rintro e w1 ⟨a1, c1, rfl, o1, b1⟩
  have HT1 : Hid (Lib.Utf8Tabs 0 1 w1) := Utf8Tabs_below HT.out b1
  go_wp2_with fail
  refine (Himpl.out _ HT1.out).mono ?_
  rintro e w2 ⟨a2, c2, rfl, o2, b2⟩
  have o12 := o1.below (Nat.le_refl _) b2
  have b02 : Below w.heap.size w w2 := b1.trans (b2.mono b1.size)
  go_wp2_with fail
  refine (eqIntS_same zs a2 a1 c2 c1 _ o2.ints o12.ints (by omega)).mono ?_
  rintro e w3 ⟨rfl, b3⟩
  have o23 := o2.below (Nat.le_refl _) b3
  have b03 : Below w.heap.size w w3 := b02.trans (b3.mono b02.size)
  have b13 : Below w1.heap.size w1 w3 := b2.trans (b3.mono b2.size)
  clear o12 o2 b3 b02 b2
  go_wp2_with fail
  refine (markIntS_any zs a2 c2 1 w1.heap.size _ o23 (by omega) (by omega) (by omega)).mono ?_
  rintro e w4 ⟨rfl, o24, b4, s4⟩
  have b04 : Below w.heap.size w w4 := b03.trans (b4.mono b1.size)
  have o14 := o1.below (Nat.le_refl _) (b13.trans b4)
  clear o23 b4 s4 b13 b03 o1
  have HT4 : Hid (Lib.Utf8Tabs 0 1 w4) := Utf8Tabs_below HT.out b04
  have hq1 : decide ((1 : Int) + (zs.length : Int) < 0) = false := by simp; omega
  have hq2 : ((1 : Int) + (zs.length : Int) != 1 + (zs.length : Int)) = false := by simp
  go_wp2_with fail
  refine (heldIntS_any zs.length a2 c2 1 _ o24.ints (by omega) (by omega) (by omega)).mono ?_
  rintro e w5 ⟨rfl, rfl⟩
  go_wp2_with fail
  refine (Himpl.out _ HT4.out).mono ?_
  rintro e w6 ⟨a6, c6, rfl, o6, b6⟩
  have o16 := o14.below (Nat.le_refl _) b6
  have o26 := o24.below (Nat.le_refl _) b6
  have b06 : Below w.heap.size w w6 := b04.trans (b6.mono b04.size)
  clear o14 o24 b04 b6 HT4
  go_wp2_with fail
  refine (eqIntS_same zs a6 a1 c6 c1 _ o6.ints o16.ints (by omega)).mono ?_
  rintro e w7 ⟨rfl, b7⟩
  have o27 := o26.below (Nat.le_refl _) b7
  have b07 : Below w.heap.size w w7 := b06.trans (b7.mono b06.size)
  clear o6 o16 o26 b7 b06
  go_wp2_with fail
  refine (heldIntS_any zs.length a2 c2 1 _ o27.ints (by omega) (by omega) (by omega)).mono ?_
  rintro e w8 ⟨rfl, rfl⟩
  go_wp2_with fail
  go_ret
  exact ⟨rfl, b07⟩

theorem contract (H : Type) (enc : TypeId × Value → H) (W : World) (base : Nat) (args : Array Value) (ds gs : List (DataW H)) (before : List MemPlace)
    (hval : ∀ (j : Nat) t v, Tryd.f5.params[j]? = some t → args[j]? = some v → Value.okWide Tryd.prog W .any base t v)
    (hW : DataW.Whole enc Tryd.prog Tryd.f5.params.toList Rows.fnExactSignsSpec.vars false W args.toList ds gs before) (hL : laidMetH Tryd.prog Rows.fnExactSignsRow.laid W) :
    Calls Tryd.prog 5 args W fun e W' => ∃ v, e = .returned v ∧ Rows.fnExactSignsSpec.post enc Tryd.prog Tryd.f5 false true false false W args v W' := by
  have hW' := hW
  obtain ⟨p, q, hA0, hV, rfl, hfz, hnd⟩ := hW
  have hA : DataW.TrodAll enc Tryd.prog W 0 (fun _ => true) true Tryd.f5.params.toList args.toList ds p := hA0
  rw [Tryd.params5] at hA hval
  obtain ⟨v0, vs0, d0, ds0, p0, q0, hargs, rfl, rfl, h0, r0⟩ := trodAll_cons hA
  obtain ⟨rfl, rfl, rfl⟩ := trodAll_nil r0
  obtain rfl : args = #[v0] := by cases args; simp_all
  obtain ⟨rfl, rfl⟩ := trodVars_none hV
  obtain ⟨s0, rfl, rfl, rfl, w0⟩ := Go.ChangeMaps.open_string Tryd.underlying9 (hval 0 9 v0 rfl rfl) h0
  clear hA0
  refine (walk W s0 w0 (Sg.tabs hL)).mono fun e W' ⟨he, bel⟩ => ?_
  subst he
  exact ⟨_, rfl, _, _, _, [], _, [], hW', trodAll_mk1 (shut_bool Tryd.underlying4 _), (trodAll_cons_mk (Go.ChangeMaps.shut_string Tryd.underlying9 w0) trodAll_mk0), rfl, bel.frame _, fun h => by cases h⟩

theorem laid_met (os : Os) : laidMet Tryd.prog Rows.fnExactSignsRow.laid (({ World.holding Tryd.prog os ⟨#[], #[], []⟩ with heap := ((World.holding Tryd.prog os ⟨#[], #[], []⟩).heap.modify 0 (Sg.refill (Lib.firstTab.map (Value.int .u8)).toArray)).modify 1 (Sg.refill ((List.range 16).flatMap fun i => [Value.int .u8 (Lib.accLo i : Int), Value.int .u8 (Lib.accHi i : Int)]).toArray) } : World).forCall (fun _ _ => 0) ⟨#[], #[.string ⟨#[]⟩], []⟩).memory :=
  laidMet_of_run' 8 (by kernel_rfl) (by kernel_rfl)
theorem reads (os : Os) {H : Type} (enc : TypeId × Value → H) : ∃ places, DataW.whole enc Tryd.prog (({ World.holding Tryd.prog os ⟨#[], #[], []⟩ with heap := ((World.holding Tryd.prog os ⟨#[], #[], []⟩).heap.modify 0 (Sg.refill (Lib.firstTab.map (Value.int .u8)).toArray)).modify 1 (Sg.refill ((List.range 16).flatMap fun i => [Value.int .u8 (Lib.accLo i : Int), Value.int .u8 (Lib.accHi i : Int)]).toArray) } : World).forCall (fun _ _ => 0) ⟨#[], #[.string ⟨#[]⟩], []⟩).memory Tryd.f5.params.toList Rows.fnExactSignsSpec.vars false (#[(.string ⟨#[]⟩ : Value)] : Array Value).toList 8 = some ([.lit (.string [])], [], places) :=
  ⟨[], by kernel_rfl⟩

set_option maxRecDepth 100000 in
theorem lifted (os : Os) (started : os.Started) (H : Type) (enc : TypeId × Value → H) (F : Stop.Interp) :
    ReturnsInHanded {} Tryd.checked os 5 .any ((OpenSpec.ofChange Rows.fnExactSignsSpec).preRow enc Tryd.prog Tryd.f5 Rows.fnExactSignsRow.domain false Rows.fnExactSignsRow.laid) (((OpenSpec.ofChange Rows.fnExactSignsSpec).at F).post enc Tryd.prog Tryd.f5 false true false false) := by
  obtain ⟨places, hx⟩ := reads os enc
  refine returnsInHanded_of_row (C := Tryd.checked) (s := OpenSpec.ofChange Rows.fnExactSignsSpec) Sg.own started (by kernel_rfl) Tryd.func5
    (witness_row_at (enc := enc) (C := Tryd.checked) false ({ World.holding Tryd.prog os ⟨#[], #[], []⟩ with heap := ((World.holding Tryd.prog os ⟨#[], #[], []⟩).heap.modify 0 (Sg.refill (Lib.firstTab.map (Value.int .u8)).toArray)).modify 1 (Sg.refill ((List.range 16).flatMap fun i => [Value.int .u8 (Lib.accLo i : Int), Value.int .u8 (Lib.accHi i : Int)]).toArray) } : World) #[.string ⟨#[]⟩] rfl (by kernel_rfl) (by kernel_rfl) (by kernel_rfl)
      (OpenSpec.preRow_of_cond 8 hx (by kernel_rfl) (fun k hk => by cases hk) (by kernel_rfl) (laid_met os))) ?_
  intro W base args ds gs before hval hW _ _ _ hL _ _
  exact contract H enc W base args ds gs before hval hW hL

theorem said : Rows.FnExactSignsSaid :=
  OpenClaim.holds_of_cond 5 Tryd.f5 rfl rfl rfl rfl rfl rfl rfl ⟨rfl, rfl, rfl, rfl, rfl⟩ rfl rfl rfl rfl rfl (by kernel_rfl) Tryd.func5 (by kernel_rfl)
    (of_decide_eq_true (by kernel_rfl)) (by unfold Func.isWrapper; first | (rw [if_pos (by decide +kernel)]; kernel_rfl) | (rw [if_neg (by decide +kernel)]; exact ⟨rfl, rfl⟩))
    (fun os started H enc _ F => by rw [OpenClaim.pre_eq_preRow]; exact lifted os started H enc F)

theorem plain (f : FuncId) (fn : Func) (hf : Tryd.pinned.checked.prog.funcNamed Rows.fnExactSignsRow.func = some f) (hfn : Tryd.pinned.checked.prog.funcs[f]? = some fn) :
    false = Tryd.pinned.checked.prog.looks [] ∧ ∀ (j : Nat) t, fn.params[j]? = some t → Tryd.pinned.checked.prog.wantsStandIn t = false := by
  obtain rfl : f = 5 := Option.some.inj ((show Tryd.prog.funcNamed Rows.fnExactSignsRow.func = some 5 by kernel_rfl).symm.trans hf) |>.symm
  obtain rfl : fn = Tryd.f5 := (Option.some.inj (Tryd.func5.symm.trans hfn)).symm
  refine ⟨by kernel_rfl, fun j t ht => ?_⟩
  match j with
  | 0 =>
    rw [Tryd.params5] at ht
    obtain rfl : t = 9 := by simpa using ht.symm
    exact (show Tryd.prog.wantsStandIn 9 = false by kernel_rfl)
  | j + 1 =>
    rw [Tryd.params5] at ht
    simp at ht

end Go.Proofs.YtidfbnhikkckmaaDoor.fnExactSigns

namespace Go.Proofs.YtidfbnhikkckmaaDoor
theorem fnExactSigns_holds : Rows.FnExactSignsCardSaid :=
  Claim7.holds_tied_plain_at .later [] _ _ _ _ fnExactSigns.said (fun _ h => by cases h) (by kernel_rfl) (fun _ h => by cases h) fnExactSigns_row_tie rfl ⟨rfl, rfl⟩ (by kernel_rfl) rfl fnExactSigns.plain (by kernel_rfl)
#print axioms fnExactSigns_holds
end Go.Proofs.YtidfbnhikkckmaaDoor
