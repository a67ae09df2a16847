/- FnExactSpell: at every list of words (all of one machine's memory) Spell answers as its model, and writes into no argument. The row lists the tables of utf8 as the program's text lays them; of the library's MaxLen it speaks for every number. -/
import Derived.Test.YtfdigdemoeepoaaDoorSpImplC
import Derived.Test.YtfdigdemoeepoaaDoorLwTok
import Derived.Test.YtfdigdemoeepoaaDoorLwTo5
import Derived.Test.YtfdigdemoeepoaaDoorTnCame
import Derived.Test.YtfdigdemoeepoaaDoorKdLaid
namespace Go.Proofs.YtfdigdemoeepoaaDoor.fnExactSpell
open Go.ChangeShapes Go.WideShapes Go.ChangeAt Go.RowKit Sg

set_option maxRecDepth 20000 in
set_option maxHeartbeats 4000000 in
theorem walk (w : World) (z : List TokB) (a : Option Addr) (c : Nat) (h : ToksIn w a z) (m : ToksHeld z) (hM : MaxLen w) :
    Calls Tryd.prog 3 #[.slice a z.length c] w fun e w' => e = .returned (.bool true) ∧ Below w.heap.size w w' := by
  have HM : Hid (MaxLen w) := hM
  have Ha : Hid (ToksIn w a z) := h
  have Hz : Hid (∀ W, ToksIn W a z → Calls Tryd.prog 4 #[.slice a z.length c, .int .i64 1048576] W fun e w' => e = .returned (.int .i64 (leftZ 1048576 (toksW z))) ∧ Below W.heap.size W w') := fun W hW => szTokenS_any z a z.length c 1048576 W hW rfl m (by decide) (by decide)
  clear h m hM
  by_cases hbig : toksW z ≤ 1048576
  · have hlen : z.length ≤ 1048576 := by unfold toksW at hbig; omega
    have Hat : Hid (∀ t ∈ z, t.2.2.1.length ≤ 1048576) := fun t ht => by
      have := tokW_le ht
      unfold tokW attrsW at this
      omega
    have hz : leftZ 1048576 (toksW z) = 1048576 - (toksW z : Int) := by unfold leftZ; rw [if_pos (by omega)]
    have Hz1 := Hz.out w Ha.out
    rw [hz] at Hz1
    have g1 : ¬ (1048576 - (toksW z : Int)) < 0 := by omega
    have g1' : decide ((1048576 - (toksW z : Int)) < 0) = false := decide_eq_false g1
    have Hto : Hid (∀ W, ToksIn W a z → Calls Tryd.prog 6 #[.slice a z.length c] W fun e w' => e = .returned (.slice (some ⟨W.heap.size, 0, none⟩) z.length z.length) ∧ OwnToks w' W.heap.size (.slice (some ⟨W.heap.size, 0, none⟩) z.length z.length) z ∧ Below W.heap.size W w') := fun W hW => toTokenS_any z a z.length c W hW rfl (by omega) (fun t ht => Nat.le_trans (Hat.out t ht) (by decide))
    have Hs : Hid (∀ W (x : Option Addr), ToksAt W x z → Calls Tryd.prog 5 #[.slice x z.length z.length] W fun e w' => e = .returned (.string (strB (spellL false z))) ∧ Below W.heap.size W w') := fun W x hx => specSpell z x z.length z.length W hx rfl hbig
    have Hi : Hid (∀ W (x : Option Addr), ToksAt W x z → MaxLen W → Calls Tryd.prog 7 #[.slice x z.length z.length] W fun e w' => e = .returned (.string (strB (spellL false z))) ∧ Below W.heap.size W w') := fun W x hx hm => implSpell z x z.length z.length W hx rfl hbig hm
    have He : Hid (∀ W (x y : Option Addr), ToksAt W x z → ToksAt W y z → Calls Tryd.prog 8 #[.slice x z.length z.length, .slice y z.length z.length] W fun e w' => e = .returned (.bool true) ∧ Below W.heap.size W w') := fun W x y hx hy => eqTokenS_same z x y z.length z.length z.length W hx hy rfl (by omega) (fun t ht => Nat.le_trans (Hat.out t ht) (by decide))
    clear Hz hz Hat
    generalize strB (spellL false z) = V at *
    generalize (1048576 - (toksW z : Int)) = left at *
    have gV : (V.toList == V.toList) = true := by simp
    go_enter Tryd.func3, Tryd.ntmps3
    go_wp2_with fail
    refine Hz1.mono ?_
    rintro e w1 ⟨rfl, b1⟩
    go_wp2_with fail
    refine (Hto.out _ (Ha.out.keep b1)).mono ?_
    rintro e w2 ⟨rfl, o2, b2⟩
    have b02 : Below w.heap.size w w2 := b1.trans (b2.mono b1.size)
    obtain ⟨a2, c2, e2, A2⟩ := toks_of_own o2
    cases e2
    go_wp2_with fail
    refine (Hs.out _ _ A2).mono ?_
    rintro e w3 ⟨rfl, b3⟩
    have b03 : Below w.heap.size w w3 := b02.trans (b3.mono b02.size)
    clear o2 A2 b1 b2 b3 b02 Hz1
    go_wp2_with fail
    refine (Hto.out _ (Ha.out.keep b03)).mono ?_
    rintro e w4 ⟨rfl, o4, b4⟩
    have b04 : Below w.heap.size w w4 := b03.trans (b4.mono b03.size)
    obtain ⟨a4, c4, e4, A4⟩ := toks_of_own o4
    cases e4
    have M4 := HM.out.below b04
    go_wp2_with fail
    refine (Hi.out _ _ A4 M4).mono ?_
    rintro e w5 ⟨rfl, b5⟩
    have b05 : Below w.heap.size w w5 := b04.trans (b5.mono b04.size)
    have A5 := A4.keep b5
    clear o4 A4 b03 b04 b4 b5 M4
    go_wp2_with fail
    refine (Hto.out _ (Ha.out.keep b05)).mono ?_
    rintro e w6 ⟨rfl, o6, b6⟩
    have b06 : Below w.heap.size w w6 := b05.trans (b6.mono b05.size)
    have A6 := A5.keep b6
    obtain ⟨a6, c6, e6, A7⟩ := toks_of_own o6
    cases e6
    clear o6 A5 b05 b6
    go_wp2_with fail
    refine (He.out _ _ _ A6 A7).mono ?_
    rintro e w7 ⟨rfl, b7⟩
    have b07 : Below w.heap.size w w7 := b06.trans (b7.mono b06.size)
    clear A6 A7 b06 b7
    go_wp2_with fail
    go_ret
    exact ⟨rfl, b07⟩
  · have hz : leftZ 1048576 (toksW z) = -1 := by unfold leftZ; rw [if_neg (by omega)]
    have Hz1 := Hz.out w Ha.out
    rw [hz] at Hz1
    go_enter Tryd.func3, Tryd.ntmps3
    go_wp2_with fail
    refine Hz1.mono ?_
    rintro e w1 ⟨rfl, b1⟩
    go_wp2_with fail
    go_ret
    exact ⟨rfl, b1⟩

set_option maxRecDepth 100000 in
theorem contract (H : Type) (enc : TypeId × Value → H) (W : World) (base : Nat) (args : Array Value) (ds gs : List (DataW H)) (before : List MemPlace)
    (hval : ∀ (j : Nat) t v, Tryd.f3.params[j]? = some t → args[j]? = some v → Value.okWide Tryd.prog W .any base t v)
    (hW : DataW.Whole enc Tryd.prog Tryd.f3.params.toList Rows.fnExactSpellSpec.vars false W args.toList ds gs before) (_hL : laidMetH Tryd.prog Rows.fnExactSpellRow.laid W) (hsh : W.ShapedOpen Tryd.prog) :
    Calls Tryd.prog 3 args W fun e W' => ∃ v, e = .returned v ∧ Rows.fnExactSpellSpec.post enc Tryd.prog Tryd.f3 false true false false W args v W' := by
  have hW' := hW
  obtain ⟨p, q, hA0, hV, rfl, hfz, hnd⟩ := hW
  have hA : DataW.TrodAll enc Tryd.prog W 0 (fun _ => true) true Tryd.f3.params.toList args.toList ds p := hA0
  rw [Tryd.params3] at hA hval
  obtain ⟨v0, vs0, d0, ds0, p0, q0, hargs, rfl, rfl, h0, r0⟩ := trodAll_cons hA
  obtain ⟨rfl, rfl, rfl⟩ := trodAll_nil r0
  obtain rfl : args = #[v0] := by cases args; simp_all
  obtain ⟨rfl, rfl⟩ := trodVars_none hV
  obtain ⟨a0, len0, cap0, rfl⟩ := okWide_slice Tryd.underlying22 (hval 0 22 v0 rfl rfl)
  have k0 := h0
  have lt0 : ∀ x ∈ p0, x.block < W.heap.size := by obtain ⟨m, hm⟩ := k0; exact DataW.trod_lt m _ _ _ hm
  obtain ⟨z0, rfl, w0, m0⟩ := toks_came h0
  clear hA0
  refine (walk W z0 a0 cap0 w0 m0 (Sg.maxlen hsh)).mono fun e W' ⟨he, bel⟩ => ?_
  subst he
  exact ⟨_, rfl, _, _, _, [], _, [], hW', trodAll_mk1 (shut_bool Tryd.underlying4 _), (trodAll_cons_mk (Below.trod Sg.laidOut (by kernel_rfl) (of_decide_eq_true (by kernel_rfl)) k0 bel lt0) trodAll_mk0), rfl, bel.frame _, fun h => by cases h⟩

theorem laid_met (os : Os) : laidMet Tryd.prog Rows.fnExactSpellRow.laid (({ World.holding Tryd.prog os ⟨#[], #[], []⟩ with heap := (((World.holding Tryd.prog os ⟨#[], #[], []⟩).heap.modify 1 (Sg.refill (Lib.firstTab.map (Value.int .u8)).toArray)).modify 2 (Sg.refill ((List.range 16).flatMap fun i => [Value.int .u8 (Lib.accLo i : Int), Value.int .u8 (Lib.accHi i : Int)]).toArray)) } : World).forCall (fun _ _ => 0) ⟨#[], #[.slice none 0 0], []⟩).memory :=
  laidMet_of_run' 8 (by kernel_rfl) (by kernel_rfl)
theorem reads (os : Os) {H : Type} (enc : TypeId × Value → H) : ∃ places, DataW.whole enc Tryd.prog (({ World.holding Tryd.prog os ⟨#[], #[], []⟩ with heap := (((World.holding Tryd.prog os ⟨#[], #[], []⟩).heap.modify 1 (Sg.refill (Lib.firstTab.map (Value.int .u8)).toArray)).modify 2 (Sg.refill ((List.range 16).flatMap fun i => [Value.int .u8 (Lib.accLo i : Int), Value.int .u8 (Lib.accHi i : Int)]).toArray)) } : World).forCall (fun _ _ => 0) ⟨#[], #[.slice none 0 0], []⟩).memory Tryd.f3.params.toList Rows.fnExactSpellSpec.vars false (#[(.slice none 0 0 : Value)] : Array Value).toList 8 = some ([.nil], [], places) :=
  ⟨[], by kernel_rfl⟩

set_option maxRecDepth 100000 in
theorem lifted (os : Os) (started : os.Started) (H : Type) (enc : TypeId × Value → H) (F : Stop.Interp) :
    ReturnsInHanded {} Tryd.checked os 3 .any ((OpenSpec.ofChange Rows.fnExactSpellSpec).preRow enc Tryd.prog Tryd.f3 Rows.fnExactSpellRow.domain false Rows.fnExactSpellRow.laid) (((OpenSpec.ofChange Rows.fnExactSpellSpec).at F).post enc Tryd.prog Tryd.f3 false true false false) := by
  obtain ⟨places, hx⟩ := reads os enc
  refine returnsInHanded_of_row (C := Tryd.checked) (s := OpenSpec.ofChange Rows.fnExactSpellSpec) Sg.own started (by kernel_rfl) Tryd.func3
    (witness_row_at (enc := enc) (C := Tryd.checked) false ({ World.holding Tryd.prog os ⟨#[], #[], []⟩ with heap := (((World.holding Tryd.prog os ⟨#[], #[], []⟩).heap.modify 1 (Sg.refill (Lib.firstTab.map (Value.int .u8)).toArray)).modify 2 (Sg.refill ((List.range 16).flatMap fun i => [Value.int .u8 (Lib.accLo i : Int), Value.int .u8 (Lib.accHi i : Int)]).toArray)) } : World) #[.slice none 0 0] rfl (by kernel_rfl) (by kernel_rfl) (by kernel_rfl)
      (OpenSpec.preRow_of_cond 8 hx (by kernel_rfl) (fun k hk => by cases hk) (by kernel_rfl) (laid_met os))) ?_
  intro W base args ds gs before hval hW _ _ _ hL hsh _
  exact contract H enc W base args ds gs before hval hW hL hsh

theorem said : Rows.FnExactSpellSaid :=
  OpenClaim.holds_of_cond 3 Tryd.f3 rfl rfl rfl rfl rfl rfl rfl ⟨rfl, rfl, rfl, rfl, rfl⟩ rfl rfl rfl rfl rfl (by kernel_rfl) Tryd.func3 (by kernel_rfl)
    (of_decide_eq_true (by kernel_rfl)) (by unfold Func.isWrapper; first | (rw [if_pos (by decide +kernel)]; kernel_rfl) | (rw [if_neg (by decide +kernel)]; exact ⟨rfl, rfl⟩))
    (fun os started H enc _ F => by rw [OpenClaim.pre_eq_preRow]; exact lifted os started H enc F)

theorem plain (f : FuncId) (fn : Func) (hf : Tryd.pinned.checked.prog.funcNamed Rows.fnExactSpellRow.func = some f) (hfn : Tryd.pinned.checked.prog.funcs[f]? = some fn) :
    false = Tryd.pinned.checked.prog.looks [] ∧ ∀ (j : Nat) t, fn.params[j]? = some t → Tryd.pinned.checked.prog.wantsStandIn t = false := by
  obtain rfl : f = 3 := Option.some.inj ((show Tryd.prog.funcNamed Rows.fnExactSpellRow.func = some 3 by kernel_rfl).symm.trans hf) |>.symm
  obtain rfl : fn = Tryd.f3 := (Option.some.inj (Tryd.func3.symm.trans hfn)).symm
  refine ⟨by kernel_rfl, fun j t ht => ?_⟩
  match j with
  | 0 =>
    rw [Tryd.params3] at ht
    obtain rfl : t = 22 := by simpa using ht.symm
    exact (show Tryd.prog.wantsStandIn 22 = false by kernel_rfl)
  | j + 1 =>
    rw [Tryd.params3] at ht
    simp at ht

end Go.Proofs.YtfdigdemoeepoaaDoor.fnExactSpell

namespace Go.Proofs.YtfdigdemoeepoaaDoor
theorem fnExactSpell_holds : Rows.FnExactSpellCardSaid :=
  Claim7.holds_tied_plain_at .later [] _ _ _ _ fnExactSpell.said (fun _ h => by cases h) (by kernel_rfl) (fun _ h => by cases h) fnExactSpell_row_tie rfl ⟨rfl, rfl⟩ (by kernel_rfl) rfl fnExactSpell.plain (by kernel_rfl)
#print axioms fnExactSpell_holds
end Go.Proofs.YtfdigdemoeepoaaDoor
