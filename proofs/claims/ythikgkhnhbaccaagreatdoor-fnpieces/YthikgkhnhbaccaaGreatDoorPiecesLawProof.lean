/- For all codes of at most 2^20 bytes (longer ones are let go by the law itself): what the program tells of the drawn texts, places and names is what the model tells of them; a drawn text that is strict, escaped, is read as it was up to its end, as a text and as a value. -/
import Derived.Test.YthikgkhnhbaccaaGreatDoorMP13
import Derived.Test.YthikgkhnhbaccaaGreatDoorMP09
import Derived.Test.YthikgkhnhbaccaaGreatDoorPcRefI
import Derived.Test.YthikgkhnhbaccaaGreatDoorMP20
import Derived.Test.YthikgkhnhbaccaaGreatDoorMP16
import Derived.Test.YthikgkhnhbaccaaGreatDoorPcNoteI
import Derived.Test.YthikgkhnhbaccaaGreatDoorMP08
import Derived.Test.YthikgkhnhbaccaaGreatDoorMP10
import Derived.Test.YthikgkhnhbaccaaGreatDoorXmPieces
namespace Go.Proofs.YthikgkhnhbaccaaGreatDoor.fnPieces
open Go.ChangeShapes Go.WideShapes Go.ChangeAt Go.RowKit Sg

theorem walk (w : World) (n : Nat) (a : Option Addr) (c : Nat) (h : Sg.Code w.heap.size w a n) (m : n ≤ 9223372036854775807) (hT : ∃ b, PcT b w) (hX : MaxLen w) :
    Calls Tryz.prog 3 #[.slice a n c] w fun e w' => e = .returned (.bool true) ∧ Below w.heap.size w w' := by
  obtain ⟨b, hT⟩ := hT
  exact lawPieces (PcX b) (fun _ _ h k => h.below k) (fun s v W hs _ => implEscape s v W (by omega)) (fun n W _ _ => (implSpaceName n W).mono fun e w' h => ⟨h.1, h.2 ▸ Below.refl _ _⟩)
    (fun s i W hs hT => implXmlName s i b W (by omega) hT.1) (fun s i W hs hT => implXmlRef s i b W (by omega) hT.1.2 hT.2) (fun s i e0 W hs he hT => implXmlText s i e0 b W (by omega) he.2 hT)
    (fun s i W hs hT => implXmlAttr s i b W (by omega) hT) (fun s i W hs hT => implXmlNote s i b W (by omega) hT) (fun s W hs hT => implTextOk s W (by omega) hT.1.1) w n a c h m ⟨hT, hX⟩

set_option maxRecDepth 100000 in
theorem contract (H : Type) (enc : TypeId × Value → H) (W : World) (base : Nat) (args : Array Value) (ds gs : List (DataW H)) (before : List MemPlace)
    (hval : ∀ (j : Nat) t v, Tryz.f3.params[j]? = some t → args[j]? = some v → Value.okWide Tryz.prog W .any base t v)
    (hW : DataW.Whole enc Tryz.prog Tryz.f3.params.toList Rows.fnPiecesSpec.vars false W args.toList ds gs before) (hL : laidMetH Tryz.prog Rows.fnPiecesRow.laid W) (hsh : W.ShapedOpen Tryz.prog) :
    Calls Tryz.prog 3 args W fun e W' => ∃ v, e = .returned v ∧ Rows.fnPiecesSpec.post enc Tryz.prog Tryz.f3 false true false false W args v W' := by
  have hW' := hW
  obtain ⟨p, q, hA0, hV, rfl, hfz, hnd⟩ := hW
  have hA : DataW.TrodAll enc Tryz.prog W 0 (fun _ => true) true Tryz.f3.params.toList args.toList ds p := hA0
  rw [Tryz.params3] at hA hval
  obtain ⟨v0, vs0, d0, ds0, p0, q0, hargs, rfl, rfl, h0, r0⟩ := trodAll_cons hA
  obtain ⟨rfl, rfl, rfl⟩ := trodAll_nil r0
  obtain rfl : args = #[v0] := by cases args; simp_all
  have hV0 := hV
  obtain ⟨_, _, _, _, gd0, _, rfl, _, _, _, _, _⟩ := trodVars_one hV
  obtain ⟨a0, len0, cap0, rfl⟩ := okWide_slice Tryz.underlying22 (hval 0 22 v0 rfl rfl)
  have k0 := h0
  have lt0 : ∀ x ∈ p0, x.block < W.heap.size := by obtain ⟨m, hm⟩ := k0; exact DataW.trod_lt m _ _ _ hm
  obtain ⟨w0, m0⟩ := code_came h0
  clear hA0
  refine (walk W len0 a0 cap0 w0 m0 (Sg.pc_have hL) (Sg.maxlen hsh)).mono fun e W' ⟨he, bel⟩ => ?_
  subst he
  exact ⟨_, rfl, _, _, _, [], _, _, hW', trodAll_mk1 (shut_bool Tryz.underlying4 _), (trodAll_cons_mk (Below.trod Sg.laidOut (by kernel_rfl) (of_decide_eq_true (by kernel_rfl)) k0 bel lt0) trodAll_mk0), (Below.trodVars Sg.laidOut bel (by kernel_rfl) hV0), bel.frame _, fun h => by cases h⟩

theorem laid_met (os : Os) : laidMetH Tryz.prog Rows.fnPiecesRow.laid ((Sg.pcWorld os).forCall (fun _ _ => 0) ⟨#[], #[.slice none 0 0], []⟩).memory :=
  Sg.pc_met os _
theorem reads (os : Os) {H : Type} (enc : TypeId × Value → H) : ∃ gs places, DataW.whole enc Tryz.prog ((Sg.pcWorld os).forCall (fun _ _ => 0) ⟨#[], #[.slice none 0 0], []⟩).memory Tryz.f3.params.toList Rows.fnPiecesSpec.vars false (#[(.slice none 0 0 : Value)] : Array Value).toList 8 = some ([.nil], gs, places) :=
  by
  have h : (DataW.whole enc Tryz.prog ((Sg.pcWorld os).forCall (fun _ _ => 0) ⟨#[], #[.slice none 0 0], []⟩).memory Tryz.f3.params.toList Rows.fnPiecesSpec.vars false (#[(.slice none 0 0 : Value)] : Array Value).toList 8).map (fun x => x.1) = some [.nil] := by kernel_rfl
  obtain ⟨⟨x1, x2, x3⟩, hx, e⟩ := Option.map_eq_some_iff.1 h
  have e1 : x1 = [.nil] := e
  subst e1
  exact ⟨x2, x3, hx⟩

set_option maxRecDepth 100000 in
theorem lifted (os : Os) (started : os.Started) (H : Type) (enc : TypeId × Value → H) (F : Stop.Interp) :
    ReturnsInHanded {} Tryz.checked os 3 .any ((OpenSpec.ofChange Rows.fnPiecesSpec).preRow enc Tryz.prog Tryz.f3 Rows.fnPiecesRow.domain false Rows.fnPiecesRow.laid) (((OpenSpec.ofChange Rows.fnPiecesSpec).at F).post enc Tryz.prog Tryz.f3 false true false false) := by
  obtain ⟨gs, places, hx⟩ := reads os enc
  refine returnsInHanded_of_row (C := Tryz.checked) (s := OpenSpec.ofChange Rows.fnPiecesSpec) Sg.own started (by kernel_rfl) Tryz.func3
    (witness_row_atRef (enc := enc) (C := Tryz.checked) false (Sg.pcWorld os) #[.slice none 0 0] (Sg.pc_os os) (by kernel_rfl) (by kernel_rfl) (by kernel_rfl)
      (OpenSpec.preRow_of_cond 8 hx (by kernel_rfl) (fun k hk => by cases hk) (by kernel_rfl) (laid_met os))) ?_
  intro W base args ds gs before hval hW _ _ _ hL hsh _
  exact contract H enc W base args ds gs before hval hW hL hsh

theorem said : Rows.FnPiecesSaid :=
  OpenClaim.holds_of_cond 3 Tryz.f3 rfl rfl rfl rfl rfl rfl rfl ⟨rfl, rfl, rfl, rfl, rfl⟩ rfl rfl rfl rfl rfl (by kernel_rfl) Tryz.func3 (by kernel_rfl)
    (of_decide_eq_true (by kernel_rfl)) (by unfold Func.isWrapper; first | (rw [if_pos (by decide +kernel)]; kernel_rfl) | (rw [if_neg (by decide +kernel)]; exact ⟨rfl, rfl⟩))
    (fun os started H enc _ F => by rw [OpenClaim.pre_eq_preRow]; exact lifted os started H enc F)

theorem plain (f : FuncId) (fn : Func) (hf : Tryz.pinned.checked.prog.funcNamed Rows.fnPiecesRow.func = some f) (hfn : Tryz.pinned.checked.prog.funcs[f]? = some fn) :
    true = Tryz.pinned.checked.prog.looks [] ∧ ∀ (j : Nat) t, fn.params[j]? = some t → Tryz.pinned.checked.prog.wantsStandIn t = false := by
  obtain rfl : f = 3 := Option.some.inj ((show Tryz.prog.funcNamed Rows.fnPiecesRow.func = some 3 by kernel_rfl).symm.trans hf) |>.symm
  obtain rfl : fn = Tryz.f3 := (Option.some.inj (Tryz.func3.symm.trans hfn)).symm
  refine ⟨by kernel_rfl, fun j t ht => ?_⟩
  match j with
  | 0 =>
    rw [Tryz.params3] at ht
    obtain rfl : t = 22 := by simpa using ht.symm
    exact (show Tryz.prog.wantsStandIn 22 = false by kernel_rfl)
  | j + 1 =>
    rw [Tryz.params3] at ht
    simp at ht

end Go.Proofs.YthikgkhnhbaccaaGreatDoor.fnPieces

namespace Go.Proofs.YthikgkhnhbaccaaGreatDoor
theorem fnPieces_holds : Rows.FnPiecesCardSaid :=
  Claim7.holds_tied_plain_at .later [] _ _ _ _ fnPieces.said (fun _ h => by cases h) (by kernel_rfl) (fun _ h => by cases h) fnPieces_row_tie rfl ⟨rfl, rfl⟩ (by kernel_rfl) rfl fnPieces.plain (by kernel_rfl)
#print axioms fnPieces_holds
end Go.Proofs.YthikgkhnhbaccaaGreatDoor
