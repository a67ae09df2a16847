/- FnExactEscape: at every text, in a value or not, Escape answers as its model. -/
import Derived.Test.YtlajjbodgkpjoaaXmLawEscape
import Derived.Test.YtlajjbodgkpjoaaEcImpl
import Derived.Test.YtlajjbodgkpjoaaRows
namespace Go.Proofs.Ytlajjbodgkpjoaa.fnExactEscape
open Go.ChangeShapes Go.WideShapes Go.ChangeAt Go.RowKit Sg

theorem walk (w : World) (s : ByteArray) (_hs : s.size ≤ maxLen) (v : Bool) :
    Calls Try.prog 4 #[.string s, .bool v] w fun e w' => e = .returned (.bool true) ∧ Below w.heap.size w w' :=
  lawEscape (fun _ => True) (fun _ _ _ _ => trivial) (fun s v W hs _ => implEscape s v W (by omega)) w s v trivial

set_option maxRecDepth 100000 in
theorem lifted (os : Os) (started : os.Started) (H : Type) (enc : TypeId × Value → H) :
    ReturnsInHanded {} Try.checked os 4 .any (Rows.fnExactEscapeSpec.pre6 enc Try.prog Try.f4 Rows.fnExactEscapeRow.domain false) (Rows.fnExactEscapeSpec.post enc Try.prog Try.f4 false true false false) := by
  refine returnsInHanded_of_change (C := Try.checked) Sg.own started (by kernel_rfl) Try.func4
    (ChangeSpec.witness6 (enc := enc) (C := Try.checked) false ⟨#[], #[.string ⟨#[]⟩, .bool false], []⟩ 8 (by kernel_rfl) (by kernel_rfl) (by kernel_rfl) (by kernel_rfl)) ?_
  intro W base args ds gs before hval0 hW hcnd _
  have hval : ∀ (j : Nat) t v, Try.f4.params[j]? = some t → args[j]? = some v → Value.okWide Try.prog W .any base t v := hval0
  clear hval0
  have hW' := hW
  obtain ⟨p, q, hA0, hV, rfl, hfz, hnd⟩ := hW
  have hA : DataW.TrodAll enc Try.prog W 0 (fun _ => true) true Try.f4.params.toList args.toList ds p := hA0
  rw [Try.params4] at hA hval
  obtain ⟨v0, vs0, d0, ds0, p0, q0, hargs, rfl, rfl, h0, r0⟩ := trodAll_cons hA
  obtain ⟨v1, vs1, d1, ds1, p1, q1, rfl, rfl, rfl, h1, r1⟩ := trodAll_cons r0
  obtain ⟨rfl, rfl, rfl⟩ := trodAll_nil r1
  obtain rfl : args = #[v0, v1] := by cases args; simp_all
  obtain ⟨rfl, rfl⟩ := trodVars_none hV
  obtain ⟨s0, rfl, rfl, rfl, w0⟩ := Go.ChangeMaps.open_string Try.underlying9 (hval 0 9 v0 rfl rfl) h0
  obtain ⟨a1, rfl, rfl, rfl⟩ := open_bool Try.underlying4 (hval 1 4 v1 rfl rfl) h1
  clear hA0
  refine (walk W s0 w0 a1).mono fun e W' ⟨he, bel⟩ => ?_
  subst he
  exact ⟨_, rfl, _, _, _, [], _, [], hW', trodAll_mk1 (shut_bool Try.underlying4 _), (trodAll_cons_mk (Go.ChangeMaps.shut_string Try.underlying9 w0) (trodAll_cons_mk (shut_bool Try.underlying4 a1) trodAll_mk0)), rfl, bel.frame _, fun h => by cases h⟩

theorem over : Rows.fnExactEscapeRow.holds Try.pinned (OpenSpec.ofChange Rows.fnExactEscapeSpec) :=
  OpenClaim.holds_of_wide 4 Try.f4 rfl rfl rfl rfl rfl rfl rfl ⟨rfl, rfl, rfl, rfl, rfl⟩ rfl rfl rfl rfl rfl (by kernel_rfl) Try.func4 (by kernel_rfl)
    (of_decide_eq_true (by kernel_rfl)) (by unfold Func.isWrapper; first | (rw [if_pos (by decide +kernel)]; kernel_rfl) | (rw [if_neg (by decide +kernel)]; exact ⟨rfl, rfl⟩))
    (fun os started H enc _ => lifted os started H enc)

end Go.Proofs.Ytlajjbodgkpjoaa.fnExactEscape

namespace Go.Proofs.Ytlajjbodgkpjoaa
theorem fnExactEscape_holds : Rows.FnExactEscapeSaid := fnExactEscape.over
#print axioms fnExactEscape_holds
end Go.Proofs.Ytlajjbodgkpjoaa
