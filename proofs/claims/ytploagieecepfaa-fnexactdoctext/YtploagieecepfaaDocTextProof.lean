/- FnExactDocText: at every list of elements DocText answers as its model, and writes into nothing of it. -/
import Derived.Test.YtploagieecepfaaShLawDoc
import Derived.Test.YtploagieecepfaaSoDoc
import Derived.Test.YtploagieecepfaaRows
namespace Go.Proofs.Ytploagieecepfaa.fnExactDocText
open Go.ChangeShapes Go.WideShapes Go.ChangeAt Go.RowKit Sg

theorem walk (w : World) (z : List ElB) (a : Option Addr) (c : Nat) (h : KidsIn SlAttrsIn anyB w a z) (m : z.length ≤ 9223372036854775807 ∧ ElsHeld z) :
    Calls Try.prog 4 #[.slice a z.length c] w fun e w' => e = .returned (.bool true) ∧ Below w.heap.size w w' :=
  lawDocText z a c w (fun _ => True) (fun _ _ _ _ => trivial) trivial h m.1 m.2 (fun hb W lo x hx hc _ => implDocText z lo _ x W hx hc (Nat.le_refl _) (by have := elsN_le z; omega) (by have h1 := showL_le z 0 1048576 (by have := elsN_le z; omega); have h2 := elsN_le z; omega))

set_option maxRecDepth 100000 in
theorem lifted (os : Os) (started : os.Started) (H : Type) (enc : TypeId × Value → H) :
    ReturnsInHanded {} Try.checked os 4 .any (Rows.fnExactDocTextSpec.pre6 enc Try.prog Try.f4 Rows.fnExactDocTextRow.domain false) (Rows.fnExactDocTextSpec.post enc Try.prog Try.f4 false true false false) := by
  refine returnsInHanded_of_change (C := Try.checked) Sg.own started (by kernel_rfl) Try.func4
    (ChangeSpec.witness6 (enc := enc) (C := Try.checked) false ⟨#[], #[.slice none 0 0], []⟩ 8 (by kernel_rfl) (by kernel_rfl) (by kernel_rfl) (by kernel_rfl)) ?_
  intro W base args ds gs before hval0 hW hcnd _
  have hval : ∀ (j : Nat) t v, Try.f4.params[j]? = some t → args[j]? = some v → Value.okWide Try.prog W .any base t v := hval0
  clear hval0
  have hW' := hW
  obtain ⟨p, q, hA0, hV, rfl, hfz, hnd⟩ := hW
  have hA : DataW.TrodAll enc Try.prog W 0 (fun _ => true) true Try.f4.params.toList args.toList ds p := hA0
  rw [Try.params4] at hA hval
  obtain ⟨v0, vs0, d0, ds0, p0, q0, hargs, rfl, rfl, h0, r0⟩ := trodAll_cons hA
  obtain ⟨rfl, rfl, rfl⟩ := trodAll_nil r0
  obtain rfl : args = #[v0] := by cases args; simp_all
  obtain ⟨rfl, rfl⟩ := trodVars_none hV
  obtain ⟨a0, len0, cap0, rfl⟩ := okWide_slice Try.underlying22 (hval 0 22 v0 rfl rfl)
  have k0 := h0
  have lt0 : ∀ x ∈ p0, x.block < W.heap.size := by obtain ⟨m, hm⟩ := k0; exact DataW.trod_lt m _ _ _ hm
  obtain ⟨z0, rfl, w0, m0⟩ := els_came_in h0
  clear hA0
  refine (walk W z0 a0 cap0 w0 m0).mono fun e W' ⟨he, bel⟩ => ?_
  subst he
  exact ⟨_, rfl, _, _, _, [], _, [], hW', trodAll_mk1 (shut_bool Try.underlying4 _), (trodAll_cons_mk (Below.trod Sg.laidOut (by kernel_rfl) (of_decide_eq_true (by kernel_rfl)) k0 bel lt0) trodAll_mk0), rfl, bel.frame _, fun h => by cases h⟩

theorem over : Rows.fnExactDocTextRow.holds Try.pinned (OpenSpec.ofChange Rows.fnExactDocTextSpec) :=
  OpenClaim.holds_of_wide 4 Try.f4 rfl rfl rfl rfl rfl rfl rfl ⟨rfl, rfl, rfl, rfl, rfl⟩ rfl rfl rfl rfl rfl (by kernel_rfl) Try.func4 (by kernel_rfl)
    (of_decide_eq_true (by kernel_rfl)) (by unfold Func.isWrapper; first | (rw [if_pos (by decide +kernel)]; kernel_rfl) | (rw [if_neg (by decide +kernel)]; exact ⟨rfl, rfl⟩))
    (fun os started H enc _ => lifted os started H enc)

end Go.Proofs.Ytploagieecepfaa.fnExactDocText

namespace Go.Proofs.Ytploagieecepfaa
theorem fnExactDocText_holds : Rows.FnExactDocTextSaid := fnExactDocText.over
#print axioms fnExactDocText_holds
end Go.Proofs.Ytploagieecepfaa
