/- FnKindsOfTags: at every code the drawn names are of the kinds that the model tells; no part is a block, no format is void, each heading is a block. -/
import Derived.Test.YtjbjmjnjdadjcaaKtImplC
import Derived.Test.YtjbjmjnjdadjcaaKtLawWalk
import Derived.Test.YtjbjmjnjdadjcaaRows
namespace Go.Proofs.Ytjbjmjnjdadjcaa.fnKindsOfTags
open Go.ChangeShapes Go.WideShapes Go.ChangeAt Go.RowKit Sg

theorem walk (w : World) (n : Nat) (a : Option Addr) (cap : Nat) (hcode : Sg.Code w.heap.size w a n) (_ : n ≤ 9223372036854775807) :
    Calls Try.prog 3 #[.slice a n cap] w fun e w' => e = .returned (.bool true) ∧ Below w.heap.size w w' :=
  law w n a cap hcode (fun _ => True) (fun _ _ _ _ => trivial) trivial (fun s W _ => implVoid s W) (fun s W _ => implOfHead s W) (fun s W _ => implFormat s W) (fun s W _ => implBlock s W) (fun s W _ => implPart s W) (fun s W _ => implWall s W) (fun s W _ => implHead s W)

set_option maxRecDepth 100000 in
theorem lifted (os : Os) (started : os.Started) (H : Type) (enc : TypeId × Value → H) :
    ReturnsInHanded {} Try.checked os 3 .any (Rows.fnKindsOfTagsSpec.pre6 enc Try.prog Try.f3 Rows.fnKindsOfTagsRow.domain false) (Rows.fnKindsOfTagsSpec.post enc Try.prog Try.f3 false true false false) := by
  refine returnsInHanded_of_change (C := Try.checked) Sg.own started (by kernel_rfl) Try.func3
    (ChangeSpec.witness6 (enc := enc) (C := Try.checked) false ⟨#[], #[.slice none 0 0], []⟩ 8 (by kernel_rfl) (by kernel_rfl) (by kernel_rfl) (by kernel_rfl)) ?_
  intro W base args ds gs before hval0 hW hcnd _
  have hval : ∀ (j : Nat) t v, Try.f3.params[j]? = some t → args[j]? = some v → Value.okWide Try.prog W .any base t v := hval0
  clear hval0
  have hW' := hW
  obtain ⟨p, q, hA0, hV, rfl, hfz, hnd⟩ := hW
  have hA : DataW.TrodAll enc Try.prog W 0 (fun _ => true) true Try.f3.params.toList args.toList ds p := hA0
  rw [Try.params3] at hA hval
  obtain ⟨v0, vs0, d0, ds0, p0, q0, hargs, rfl, rfl, h0, r0⟩ := trodAll_cons hA
  obtain ⟨rfl, rfl, rfl⟩ := trodAll_nil r0
  obtain rfl : args = #[v0] := by cases args; simp_all
  obtain ⟨rfl, rfl⟩ := trodVars_none hV
  obtain ⟨a0, len0, cap0, rfl⟩ := okWide_slice Try.underlying22 (hval 0 22 v0 rfl rfl)
  have k0 := h0
  have lt0 : ∀ x ∈ p0, x.block < W.heap.size := by obtain ⟨m, hm⟩ := k0; exact DataW.trod_lt m _ _ _ hm
  obtain ⟨w0, m0⟩ := code_came h0
  clear hA0
  refine (walk W len0 a0 cap0 w0 m0).mono fun e W' ⟨he, bel⟩ => ?_
  subst he
  exact ⟨_, rfl, _, _, _, [], _, [], hW', trodAll_mk1 (shut_bool Try.underlying4 _), (trodAll_cons_mk (Below.trod Sg.laidOut (by kernel_rfl) (of_decide_eq_true (by kernel_rfl)) k0 bel lt0) trodAll_mk0), rfl, bel.frame _, fun h => by cases h⟩

theorem over : Rows.fnKindsOfTagsRow.holds Try.pinned (OpenSpec.ofChange Rows.fnKindsOfTagsSpec) :=
  OpenClaim.holds_of_wide 3 Try.f3 rfl rfl rfl rfl rfl rfl rfl ⟨rfl, rfl, rfl, rfl, rfl⟩ rfl rfl rfl rfl rfl (by kernel_rfl) Try.func3 (by kernel_rfl)
    (of_decide_eq_true (by kernel_rfl)) (by unfold Func.isWrapper; first | (rw [if_pos (by decide +kernel)]; kernel_rfl) | (rw [if_neg (by decide +kernel)]; exact ⟨rfl, rfl⟩))
    (fun os started H enc _ => lifted os started H enc)

end Go.Proofs.Ytjbjmjnjdadjcaa.fnKindsOfTags

namespace Go.Proofs.Ytjbjmjnjdadjcaa
theorem fnKindsOfTags_holds : Rows.FnKindsOfTagsSaid := fnKindsOfTags.over
#print axioms fnKindsOfTags_holds
end Go.Proofs.Ytjbjmjnjdadjcaa
