/- FnExactSameEl: at every two elements SameEl answers as its model, and writes into nothing of them. -/
import Derived.Test.YtgpfekdfomlljaaElLawSameEl
import Derived.Test.YtgpfekdfomlljaaSmEl
import Derived.Test.YtgpfekdfomlljaaRows
namespace Go.Proofs.Ytgpfekdfomlljaa.fnExactSameEl
open Go.ChangeShapes Go.WideShapes Go.ChangeAt Go.RowKit Sg

theorem walk (w : World) (z : ElB) (cs : Array Value) (h : ElV SlAttrsIn anyB w (.agg cs) z) (m : ElHeld z) (z2 : ElB) (cs2 : Array Value) (h2 : ElV SlAttrsIn anyB w (.agg cs2) z2) (m2 : ElHeld z2) :
    Calls Try.prog 5 #[.agg cs, .agg cs2] w fun e w' => e = .returned (.bool true) ∧ Below w.heap.size w w' :=
  lawSameEl z z2 _ _ w (fun _ => True) (fun _ _ _ _ => trivial) trivial h m h2 m2 (fun hb1 hb2 W lo x y hx hy _ => implSameEl z z2 lo lo x y W hx hy (el_light _ (Nat.le_trans hb1 (by decide))) (el_light _ (Nat.le_trans hb2 (by decide))) (by have := elN_le z; omega))

set_option maxRecDepth 100000 in
theorem lifted (os : Os) (started : os.Started) (H : Type) (enc : TypeId × Value → H) :
    ReturnsInHanded {} Try.checked os 5 .any (Rows.fnExactSameElSpec.pre6 enc Try.prog Try.f5 Rows.fnExactSameElRow.domain false) (Rows.fnExactSameElSpec.post enc Try.prog Try.f5 false true false false) := by
  refine returnsInHanded_of_change (C := Try.checked) Sg.own started (by kernel_rfl) Try.func5
    (ChangeSpec.witness6 (enc := enc) (C := Try.checked) false ⟨#[], #[.agg #[.int .i64 0, .int .i64 0, .string ⟨#[]⟩, .slice none 0 0, .string ⟨#[]⟩, .slice none 0 0], .agg #[.int .i64 0, .int .i64 0, .string ⟨#[]⟩, .slice none 0 0, .string ⟨#[]⟩, .slice none 0 0]], []⟩ 8 (by kernel_rfl) (by kernel_rfl) (by kernel_rfl) (by kernel_rfl)) ?_
  intro W base args ds gs before hval0 hW hcnd _
  have hval : ∀ (j : Nat) t v, Try.f5.params[j]? = some t → args[j]? = some v → Value.okWide Try.prog W .any base t v := hval0
  clear hval0
  have hW' := hW
  obtain ⟨p, q, hA0, hV, rfl, hfz, hnd⟩ := hW
  have hA : DataW.TrodAll enc Try.prog W 0 (fun _ => true) true Try.f5.params.toList args.toList ds p := hA0
  rw [Try.params5] at hA hval
  obtain ⟨v0, vs0, d0, ds0, p0, q0, hargs, rfl, rfl, h0, r0⟩ := trodAll_cons hA
  obtain ⟨v1, vs1, d1, ds1, p1, q1, rfl, rfl, rfl, h1, r1⟩ := trodAll_cons r0
  obtain ⟨rfl, rfl, rfl⟩ := trodAll_nil r1
  obtain rfl : args = #[v0, v1] := by cases args; simp_all
  obtain ⟨rfl, rfl⟩ := trodVars_none hV
  obtain ⟨cs0, rfl, sz0⟩ := okWide_struct Try.underlying25 (hval 0 25 v0 rfl rfl)
  have k0 := h0
  have lt0 : ∀ x ∈ p0, x.block < W.heap.size := by obtain ⟨m, hm⟩ := k0; exact DataW.trod_lt m _ _ _ hm
  obtain ⟨z0, w0, m0⟩ := el_came (sz0.trans (by kernel_rfl)) h0
  obtain ⟨cs1, rfl, sz1⟩ := okWide_struct Try.underlying25 (hval 1 25 v1 rfl rfl)
  have k1 := h1
  have lt1 : ∀ x ∈ p1, x.block < W.heap.size := by obtain ⟨m, hm⟩ := k1; exact DataW.trod_lt m _ _ _ hm
  obtain ⟨z1, w1, m1⟩ := el_came (sz1.trans (by kernel_rfl)) h1
  clear hA0
  refine (walk W z0 cs0 w0 m0 z1 cs1 w1 m1).mono fun e W' ⟨he, bel⟩ => ?_
  subst he
  exact ⟨_, rfl, _, _, _, [], _, [], hW', trodAll_mk1 (shut_bool Try.underlying4 _), (trodAll_cons_mk (Below.trod Sg.laidOut (by kernel_rfl) (of_decide_eq_true (by kernel_rfl)) k0 bel lt0) (trodAll_cons_mk (Below.trod Sg.laidOut (by kernel_rfl) (of_decide_eq_true (by kernel_rfl)) k1 bel lt1) trodAll_mk0)), rfl, bel.frame _, fun h => by cases h⟩

theorem over : Rows.fnExactSameElRow.holds Try.pinned (OpenSpec.ofChange Rows.fnExactSameElSpec) :=
  OpenClaim.holds_of_wide 5 Try.f5 rfl rfl rfl rfl rfl rfl rfl ⟨rfl, rfl, rfl, rfl, rfl⟩ rfl rfl rfl rfl rfl (by kernel_rfl) Try.func5 (by kernel_rfl)
    (of_decide_eq_true (by kernel_rfl)) (by unfold Func.isWrapper; first | (rw [if_pos (by decide +kernel)]; kernel_rfl) | (rw [if_neg (by decide +kernel)]; exact ⟨rfl, rfl⟩))
    (fun os started H enc _ => lifted os started H enc)

end Go.Proofs.Ytgpfekdfomlljaa.fnExactSameEl

namespace Go.Proofs.Ytgpfekdfomlljaa
theorem fnExactSameEl_holds : Rows.FnExactSameElSaid := fnExactSameEl.over
#print axioms fnExactSameEl_holds
end Go.Proofs.Ytgpfekdfomlljaa
