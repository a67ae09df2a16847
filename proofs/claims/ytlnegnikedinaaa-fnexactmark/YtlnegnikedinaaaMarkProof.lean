/- FnExactMark: at every page Mark answers as its model, and what it hands back shares nothing. -/
import Derived.Test.YtlnegnikedinaaaLwPgMark
import Derived.Test.YtlnegnikedinaaaMkSpec
import Derived.Test.YtlnegnikedinaaaMkImpl
import Derived.Test.YtlnegnikedinaaaPgCame
import Derived.Test.YtlnegnikedinaaaRows
namespace Go.Proofs.Ytlnegnikedinaaa.fnExactMark
open Go.ChangeShapes Go.WideShapes Go.ChangeAt Go.RowKit Sg

theorem markP_light {p : PgB} (h : pgW p ≤ 1048576) : PgSize (markP p) ∧ PgLight (markP p) := by
  obtain ⟨a1, a2, a3, a4⟩ := pg_light h
  obtain ⟨b1, b2, b3, b4, b5⟩ := pg_marks h
  unfold markP
  split
  · have hl : (p.fms ++ [-1]).length = p.fms.length + 1 := by simp
    exact ⟨⟨a1, a2, a3, by show (p.fms ++ [-1]).length ≤ _; omega⟩, ⟨b1, b2, b3, b4, by show (p.fms ++ [-1]).length ≤ _; omega⟩⟩
  · exact ⟨⟨a1, a2, a3, a4⟩, ⟨b1, b2, b3, b4, b5⟩⟩

theorem walk (w : World) (z : PgB) (cs : Array Value) (h : PgIn w (.agg cs) z) (m : PgHeld z) :
    Calls Try.prog 5 #[.agg cs] w fun e w' => e = .returned (.bool true) ∧ Below w.heap.size w w' :=
  lawMark z (markP z) _ w (fun _ => True) (fun _ _ _ _ => trivial) trivial h m markP_light
    (fun hb W x B hx => specMark z x B W hx (pg_light hb) (by obtain ⟨b1, _⟩ := pg_marks hb; omega))
    (fun hb W x B hx _ => implMark z x B W hx (pg_light hb) (by obtain ⟨b1, _⟩ := pg_marks hb; omega))

set_option maxRecDepth 100000 in
theorem lifted (os : Os) (started : os.Started) (H : Type) (enc : TypeId × Value → H) :
    ReturnsInHanded {} Try.checked os 5 .any (Rows.fnExactMarkSpec.pre6 enc Try.prog Try.f5 Rows.fnExactMarkRow.domain false) (Rows.fnExactMarkSpec.post enc Try.prog Try.f5 false true false false) := by
  refine returnsInHanded_of_change (C := Try.checked) Sg.own started (by kernel_rfl) Try.func5
    (ChangeSpec.witness6 (enc := enc) (C := Try.checked) false ⟨#[], #[.agg #[.slice none 0 0, .slice none 0 0, .slice none 0 0, .int .i64 0, .int .i64 0]], []⟩ 8 (by kernel_rfl) (by kernel_rfl) (by kernel_rfl) (by kernel_rfl)) ?_
  intro W base args ds gs before hval0 hW hcnd _
  have hval : ∀ (j : Nat) t v, Try.f5.params[j]? = some t → args[j]? = some v → Value.okWide Try.prog W .any base t v := hval0
  clear hval0
  have hW' := hW
  obtain ⟨p, q, hA0, hV, rfl, hfz, hnd⟩ := hW
  have hA : DataW.TrodAll enc Try.prog W 0 (fun _ => true) true Try.f5.params.toList args.toList ds p := hA0
  rw [Try.params5] at hA hval
  obtain ⟨v0, vs0, d0, ds0, p0, q0, hargs, rfl, rfl, h0, r0⟩ := trodAll_cons hA
  obtain ⟨rfl, rfl, rfl⟩ := trodAll_nil r0
  obtain rfl : args = #[v0] := by cases args; simp_all
  obtain ⟨rfl, rfl⟩ := trodVars_none hV
  obtain ⟨cs0, rfl, sz0⟩ := okWide_struct Try.underlying32 (hval 0 32 v0 rfl rfl)
  have k0 := h0
  have lt0 : ∀ x ∈ p0, x.block < W.heap.size := by obtain ⟨m, hm⟩ := k0; exact DataW.trod_lt m _ _ _ hm
  obtain ⟨z0, w0, m0⟩ := page_came (sz0.trans (by kernel_rfl)) h0
  clear hA0
  refine (walk W z0 cs0 w0 m0).mono fun e W' ⟨he, bel⟩ => ?_
  subst he
  exact ⟨_, rfl, _, _, _, [], _, [], hW', trodAll_mk1 (shut_bool Try.underlying4 _), (trodAll_cons_mk (Below.trod Sg.laidOut (by kernel_rfl) (of_decide_eq_true (by kernel_rfl)) k0 bel lt0) trodAll_mk0), rfl, bel.frame _, fun h => by cases h⟩

theorem over : Rows.fnExactMarkRow.holds Try.pinned (OpenSpec.ofChange Rows.fnExactMarkSpec) :=
  OpenClaim.holds_of_wide 5 Try.f5 rfl rfl rfl rfl rfl rfl rfl ⟨rfl, rfl, rfl, rfl, rfl⟩ rfl rfl rfl rfl rfl (by kernel_rfl) Try.func5 (by kernel_rfl)
    (of_decide_eq_true (by kernel_rfl)) (by unfold Func.isWrapper; first | (rw [if_pos (by decide +kernel)]; kernel_rfl) | (rw [if_neg (by decide +kernel)]; exact ⟨rfl, rfl⟩))
    (fun os started H enc _ => lifted os started H enc)

end Go.Proofs.Ytlnegnikedinaaa.fnExactMark

namespace Go.Proofs.Ytlnegnikedinaaa
theorem fnExactMark_holds : Rows.FnExactMarkSaid := fnExactMark.over
#print axioms fnExactMark_holds
end Go.Proofs.Ytlnegnikedinaaa
