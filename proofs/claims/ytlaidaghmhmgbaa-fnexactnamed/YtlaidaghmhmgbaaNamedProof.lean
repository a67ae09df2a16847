/- The program's Named gives the names that the model's gives, in new memory that it owns, behind another call too. No condition. -/
import Derived.Test.YtlaidaghmhmgbaaNmNamed
namespace Go.Proofs.Ytlaidaghmhmgbaa.fnExactNamed
open Go.ChangeShapes Go.WideShapes Go.ChangeAt Go.RowKit Sg

set_option maxRecDepth 20000 in
set_option maxHeartbeats 2000000 in
theorem walk (w : World) :
    Calls Try.prog 3 #[] w fun e w' => e = .returned (.bool true) ∧ Below w.heap.size w w' := by
  have hn : nameS.length = 14 := rfl
  have Himpl := implNamed
  have Hspec : Hid (∀ w, Calls Try.prog 7 #[] w fun e w' => ∃ a, e = .returned (.slice a 14 14) ∧ StrsAt w' a nameS ∧ Below w.heap.size w w') := fun w => (specNamed w).mono fun e w' h => ⟨_, h.1, texts_strs h.2.1, h.2.2⟩
  rw [hn] at Himpl
  have Hn : Hid (nameS.length = 14) := hn
  clear hn
  generalize nameS = l at *
  go_enter Try.func3, Try.ntmps3
  go_wp2_with fail
  refine (Hspec.out _).mono ?_
  rintro e w1 ⟨a1, rfl, A1, b1⟩
  go_wp2_with fail
  refine (Himpl _).mono ?_
  rintro e w2 ⟨v2, rfl, o2, b2⟩
  have A12 := A1.below b2
  have b02 : Below w.heap.size w w2 := b1.trans (b2.mono b1.size)
  have o2' : w2.ownsRow w1.heap.size 9 1 v2 l.length (strCs l) := by rw [Hn.out]; exact o2
  obtain ⟨a2, c2, e2, A2⟩ := strs_of_own o2'
  rw [Hn.out] at e2
  subst e2
  clear o2
  go_wp2_with fail
  refine (eqStringS_same l a2 a1 14 c2 14 _ A2 A12 Hn.out (by omega)).mono ?_
  rintro e w3 ⟨rfl, b3⟩
  have o23 := owns_below o2' (Nat.le_refl _) b3
  have A13 := A12.below b3
  have b03 : Below w.heap.size w w3 := b02.trans (b3.mono b02.size)
  have hz13 : w1.heap.size ≤ w3.heap.size := Nat.le_trans b2.size b3.size
  have b13 : Below w1.heap.size w1 w3 := b2.trans (b3.mono b2.size)
  clear o2' A2 A12 b02 b2 b3
  go_wp2_with fail
  refine (markStringS_any l _ 1 w1.heap.size _ o23 (by omega) (by rw [Hn.out]; omega) hz13).mono ?_
  rintro e w4 ⟨rfl, o24, b4⟩
  have A14 := A1.below (b13.trans b4)
  have b04 : Below w.heap.size w w4 := b03.trans (b4.mono b1.size)
  rw [Hn.out] at o24 ⊢
  clear o23 A13 b03 b4 b13 hz13 A1
  obtain ⟨a2', c2', e2, A24⟩ := strs_of_own o24
  rw [markT_length] at e2
  cases e2
  go_wp2_with fail
  refine (heldStringS_any 14 1 a2 c2 _ A24 (by omega) (by omega)).mono ?_
  rintro e w5 ⟨rfl, b5⟩
  have A15 := A14.below b5
  have A25 := A24.below b5
  have b05 : Below w.heap.size w w5 := b04.trans (b5.mono b04.size)
  clear A14 A24 b04 b5 o24
  go_wp2_with fail
  refine (Himpl _).mono ?_
  rintro e w6 ⟨v6, rfl, o6, b6⟩
  have A16 := A15.below b6
  have A26 := A25.below b6
  have b06 : Below w.heap.size w w6 := b05.trans (b6.mono b05.size)
  have o6' : w6.ownsRow w5.heap.size 9 1 v6 l.length (strCs l) := by rw [Hn.out]; exact o6
  obtain ⟨a6, c6, e6, A6⟩ := strs_of_own o6'
  rw [Hn.out] at e6
  subst e6
  clear A15 A25 b05 b6 o6 o6'
  go_wp2_with fail
  refine (eqStringS_same l a6 a1 14 c6 14 _ A6 A16 Hn.out (by omega)).mono ?_
  rintro e w7 ⟨rfl, b7⟩
  have A27 := A26.below b7
  have b07 : Below w.heap.size w w7 := b06.trans (b7.mono b06.size)
  clear A16 A26 A6 b06 b7
  go_wp2_with fail
  refine (heldStringS_any 14 1 a2 c2 _ A27 (by omega) (by omega)).mono ?_
  rintro e w8 ⟨rfl, b8⟩
  have b08 := b07.trans (b8.mono b07.size)
  clear A27 b07 b8
  go_wp2_with fail
  go_ret
  exact ⟨rfl, b08⟩

set_option maxRecDepth 100000 in
theorem lifted (os : Os) (started : os.Started) (H : Type) (enc : TypeId × Value → H) :
    ReturnsInHanded {} Try.checked os 3 .any (Rows.fnExactNamedSpec.pre6 enc Try.prog Try.f3 Rows.fnExactNamedRow.domain false) (Rows.fnExactNamedSpec.post enc Try.prog Try.f3 false true false false) := by
  refine returnsInHanded_of_change (C := Try.checked) Sg.own started (by kernel_rfl) Try.func3
    (ChangeSpec.witness6 (enc := enc) (C := Try.checked) false ⟨#[], #[], []⟩ 8 (by kernel_rfl) (by kernel_rfl) (by kernel_rfl) (by kernel_rfl)) ?_
  intro W base args ds gs before hval0 hW hcnd _
  have hval : ∀ (j : Nat) t v, Try.f3.params[j]? = some t → args[j]? = some v → Value.okWide Try.prog W .any base t v := hval0
  clear hval0
  have hW' := hW
  obtain ⟨p, q, hA0, hV, rfl, hfz, hnd⟩ := hW
  have hA : DataW.TrodAll enc Try.prog W 0 (fun _ => true) true Try.f3.params.toList args.toList ds p := hA0
  rw [Try.params3] at hA hval
  obtain ⟨hargs, rfl, rfl⟩ := trodAll_nil hA
  obtain rfl : args = #[] := by cases args; simp_all
  obtain ⟨rfl, rfl⟩ := trodVars_none hV

  clear hA0
  refine (walk W ).mono fun e W' ⟨he, bel⟩ => ?_
  subst he
  exact ⟨_, rfl, _, _, _, [], _, [], hW', trodAll_mk1 (shut_bool Try.underlying4 _), trodAll_mk0, rfl, bel.frame _, fun h => by cases h⟩

theorem over : Rows.fnExactNamedRow.holds Try.pinned (OpenSpec.ofChange Rows.fnExactNamedSpec) :=
  OpenClaim.holds_of_wide 3 Try.f3 rfl rfl rfl rfl rfl rfl rfl ⟨rfl, rfl, rfl, rfl, rfl⟩ rfl rfl rfl rfl rfl (by kernel_rfl) Try.func3 (by kernel_rfl)
    (of_decide_eq_true (by kernel_rfl)) (by unfold Func.isWrapper; first | (rw [if_pos (by decide +kernel)]; kernel_rfl) | (rw [if_neg (by decide +kernel)]; exact ⟨rfl, rfl⟩))
    (fun os started H enc _ => lifted os started H enc)

end Go.Proofs.Ytlaidaghmhmgbaa.fnExactNamed

namespace Go.Proofs.Ytlaidaghmhmgbaa
theorem fnExactNamed_holds : Rows.FnExactNamedSaid := fnExactNamed.over
#print axioms fnExactNamed_holds
end Go.Proofs.Ytlaidaghmhmgbaa
