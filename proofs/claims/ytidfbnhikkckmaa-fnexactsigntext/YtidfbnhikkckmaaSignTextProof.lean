/- For every list of numbers, the program's SignText gives the bytes that the model's gives, and changes nothing of the list. No condition. -/
import Derived.Test.YtidfbnhikkckmaaSgTextI
import Derived.ShutString
import Derived.ChangeOld
namespace Go.Proofs.Ytidfbnhikkckmaa.fnExactSignText
open Go.ChangeShapes Go.WideShapes Go.ChangeAt Go.RowKit Sg

theorem own : ownKnob Try.prog.godebug = none := by kernel_rfl
theorem laidOut : laidOutB Try.prog = true := by kernel_rfl

set_option maxHeartbeats 1000000 in
theorem walk (zs : List Int) (a : Option Addr) (ca : Nat) (w : World) (ha : Ints w a zs) (hm : zs.length ≤ 9223372036854775807) :
    Calls Try.prog 5 #[.slice a zs.length ca] w fun e w' => e = .returned (.bool true) ∧ Below w.heap.size w w' := by
  by_cases hbig : (1048576 : Int) < (zs.length : Int)
  · go_enter Try.func5, Try.ntmps5
    go_wp2
    go_ret
    exact ⟨rfl, Below.refl _ _⟩
  have hn : zs.length ≤ 17592186044416 := by omega
  have hn2 : zs.length ≤ 4611686018427387904 := by omega
  go_enter Try.func5, Try.ntmps5
  go_wp2_with fail
  refine (toIntS_any zs a ca _ ha hn).mono ?_
  rintro e w1 ⟨rfl, r1, b1⟩
  have i1 := Ints.of_row r1
  clear r1
  go_wp2_with fail
  refine (specSignText zs _ _ _ i1 hn).mono ?_
  rintro e w2 ⟨rfl, b2⟩
  have b12 : Below w.heap.size w w2 := b1.trans (b2.mono b1.size)
  have a2 := ha.below (Nat.le_refl _) b12
  clear i1 b1 b2
  go_wp2_with fail
  refine (toIntS_any zs a ca _ a2 hn).mono ?_
  rintro e w3 ⟨rfl, r3, b3⟩
  have i3 := Ints.of_row r3
  have b13 : Below w.heap.size w w3 := b12.trans (b3.mono b12.size)
  clear r3 b3 a2 b12
  go_wp2_with fail
  refine (implSignText zs _ _ _ i3 hn).mono ?_
  rintro e w4 ⟨rfl, b4⟩
  have i4 := i3.below (Nat.le_refl _) b4
  have b14 : Below w.heap.size w w4 := b13.trans (b4.mono b13.size)
  have a4 := ha.below (Nat.le_refl _) b14
  clear i3 b4 b13
  have hself : ((textS zs).toList == (textS zs).toList) = true := by simp
  go_wp2_with fail
  refine (toIntS_any zs a ca _ a4 hn).mono ?_
  rintro e w5 ⟨rfl, r5, b5⟩
  have i5 := Ints.of_row r5
  have j5 := i4.below (Nat.le_refl _) b5
  have b15 : Below w.heap.size w w5 := b14.trans (b5.mono b14.size)
  clear r5 b5 i4 b14 a4
  go_wp2_with fail
  refine (eqIntS_same zs _ _ _ _ _ j5 i5 hn2).mono ?_
  rintro e w6 ⟨rfl, b6⟩
  go_wp2
  go_ret
  exact ⟨rfl, b15.trans (b6.mono b15.size)⟩

set_option maxRecDepth 100000 in
theorem lifted (os : Os) (started : os.Started) (H : Type) (enc : TypeId × Value → H) :
    ReturnsInHanded {} Try.checked os 5 .any (Rows.fnExactSignTextSpec.pre6 enc Try.prog Try.f5 Rows.fnExactSignTextRow.domain false) (Rows.fnExactSignTextSpec.post enc Try.prog Try.f5 false true false false) := by
  refine returnsInHanded_of_change (C := Try.checked) own started (by kernel_rfl) Try.func5
    (ChangeSpec.witness6 (enc := enc) (C := Try.checked) false ⟨#[], #[.slice none 0 0], []⟩ 8 (by kernel_rfl) (by kernel_rfl) (by kernel_rfl) (by kernel_rfl)) ?_
  intro W base args ds gs before hval0 hW hcnd _
  have hval : ∀ (j : Nat) t v, Try.f5.params[j]? = some t → args[j]? = some v → Value.okWide Try.prog W .any base t v := hval0
  have hW' := hW
  obtain ⟨p, q, hA0, hV, rfl, hfz, hnd⟩ := hW
  have hA : DataW.TrodAll enc Try.prog W 0 (fun _ => true) true Try.f5.params.toList args.toList ds p := hA0
  rw [Try.params5] at hA hval
  obtain ⟨v0, vs0, d0, ds0, p0, q0, hargs, rfl, rfl, h0, r0⟩ := trodAll_cons hA
  obtain ⟨rfl, rfl, rfl⟩ := trodAll_nil r0
  obtain rfl : args = #[v0] := by cases args; simp_all
  obtain ⟨rfl, rfl⟩ := trodVars_none hV
  obtain ⟨a0, len0, cap0, rfl⟩ := okWide_slice Try.underlying24 (hval 0 24 v0 rfl rfl)
  have k0 := h0
  have lt0 : ∀ x ∈ p0, x.block < W.heap.size := by obtain ⟨m, hm⟩ := k0; exact DataW.trod_lt m _ _ _ hm
  obtain ⟨z0, rfl, w0, m0⟩ := ints_came h0
  clear hA0 hval0
  refine (walk z0 a0 cap0 W w0 m0).mono fun e W' ⟨he, bel⟩ => ?_
  subst he
  exact ⟨_, rfl, _, _, _, [], _, [], hW', trodAll_mk1 (shut_bool Try.underlying4 _), (trodAll_cons_mk (Below.trod laidOut (by kernel_rfl) (of_decide_eq_true (by kernel_rfl)) k0 bel lt0) trodAll_mk0), rfl, bel.frame _, fun h => by cases h⟩

theorem over : Rows.fnExactSignTextRow.holds Try.pinned (OpenSpec.ofChange Rows.fnExactSignTextSpec) :=
  OpenClaim.holds_of_wide 5 Try.f5 rfl rfl rfl rfl rfl rfl rfl ⟨rfl, rfl, rfl, rfl, rfl⟩ rfl rfl rfl rfl rfl (by kernel_rfl) Try.func5 (by kernel_rfl)
    (of_decide_eq_true (by kernel_rfl)) (by unfold Func.isWrapper; first | (rw [if_pos (by decide +kernel)]; kernel_rfl) | (rw [if_neg (by decide +kernel)]; exact ⟨rfl, rfl⟩))
    (fun os started H enc _ => lifted os started H enc)

end Go.Proofs.Ytidfbnhikkckmaa.fnExactSignText

namespace Go.Proofs.Ytidfbnhikkckmaa
theorem fnExactSignText_holds : Rows.FnExactSignTextSaid := fnExactSignText.over
#print axioms fnExactSignText_holds
end Go.Proofs.Ytidfbnhikkckmaa
