/- Contract of the laws' held pages. -/
import Derived.Test.YtlnegnikedinaaaLwPgMk
import Derived.Test.YtlnegnikedinaaaLwPgEq
namespace Go.Proofs.Ytlnegnikedinaaa.Sg
open Go.ChangeShapes Go.WideShapes Go.ChangeAt Go.RowKit

/-- A page of a size that can be marked. -/
def PgLight (p : PgB) : Prop := p.its.length ≤ 1048576 ∧ markIs p.its ≤ 549755813888 ∧ (∀ t ∈ p.its, t.ats.length ≤ 1048576 ∧ t.kids.length ≤ 1048576) ∧ p.opn.length ≤ 1048576 ∧ p.fms.length ≤ 1048576

set_option maxRecDepth 20000 in
set_option maxHeartbeats 8000000 in
theorem heldPage_any (p : PgB) (v : Value) (k : Nat) (w : World) (hv : PgAt w v (markPg k p)) (hk : k ≤ 1048576) (hs : PgLight p) :
    Calls Try.prog 11 #[v, .int .i64 (k : Int)] w fun e w' => e = .returned (.int .i64 ((k + markPn p : Nat) : Int)) ∧ Below w.heap.size w w' := by
  obtain ⟨ia, ic, oa, oc, fa, fc, rfl, ⟨hI, _⟩, ⟨hO, _⟩, ⟨hF, _⟩⟩ := hv
  obtain ⟨its, opn, fms, hd, bd⟩ := p
  obtain ⟨s1, s2, s3, s4, s5⟩ := hs
  simp only [markPg] at *
  rw [markIts_length, cntL_length, cntL_length] at *
  have HP : Hid (markPn ⟨its, opn, fms, hd, bd⟩ = markIs its + opn.length + fms.length) := rfl
  rw [HP.out]
  obtain ⟨k1, Hk1⟩ : ∃ k1, Hid (k + markIs its = k1) := ⟨_, rfl⟩
  obtain ⟨k2, Hk2⟩ : ∃ k2, Hid (k1 + opn.length = k2) := ⟨_, rfl⟩
  rw [Hk1.out] at hO hF
  rw [Hk2.out] at hF
  have hk1 : k1 ≤ 549756862464 := by have := Hk1.out; omega
  have hk2 : k2 ≤ 549757911040 := by have := Hk2.out; omega
  have CI : Hid (∀ W, Below w.heap.size w W → Calls Try.prog 29 #[.slice ia its.length ic, .int .i64 (k : Int)] W fun e w' => e = .returned (.int .i64 (k1 : Int)) ∧ Below W.heap.size W w') := fun W hW => by
    have h := heldItemS_any its k ia its.length ic W (hI.keep hW) rfl hk s2 s3 s1
    rw [Hk1.out] at h
    exact h
  have CO : Hid (∀ W, Below w.heap.size w W → Calls Try.prog 30 #[.slice oa opn.length oc, .int .i64 (k1 : Int)] W fun e w' => e = .returned (.int .i64 (k2 : Int)) ∧ w' = W) := fun W hW => by
    have h := heldIntS_cnt opn.length k1 oa oc W (hO.below (Nat.le_refl _) hW) (by omega) (by omega)
    rw [Hk2.out] at h
    exact h
  have CF : Hid (∀ W, Below w.heap.size w W → Calls Try.prog 30 #[.slice fa fms.length fc, .int .i64 (k2 : Int)] W fun e w' => e = .returned (.int .i64 ((k2 + fms.length : Nat) : Int)) ∧ w' = W) := fun W hW => heldIntS_cnt fms.length k2 fa fc W (hF.below (Nat.le_refl _) hW) (by omega) (by omega)
  have Hend : Hid (k2 + fms.length = k + (markIs its + opn.length + fms.length)) := by show _ = _; rw [← Hk2.out, ← Hk1.out]; omega
  rw [Hend.out] at CF
  have gz1 : ¬ (k1 : Int) < 0 := by omega
  have gz1' : decide ((k1 : Int) < 0) = false := decide_eq_false gz1
  have gz2 : ¬ (k2 : Int) < 0 := by omega
  have gz2' : decide ((k2 : Int) < 0) = false := decide_eq_false gz2
  have gz3 : ¬ ((k + (markIs its + opn.length + fms.length) : Nat) : Int) < 0 := by omega
  have gz3' : decide (((k + (markIs its + opn.length + fms.length) : Nat) : Int) < 0) = false := decide_eq_false gz3
  clear hI hO hF s1 s2 s3 s4 s5 HP Hk1 Hk2 Hend hk
  generalize k + (markIs its + opn.length + fms.length) = k3 at *
  generalize its.length = n at *
  generalize opn.length = m at *
  generalize fms.length = c at *
  go_enter Try.func11, Try.ntmps11
  go_wp2_with fail
  refine (CI.out _ ((Below.refl _ _).alloc (Nat.le_refl _) _)).mono ?_
  rintro e w1 ⟨rfl, b1⟩
  have F1 : Many 5 w1 w.heap.size (fun i => [Value.slice ia n ic, .slice oa m oc, .slice fa c fc, .int .i64 hd, .int .i64 bd].getD i undef) :=
    (Many.new w [.slice ia n ic, .slice oa m oc, .slice fa c fc, .int .i64 hd, .int .i64 bd] 25 undef).below (by simp) b1
  have HB1 : Hid (Below w.heap.size w w1) := ((Below.refl _ _).alloc (Nat.le_refl _) _).trans (b1.mono (by simp))
  have c1 := (F1.2 1 (by omega)).1
  have c2 := (F1.2 2 (by omega)).1
  simp only [List.getD_cons_zero, List.getD_cons_succ] at c1 c2
  clear b1 CI F1
  go_wp2_with fail
  refine (CO.out _ HB1.out).mono ?_
  rintro e w2 ⟨rfl, rfl⟩
  clear CO
  go_wp2_with fail
  refine (CF.out _ HB1.out).mono ?_
  rintro e w3 ⟨rfl, rfl⟩
  clear CF
  go_wp2_with fail
  go_ret
  exact ⟨rfl, HB1.out⟩

end Go.Proofs.Ytlnegnikedinaaa.Sg
