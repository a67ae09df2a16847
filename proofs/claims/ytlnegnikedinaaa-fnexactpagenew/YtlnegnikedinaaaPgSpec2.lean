/- Contracts of the model's l8Last, InTable, l8Find, TableOpen. -/
import Derived.Test.YtlnegnikedinaaaPgSpec
namespace Go.Proofs.Ytlnegnikedinaaa.Sg
open Go.ChangeShapes Go.WideShapes Go.ChangeAt Go.RowKit

set_option maxRecDepth 20000 in
set_option maxHeartbeats 8000000 in
theorem specLast (p : PgB) (v : Value) (w : World) (hv : PgAt w v p) (ho : p.opn.length ≤ 1099511627776) :
    Calls Try.prog 33 #[v] w fun e w' => e = .returned (.string (lastN p)) ∧ Below w.heap.size w w' := by
  have Hv : Hid (PgAt w v p) := hv
  obtain ⟨ia, ic, oa, oc, fa, fc, rfl, _⟩ := hv
  obtain ⟨R, HR⟩ : ∃ R, Hid (lastN p = R) := ⟨_, rfl⟩
  rw [HR.out]
  have HC : Hid (∀ W, Below w.heap.size w W → ∀ z : Int, z = (p.opn.length : Int) - 1 → Calls Try.prog 49 #[.agg #[.slice ia p.its.length ic, .slice oa p.opn.length oc, .slice fa p.fms.length fc, .int .i64 p.hd, .int .i64 p.bd], .int .i64 z] W fun e w' => e = .returned (.string R) ∧ Below W.heap.size W w') := by
    intro W hW z hz
    by_cases h0 : p.opn.length = 0
    · have e1 : z = -1 := by omega
      have e2 : R = ⟨#[]⟩ := by rw [← HR.out]; unfold lastN; rw [if_pos h0]
      rw [e1, e2]
      exact specName_no p _ W (Hv.out.keep hW)
    · have e1 : z = ((p.opn.length - 1 : Nat) : Int) := by omega
      have e2 : R = nameAt p (p.opn.length - 1) := by rw [← HR.out]; unfold lastN; rw [if_neg h0]
      rw [e1, e2]
      exact specName_at p _ _ W (Hv.out.keep hW) (by omega)
  have g1 : IntKind.i64.wrap ((p.opn.length : Int) - 1) = (p.opn.length : Int) - 1 := IntWalk.i64_in _ (by omega)
  clear Hv HR ho
  generalize p.opn.length = m at *
  generalize p.its.length = n at *
  go_enter Try.func33, Try.ntmps33
  go_wp2_with fail
  refine (HC.out _ ((Below.refl _ _).alloc (Nat.le_refl _) _) _ rfl).mono ?_
  rintro e w1 ⟨rfl, b1⟩
  go_wp2_with fail
  go_ret
  exact ⟨rfl, ((Below.refl _ _).alloc (Nat.le_refl _) _).trans (b1.mono (by simp))⟩




end Go.Proofs.Ytlnegnikedinaaa.Sg
