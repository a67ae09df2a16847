/- Contract of the program's lastMark. -/
import Derived.Test.YtlnegnikedinaaaOpA
import Derived.Test.YtlnegnikedinaaaOpB
import Derived.Test.YtlnegnikedinaaaCpPopP
namespace Go.Proofs.Ytlnegnikedinaaa.Sg
open Go.ChangeShapes Go.WideShapes Go.ChangeAt Go.RowKit

set_option maxHeartbeats 1000000 in
theorem implLastMark1 (x : Int) (W : World) : Calls Try.prog 65 #[.int .i64 x] W fun e W' => e = .returned (.bool (x == -1)) ∧ Below W.heap.size W W' := by
  cases e : (x == -1) with
  | true =>
    obtain rfl : x = -1 := eq_of_beq e
    go_enter Try.func65, Try.ntmps65
    go_wp2_with fail
    go_ret
    exact ⟨rfl, Below.refl _ _⟩
  | false =>
    have e' : ¬ x = -1 := fun h => by rw [h] at e; exact absurd e (by decide)
    go_enter Try.func65, Try.ntmps65
    go_wp2_with fail
    go_ret
    exact ⟨rfl, Below.refl _ _⟩

theorem lastQ_mark (zs : List Int) : ∀ n, lastQ zs (fun x => x == -1) n = lastF zs n
  | 0 => rfl
  | n + 1 => by
    unfold lastQ lastF
    rw [lastQ_mark zs n]
    simp only [beq_iff_eq]

set_option maxRecDepth 20000 in
set_option maxHeartbeats 4000000 in
theorem implLastMark (p : PgB) (v : Value) (w : World) (hv : PgAt w v p) (hf : p.fms.length ≤ 1099511627776) :
    Calls Try.prog 54 #[v] w fun e w' => e = .returned (.int .i64 (lastF p.fms p.fms.length)) ∧ Below w.heap.size w w' := by
  obtain ⟨ia, ic, oa, oc, fa, fc, rfl, _, _, ⟨hF, hf1⟩⟩ := hv
  have HI : Hid (∀ W, Below w.heap.size w W → Calls Try.prog 64 #[.slice fa p.fms.length fc, .func (.func 65) #[] #[]] W fun e w' => e = .returned (.int .i64 (lastF p.fms p.fms.length)) ∧ Below W.heap.size W w') := by
    intro W hW
    have h := implInnermost p.fms fa p.fms.length fc (fun x => x == -1) 65 #[] W (enters_of Try.func65 (by kernel_rfl) rfl) (fun W' x _ => implLastMark1 x W') (hF.below (Nat.le_refl _) hW) rfl hf
    rw [lastQ_mark] at h
    exact h
  clear hF hf1 hf
  generalize lastF p.fms p.fms.length = R at *
  generalize p.its.length = N at *
  generalize p.opn.length = O at *
  generalize p.fms.length = F at *
  go_enter Try.func54, Try.ntmps54
  go_wp2_with fail
  refine (HI.out _ (alB _ _)).mono ?_
  rintro e w1 ⟨rfl, b2⟩
  go_wp2_with fail
  go_ret
  exact ⟨rfl, below_then (alB _ _) b2⟩

end Go.Proofs.Ytlnegnikedinaaa.Sg
