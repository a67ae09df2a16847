/- The laws' pages, compared: two that hold the same are the same. -/
import Derived.Test.YtlnegnikedinaaaPgMem
import Derived.Test.YtlnegnikedinaaaLwItEq2
namespace Go.Proofs.Ytlnegnikedinaaa.Sg
open Go.ChangeShapes Go.WideShapes Go.ChangeAt Go.RowKit

/-- A page whose lists are of a size that is met. -/
def PgSize (p : PgB) : Prop := p.its.length ≤ 1099511627776 ∧ (∀ t ∈ p.its, t.ats.length ≤ 1099511627776 ∧ t.kids.length ≤ 1099511627776) ∧ p.opn.length ≤ 1099511627776 ∧ p.fms.length ≤ 1099511627776

set_option maxRecDepth 20000 in
set_option maxHeartbeats 8000000 in
theorem eqPage_same (p : PgB) (u v : Value) (w : World) (hu : PgAt w u p) (hv : PgAt w v p) (hs : PgSize p) :
    Calls Try.prog 9 #[u, v] w fun e w' => e = .returned (.bool true) ∧ Below w.heap.size w w' := by
  obtain ⟨ia, ic, oa, oc, fa, fc, rfl, ⟨hI, hi1⟩, ⟨hO, ho1⟩, ⟨hF, hf1⟩⟩ := hu
  obtain ⟨ja, jc, pa, pc, ga, gc, rfl, ⟨hJ, hj1⟩, ⟨hP, hp1⟩, ⟨hG, hg1⟩⟩ := hv
  obtain ⟨its, opn, fms, hd, bd⟩ := p
  obtain ⟨h1, h2, h3, h4⟩ := hs
  simp only at *
  have CI : Hid (∀ W, Below w.heap.size w W → Calls Try.prog 23 #[.slice ia its.length ic, .slice ja its.length jc] W fun e w' => e = .returned (.bool true) ∧ Below W.heap.size W w') := fun W hW => eqItemS_same its ia ja its.length ic jc W (hI.keep hW) (hJ.keep hW) rfl (by omega) (fun t ht => ⟨Nat.le_trans (h2 t ht).1 (by decide), Nat.le_trans (h2 t ht).2 (by decide)⟩)
  have CO : Hid (∀ W, Below w.heap.size w W → Calls Try.prog 27 #[.slice oa opn.length oc, .slice pa opn.length pc] W fun e w' => e = .returned (.bool true) ∧ Below W.heap.size W w') := fun W hW => eqIntS_same opn oa pa oc pc W (hO.below (Nat.le_refl _) hW) (hP.below (Nat.le_refl _) hW) (by omega)
  have CF : Hid (∀ W, Below w.heap.size w W → Calls Try.prog 27 #[.slice fa fms.length fc, .slice ga fms.length gc] W fun e w' => e = .returned (.bool true) ∧ Below W.heap.size W w') := fun W hW => eqIntS_same fms fa ga fc gc W (hF.below (Nat.le_refl _) hW) (hG.below (Nat.le_refl _) hW) (by omega)
  clear hI hi1 hO ho1 hF hf1 hJ hj1 hP hp1 hG hg1 h1 h2 h3 h4
  generalize its.length = n at *
  generalize opn.length = m at *
  generalize fms.length = k at *
  have gh : (hd != hd) = false := by simp
  have gb : (bd != bd) = false := by simp
  have e1 : ∀ o, (w.alloc o).heap.size = w.heap.size + 1 := by simp
  go_enter Try.func9, Try.ntmps9
  go_wp2_with fail
  refine (CI.out _ ?_).mono ?_
  · exact ((Below.refl _ _).alloc (Nat.le_refl _) _).alloc (by simp) _
  rintro e w1 ⟨rfl, b1⟩
  have F0 : Many 5 w1 w.heap.size (fun i => [Value.slice ia n ic, .slice oa m oc, .slice fa k fc, .int .i64 hd, .int .i64 bd].getD i undef) :=
    (((Many.new w [.slice ia n ic, .slice oa m oc, .slice fa k fc, .int .i64 hd, .int .i64 bd] 25 undef).below (B := w.heap.size + 1) (Nat.lt_succ_self _) ((Below.refl _ _).alloc (by simp) _)).below (by simp; omega) b1)
  have F1 : Many 5 w1 (w.heap.size + 1) (fun i => [Value.slice ja n jc, .slice pa m pc, .slice ga k gc, .int .i64 hd, .int .i64 bd].getD i undef) := by
    have h := Many.new (w.alloc (.cells #[.slice ia n ic, .slice oa m oc, .slice fa k fc, .int .i64 hd, .int .i64 bd] 25)) [.slice ja n jc, .slice pa m pc, .slice ga k gc, .int .i64 hd, .int .i64 bd] 25 undef
    rw [e1] at h
    exact h.below (by simp) b1
  have HB : Hid (Below w.heap.size w w1) := (((Below.refl _ _).alloc (Nat.le_refl _) _).alloc (by simp) _).trans (b1.mono (by simp; omega))
  clear b1 CI e1
  have f1 := (F0.2 1 (by omega)).1
  have k1 := (F1.2 1 (by omega)).1
  simp only [List.getD_cons_zero, List.getD_cons_succ] at f1 k1
  have HF0 : Hid (Many 5 w1 w.heap.size _) := F0
  have HF1 : Hid (Many 5 w1 (w.heap.size + 1) _) := F1
  clear F0 F1
  go_wp2_with fail
  refine (CO.out _ HB.out).mono ?_
  rintro e w2 ⟨rfl, b2⟩
  clear f1 k1 CO
  have G0 := HF0.out.below HF0.out.1 b2
  have G1 := HF1.out.below HF1.out.1 b2
  have HB2 : Hid (Below w.heap.size w w2) := HB.out.trans (b2.mono HB.out.size)
  clear HF0 HF1 HB b2
  have f2 := (G0.2 2 (by omega)).1
  have k2 := (G1.2 2 (by omega)).1
  simp only [List.getD_cons_zero, List.getD_cons_succ] at f2 k2
  have HF0 : Hid (Many 5 w2 w.heap.size _) := G0
  have HF1 : Hid (Many 5 w2 (w.heap.size + 1) _) := G1
  clear G0 G1
  go_wp2_with fail
  refine (CF.out _ HB2.out).mono ?_
  rintro e w3 ⟨rfl, b3⟩
  clear f2 k2 CF
  have G0 := HF0.out.below HF0.out.1 b3
  have G1 := HF1.out.below HF1.out.1 b3
  have HB3 : Hid (Below w.heap.size w w3) := HB2.out.trans (b3.mono HB2.out.size)
  clear HF0 HF1 HB2 b3
  have f3 := (G0.2 3 (by omega)).1
  have k3 := (G1.2 3 (by omega)).1
  have f4 := (G0.2 4 (by omega)).1
  have k4 := (G1.2 4 (by omega)).1
  simp only [List.getD_cons_zero, List.getD_cons_succ] at f3 k3 f4 k4
  clear G0 G1
  go_wp2_with fail
  go_ret
  exact ⟨rfl, HB3.out⟩

end Go.Proofs.Ytlnegnikedinaaa.Sg
