/- The laws' pages: weighed. -/
import Derived.Test.YtlnegnikedinaaaPgMem
import Derived.Test.YtlnegnikedinaaaLwIt2
namespace Go.Proofs.Ytlnegnikedinaaa.Sg
open Go.ChangeShapes Go.WideShapes Go.ChangeAt Go.RowKit

theorem leftP_yes {left : Int} {n : Nat} (h : (n : Int) ≤ left) : leftZ left n = left - n := by unfold leftZ; rw [if_pos (by omega)]
theorem leftP_no {left : Int} {n : Nat} (h : ¬ (n : Int) ≤ left) : leftZ left n = -1 := by unfold leftZ; rw [if_neg (by omega)]

set_option maxRecDepth 20000 in
set_option maxHeartbeats 4000000 in
theorem szPage_any (p : PgB) (v : Value) (w : World) (h : PgIn w v p) (hh : PgHeld p) :
    Calls Try.prog 12 #[v, .int .i64 1048576] w fun e w' => e = .returned (.int .i64 (leftZ 1048576 (pgW p))) ∧ Below w.heap.size w w' := by
  obtain ⟨ia, ic, oa, oc, fa, fc, rfl, hI, hO, hF⟩ := h
  obtain ⟨its, opn, fms, hd, bd⟩ := p
  obtain ⟨h1, h2, h3⟩ := hh
  simp only at hI hO hF h1 h2 h3 ⊢
  have HI : Hid (∀ W, Below w.heap.size w W → Calls Try.prog 18 #[.slice ia its.length ic, .int .i64 1048576] W fun e w' => e = .returned (.int .i64 (leftZ 1048576 (itsW its))) ∧ Below W.heap.size W w') := fun W hW => szItemS_any its ia its.length ic 1048576 W (hI.keep hW) rfl h1 (by decide) (by decide)
  have HO : Hid (∀ W (left : Int), 0 ≤ left → left ≤ 1048576 → Calls Try.prog 31 #[.slice oa opn.length oc, .int .i64 left] W fun e w' => e = .returned (.int .i64 (leftZ left opn.length)) ∧ Below W.heap.size W w') := fun W left a b => szIntS_any oa opn.length oc left W h2 a b
  have HF : Hid (∀ W (left : Int), 0 ≤ left → left ≤ 1048576 → Calls Try.prog 31 #[.slice fa fms.length fc, .int .i64 left] W fun e w' => e = .returned (.int .i64 (leftZ left fms.length)) ∧ Below W.heap.size W w') := fun W left a b => szIntS_any fa fms.length fc left W h3 a b
  have HW : Hid (pgW ⟨its, opn, fms, hd, bd⟩ = itsW its + (opn.length + fms.length)) := rfl
  rw [HW.out]
  clear hI hO hF h1 h2 h3 HW
  generalize itsW its = x at *
  generalize opn.length = y at *
  generalize fms.length = z at *
  obtain ⟨R, HR⟩ : ∃ R, Hid (leftZ 1048576 (x + (y + z)) = R) := ⟨_, rfl⟩
  rw [HR.out]
  go_enter Try.func12, Try.ntmps12
  go_wp2_with fail
  refine (HI.out _ ((Below.refl _ _).alloc (Nat.le_refl _) _)).mono ?_
  rintro e w1 ⟨rfl, b1⟩
  have e1 : ∀ o, (w.alloc o).heap.size = w.heap.size + 1 := by simp
  rw [e1] at b1
  have c1 : w1.cell? ⟨w.heap.size, 1, none⟩ = some (.slice oa y oc) := (b1.cell (Nat.lt_succ_self _)).trans (by rw [World.cell?_alloc_new]; rfl)
  have c2 : w1.cell? ⟨w.heap.size, 2, none⟩ = some (.slice fa z fc) := (b1.cell (Nat.lt_succ_self _)).trans (by rw [World.cell?_alloc_new]; rfl)
  have HB : Hid (Below w.heap.size w w1) := ((Below.refl _ _).alloc (Nat.le_refl _) _).trans (b1.mono (Nat.le_succ _))
  have HL : Hid (w.heap.size + 1 ≤ w1.heap.size) := by show _ ≤ _; have := b1.size; rw [e1] at this; exact this
  clear b1 e1 HI
  by_cases hx : (x : Int) ≤ 1048576
  · rw [leftP_yes hx]
    have g1 : ¬ (1048576 - (x : Int)) < 0 := by omega
    have g1' : decide ((1048576 - (x : Int)) < 0) = false := decide_eq_false g1
    have HO1 := HO.out w1 (1048576 - (x : Int)) (by omega) (by omega)
    by_cases hy : (y : Int) ≤ 1048576 - x
    · rw [leftP_yes hy] at HO1
      go_wp2_with fail
      refine HO1.mono ?_
      rintro e w2 ⟨rfl, b2⟩
      have d2 : w2.cell? ⟨w.heap.size, 2, none⟩ = some (.slice fa z fc) := (b2.cell (show w.heap.size < w1.heap.size from HL.out)).trans c2
      have HB2 : Hid (Below w.heap.size w w2) := HB.out.trans (b2.mono HB.out.size)
      have g2 : ¬ (1048576 - (x : Int) - (y : Int)) < 0 := by omega
      have g2' : decide ((1048576 - (x : Int) - (y : Int)) < 0) = false := decide_eq_false g2
      have HF1 := HF.out w2 (1048576 - (x : Int) - (y : Int)) (by omega) (by omega)
      clear b2 c1 c2 HO1 HO HF
      by_cases hz : (z : Int) ≤ 1048576 - x - y
      · rw [leftP_yes hz] at HF1
        have Hr : Hid (R = 1048576 - (x : Int) - (y : Int) - (z : Int)) := by show _ = _; rw [← HR.out, leftP_yes (by omega)]; omega
        have g3 : ¬ (1048576 - (x : Int) - (y : Int) - (z : Int)) < 0 := by omega
        have g3' : decide ((1048576 - (x : Int) - (y : Int) - (z : Int)) < 0) = false := decide_eq_false g3
        go_wp2_with fail
        refine HF1.mono ?_
        rintro e w3 ⟨rfl, b3⟩
        go_wp2_with fail
        go_ret
        exact ⟨by rw [Hr.out]; rfl, HB2.out.trans (b3.mono HB2.out.size)⟩
      · rw [leftP_no hz] at HF1
        have Hr : Hid (R = -1) := by show _ = _; rw [← HR.out, leftP_no (by omega)]
        go_wp2_with fail
        refine HF1.mono ?_
        rintro e w3 ⟨rfl, b3⟩
        go_wp2_with fail
        go_ret
        exact ⟨by rw [Hr.out]; rfl, HB2.out.trans (b3.mono HB2.out.size)⟩
    · rw [leftP_no hy] at HO1
      have Hr : Hid (R = -1) := by show _ = _; rw [← HR.out, leftP_no (by omega)]
      go_wp2_with fail
      refine HO1.mono ?_
      rintro e w2 ⟨rfl, b2⟩
      go_wp2_with fail
      go_ret
      exact ⟨by rw [Hr.out]; rfl, HB.out.trans (b2.mono HB.out.size)⟩
  · rw [leftP_no hx]
    have Hr : Hid (R = -1) := by show _ = _; rw [← HR.out, leftP_no (by omega)]
    go_wp2_with fail
    go_ret
    exact ⟨by rw [Hr.out]; rfl, HB.out⟩

end Go.Proofs.Ytlnegnikedinaaa.Sg
