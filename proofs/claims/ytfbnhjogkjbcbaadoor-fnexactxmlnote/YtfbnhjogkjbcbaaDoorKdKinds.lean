/- Contracts of the program's IsLetter, IsFirst and IsNext. -/
import Derived.Test.YtfbnhjogkjbcbaaDoorKdSpan
namespace Go.Proofs.YtfbnhjogkjbcbaaDoor.Sg
open Go.ChangeShapes Go.WideShapes Go.ChangeAt Go.RowKit

theorem Spans.at_first (w : World) (l : List (Int × Int)) (C : Array Value) (t : TypeId) (hC : C = (spanCells l).toArray) : Spans (w.alloc (.cells C t)) w.heap.size l := by
  subst hC
  exact Spans.laid w l t

theorem letter_no : ∀ p ∈ letterL, p ≠ (0, 0) := by decide
theorem first_no : ∀ p ∈ firstL, p ≠ (0, 0) := by decide
theorem next_no : ∀ p ∈ nextL, p ≠ (0, 0) := by decide

set_option maxHeartbeats 1000000 in
/-- Two spans are compared end by end. -/
theorem eq_span (a b c d : Int) (w : World) : (Op.equalIn 10000 91 (.agg #[.int .i64 a, .int .i64 b]) (.agg #[.int .i64 c, .int .i64 d])).run Tryd.prog w = .ok (a == c && b == d) w := by
  have u3 := Tryd.underlying3
  have a3 := Tryd.isAgg3
  have z3 := Tryd.sizeOf3
  rw [show (10000 : Nat) = 9999 + 1 from rfl, Op.equalIn]
  simp only [Sem.run_bind, run_underlying Tryd.underlying91, Result.andThen_ok]
  simp only [Std.Legacy.Range.forIn_eq_forIn_range', Std.Legacy.Range.size, Nat.sub_zero, Nat.add_sub_cancel, Nat.div_one, List.range'_succ, List.range'_zero, List.forIn_cons, List.forIn_nil]
  go_simp
  by_cases h1 : a = c <;> by_cases h2 : b = d <;> simp [h1, h2]

theorem eq_none (p : Int × Int) : (!(p.1 == 0) || !(p.2 == 0)) = !decide (p = (0, 0)) := by
  obtain ⟨a, b⟩ := p
  by_cases h1 : a = 0 <;> by_cases h2 : b = 0 <;> simp [h1, h2]

set_option maxHeartbeats 1000000 in
theorem implIsLetter (n : Int) (w : World) :
    Calls Tryd.prog 66 #[.int .i64 n] w fun e w' => e = .returned (.bool (letterB n)) ∧ Below w.heap.size w w' := by
  have Hw : Hid (letterB n = (!((spanS letterL n).1 == 0) || !((spanS letterL n).2 == 0))) := ((eq_none _).trans (spanS_any letterL n letter_no)).symm
  go_enter Tryd.func66, Tryd.ntmps66
  go_wp2_with fail
  refine (implSpanOf n w.heap.size 2 2 letterL _ (Spans.at_first w letterL _ _ rfl) rfl (by decide)).mono ?_
  rintro e w1 ⟨rfl, hb1⟩
  have hbel : Below w.heap.size w w1 := ((Below.refl _ w).alloc (Nat.le_refl _) _).trans (hb1.mono (by simp))
  have he := fun w => eq_span (spanS letterL n).1 (spanS letterL n).2 0 0 w
  clear hb1
  go_wp2
  go_ret
  exact ⟨ret_bool Hw.out.symm, hbel⟩

set_option maxHeartbeats 1000000 in
theorem implIsFirst (n : Int) (w : World) :
    Calls Tryd.prog 48 #[.int .i64 n] w fun e w' => e = .returned (.bool (firstB n)) ∧ Below w.heap.size w w' := by
  have Hw : Hid (withinB firstL n = (!((spanS firstL n).1 == 0) || !((spanS firstL n).2 == 0))) := ((eq_none _).trans (spanS_any firstL n first_no)).symm
  go_enter Tryd.func48, Tryd.ntmps48
  go_wp2_with fail
  refine (implIsLetter n _).mono ?_
  rintro e w1 ⟨rfl, hb1⟩
  cases hl : letterB n
  · have Hl : Hid (firstB n = withinB firstL n) := by show firstB n = _; unfold firstB; rw [hl]; rfl
    clear hl
    go_wp2_with fail
    refine (implFirstSpan n _).mono ?_
    rintro e w2 ⟨rfl, hb2⟩
    have hbel : Below w.heap.size w w2 := hb1.trans (hb2.mono hb1.size)
    have he := fun w => eq_span (spanS firstL n).1 (spanS firstL n).2 0 0 w
    clear hb1 hb2
    go_wp2
    go_ret
    exact ⟨ret_bool (Hl.out.trans Hw.out).symm, hbel⟩
  · have Hl : Hid (firstB n = true) := by show firstB n = _; unfold firstB; rw [hl]; rfl
    clear hl
    go_wp2
    go_ret
    exact ⟨ret_bool Hl.out.symm, hb1⟩

set_option maxHeartbeats 1000000 in
theorem implIsNext (n : Int) (w : World) :
    Calls Tryd.prog 49 #[.int .i64 n] w fun e w' => e = .returned (.bool (nextB n)) ∧ Below w.heap.size w w' := by
  have Hw : Hid (withinB nextL n = (!((spanS nextL n).1 == 0) || !((spanS nextL n).2 == 0))) := ((eq_none _).trans (spanS_any nextL n next_no)).symm
  go_enter Tryd.func49, Tryd.ntmps49
  go_wp2_with fail
  refine (implIsFirst n _).mono ?_
  rintro e w1 ⟨rfl, hb1⟩
  cases hl : firstB n
  · have Hl : Hid (nextB n = withinB nextL n) := by show nextB n = _; unfold nextB; rw [hl]; rfl
    clear hl
    go_wp2_with fail
    refine (implNextSpan n _).mono ?_
    rintro e w2 ⟨rfl, hb2⟩
    have hbel : Below w.heap.size w w2 := hb1.trans (hb2.mono hb1.size)
    have he := fun w => eq_span (spanS nextL n).1 (spanS nextL n).2 0 0 w
    clear hb1 hb2
    go_wp2
    go_ret
    exact ⟨ret_bool (Hl.out.trans Hw.out).symm, hbel⟩
  · have Hl : Hid (nextB n = true) := by show nextB n = _; unfold nextB; rw [hl]; rfl
    clear hl
    go_wp2
    go_ret
    exact ⟨ret_bool Hl.out.symm, hb1⟩

end Go.Proofs.YtfbnhjogkjbcbaaDoor.Sg
