/- Contracts of the model's l8Last, InTable, l8Find, TableOpen. -/
import Derived.Test.YtbkdahlndlhgoaaPgSpec
namespace Go.Proofs.Ytbkdahlndlhgoaa.Sg
open Go.ChangeShapes Go.WideShapes Go.ChangeAt Go.RowKit

set_option maxRecDepth 20000 in
set_option maxHeartbeats 8000000 in
theorem specLast (p : PgB) (v : Value) (w : World) (hv : PgAt w v p) (ho : p.opn.length ≤ 1099511627776) :
    Calls Try.prog 64 #[v] w fun e w' => e = .returned (.string (lastN p)) ∧ Below w.heap.size w w' := by
  have Hv : Hid (PgAt w v p) := hv
  obtain ⟨ia, ic, oa, oc, fa, fc, rfl, _⟩ := hv
  obtain ⟨R, HR⟩ : ∃ R, Hid (lastN p = R) := ⟨_, rfl⟩
  rw [HR.out]
  have HC : Hid (∀ W, Below w.heap.size w W → ∀ z : Int, z = (p.opn.length : Int) - 1 → Calls Try.prog 81 #[.agg #[.slice ia p.its.length ic, .slice oa p.opn.length oc, .slice fa p.fms.length fc, .int .i64 p.hd, .int .i64 p.bd], .int .i64 z] W fun e w' => e = .returned (.string R) ∧ Below W.heap.size W w') := by
    intro W hW z hz
    by_cases h0 : p.opn.length = 0
    · have e1 : z = -1 := by omega
      have e2 : R = ⟨#[]⟩ := by rw [← HR.out]; unfold lastN; rw [if_pos h0]
      rw [e1, e2]
      exact specName_no p _ W (Hv.out.keep hW)
    · have e1 : z = ((p.opn.length - 1 : Nat) : Int) := by omega
      have e2 : R = nameAt p (p.opn.length - 1) := by rw [← HR.out]; unfold lastN; rw [if_neg h0]
      rw [e1, e2]
      exact specName_at p _ _ W (Hv.out.keep hW) (by omega)
  have g1 : IntKind.i64.wrap ((p.opn.length : Int) - 1) = (p.opn.length : Int) - 1 := IntWalk.i64_in _ (by omega)
  clear Hv HR ho
  generalize p.opn.length = m at *
  generalize p.its.length = n at *
  go_enter Try.func64, Try.ntmps64
  go_wp2_with fail
  refine (HC.out _ ((Below.refl _ _).alloc (Nat.le_refl _) _) _ rfl).mono ?_
  rintro e w1 ⟨rfl, b1⟩
  go_wp2_with fail
  go_ret
  exact ⟨rfl, ((Below.refl _ _).alloc (Nat.le_refl _) _).trans (b1.mono (by simp))⟩

set_option maxRecDepth 20000 in
set_option maxHeartbeats 8000000 in
theorem specInTable (p : PgB) (v : Value) (w : World) (hv : PgAt w v p) (ho : p.opn.length ≤ 1099511627776) :
    Calls Try.prog 36 #[v] w fun e w' => e = .returned (.bool (inTableB p)) ∧ Below w.heap.size w w' := by
  have HL : Hid (∀ W, Below w.heap.size w W → Calls Try.prog 64 #[v] W fun e w' => e = .returned (.string (lastN p)) ∧ Below W.heap.size W w') := fun W hW => specLast p v W (hv.keep hW) ho
  have HR : Hid (inTableB p = (isT (lastN p) [116, 97, 98, 108, 101] || (isT (lastN p) [116, 98, 111, 100, 121] || isT (lastN p) [116, 114]))) := rfl
  rw [HR.out]
  obtain ⟨ia, ic, oa, oc, fa, fc, rfl, _⟩ := hv
  generalize lastN p = s at *
  clear HR ho
  have e1 : (s.toList == [116, 97, 98, 108, 101]) = isT s [116, 97, 98, 108, 101] := rfl
  have e2 : (s.toList == [116, 98, 111, 100, 121]) = isT s [116, 98, 111, 100, 121] := rfl
  have e3 : (s.toList == [116, 114]) = isT s [116, 114] := rfl
  generalize isT s [116, 97, 98, 108, 101] = A at *
  generalize isT s [116, 98, 111, 100, 121] = B at *
  generalize isT s [116, 114] = C at *
  go_enter Try.func36, Try.ntmps36
  go_wp2_with fail
  refine (HL.out _ ((Below.refl _ _).alloc (Nat.le_refl _) _)).mono ?_
  rintro e w1 ⟨rfl, b1⟩
  have HB : Hid (Below w.heap.size w w1) := ((Below.refl _ _).alloc (Nat.le_refl _) _).trans (b1.mono (by simp))
  clear b1 HL
  cases A <;> cases B <;> cases C <;> (go_wp2_with fail; go_ret; exact ⟨rfl, HB.out⟩)

theorem ret_i {a b : Int} (h : a = b) : Ending.returned (.int .i64 a) = .returned (.int .i64 b) := by rw [h]
theorem txt_ne {s t : ByteArray} (h : s ≠ t) : (s.toList == t.toList) = false := by
  rw [beq_eq_false_iff_ne, ByteArray.toList_eq, ByteArray.toList_eq]
  intro e
  exact h (by cases s; cases t; simpa using e)

set_option maxRecDepth 20000 in
set_option maxHeartbeats 8000000 in
theorem specFind (p : PgB) (v : Value) (s : ByteArray) (w : World) (hv : PgAt w v p) (ho : p.opn.length ≤ 1099511627776) :
    Calls Try.prog 63 #[v, .string s] w fun e w' => e = .returned (.int .i64 (findF p s p.opn.length)) ∧ Below w.heap.size w w' := by
  have Hv : Hid (PgAt w v p) := hv
  obtain ⟨ia, ic, oa, oc, fa, fc, rfl, _⟩ := hv
  obtain ⟨R, HR⟩ : ∃ R, Hid (findF p s p.opn.length = R) := ⟨_, rfl⟩
  rw [HR.out]
  have g1 : IntKind.i64.wrap ((p.opn.length : Int) - 1) = (p.opn.length : Int) - 1 := IntWalk.i64_in _ (by omega)
  have HC : Hid (∀ W (k : Nat), Below w.heap.size w W → k < p.opn.length → Calls Try.prog 81 #[.agg #[.slice ia p.its.length ic, .slice oa p.opn.length oc, .slice fa p.fms.length fc, .int .i64 p.hd, .int .i64 p.bd], .int .i64 k] W fun e w' => e = .returned (.string (nameAt p k)) ∧ Below W.heap.size W w') := fun W k hW hk => specName_at p _ k W (Hv.out.keep hW) hk
  clear Hv
  have Hm : Hid (∀ n, findF p s (n + 1) = if nameAt p n = s then (n : Int) else findF p s n) := fun n => rfl
  have H0 : Hid (findF p s 0 = -1) := rfl
  generalize p.opn.length = m at *
  generalize p.its.length = n at *
  go_enter Try.func63, Try.ntmps63
  go_wp2_with fail
  go_loopw [5] (fun kv wr => ∃ (k : Nat) (z : Int), k ≤ m ∧ kv = .int .i64 z ∧ Hid (z = (k : Int) - 1) ∧ Hid (findF p s k = R) ∧ Hid (Below w.heap.size w wr) ∧ Hid (w.heap.size < wr.heap.size) ∧ wr.cell? ⟨w.heap.size, 0, none⟩ = some (.slice ia n ic) ∧ wr.cell? ⟨w.heap.size, 1, none⟩ = some (.slice oa m oc) ∧ wr.cell? ⟨w.heap.size, 2, none⟩ = some (.slice fa p.fms.length fc) ∧ wr.cell? ⟨w.heap.size, 3, none⟩ = some (.int .i64 p.hd) ∧ wr.cell? ⟨w.heap.size, 4, none⟩ = some (.int .i64 p.bd)) (fun kv _ => (intOf kv + 1).toNat)
  case atStart =>
    refine ⟨m, _, Nat.le_refl _, rfl, rfl, HR, (Below.refl _ _).alloc (Nat.le_refl _) _, ?_, ?_, ?_, ?_, ?_, ?_⟩
    · show _ < _
      simp
    all_goals (rw [World.cell?_alloc_new]; rfl)
  case round =>
    clear HR
    obtain ⟨k, z, hk, rfl, hz, HR, HB, HL, q0, q1, q2, q3, q4⟩ := hrel
    match k, hk, hz, HR with
    | 0, hk, hz, HR =>
      obtain rfl : z = -1 := by have := hz.out; omega
      have Hr : Hid (R = -1) := HR.out.symm.trans H0.out
      clear HR hz HC
      go_wp2_with fail
      go_ret
      exact ⟨ret_i Hr.out.symm, HB.out⟩
    | k + 1, hk, hz, HR =>
      obtain rfl : z = (k : Int) := by have := hz.out; omega
      have C := HC.out wr k HB.out (by omega)
      have Hs := (Hm.out k).symm.trans HR.out
      have g2 : (0 : Int) ≤ (k : Int) := by omega
      have g3 : IntKind.i64.wrap ((k : Int) - 1) = (k : Int) - 1 := IntWalk.i64_in _ (by omega)
      clear HR hz
      by_cases hx : nameAt p k = s
      · rw [if_pos hx] at Hs
        have Hr : Hid (R = (k : Int)) := Hs.symm
        have g4 : (s.toList != s.toList) = false := by simp
        rw [hx] at C
        clear Hs hx
        go_wp2_with fail
        refine C.mono ?_
        rintro e w1 ⟨rfl, b1⟩
        clear C
        have HB1 : Hid (Below w.heap.size w w1) := HB.out.trans (b1.mono HB.out.size)
        clear b1
        go_wp2_with fail
        go_ret
        exact ⟨ret_i Hr.out.symm, HB1.out⟩
      · rw [if_neg hx] at Hs
        have Hr : Hid (findF p s k = R) := Hs
        have g4 := txt_ne hx
        clear Hs hx
        generalize nameAt p k = x at *
        have g5 : (x.toList != s.toList) = true := by simp [bne, g4]
        go_wp2_with fail
        refine C.mono ?_
        rintro e w1 ⟨rfl, b1⟩
        clear C
        have HB1 : Hid (Below w.heap.size w w1) := HB.out.trans (b1.mono HB.out.size)
        have HL1 : Hid (w.heap.size < w1.heap.size) := Nat.lt_of_lt_of_le HL.out b1.size
        have r0 := (b1.cell HL.out).trans q0
        have r1 := (b1.cell HL.out).trans q1
        have r2 := (b1.cell HL.out).trans q2
        have r3 := (b1.cell HL.out).trans q3
        have r4 := (b1.cell HL.out).trans q4
        clear b1 q0 q1 q2 q3 q4
        go_wp2_with fail
        go_roundw
        case rel => exact ⟨k, _, by omega, rfl, rfl, Hr, HB1, HL1, r0, r1, r2, r3, r4⟩
        case measure => simp [intOf]

set_option maxHeartbeats 8000000 in
theorem specTableOpen (p : PgB) (v : Value) (w : World) (hv : PgAt w v p) (ho : p.opn.length ≤ 1099511627776) :
    Calls Try.prog 35 #[v] w fun e w' => e = .returned (.int .i64 (findF p tableB p.opn.length)) ∧ Below w.heap.size w w' := by
  have HC : Hid (∀ W, Below w.heap.size w W → Calls Try.prog 63 #[v, .string ⟨#[116, 97, 98, 108, 101]⟩] W fun e w' => e = .returned (.int .i64 (findF p tableB p.opn.length)) ∧ Below W.heap.size W w') := fun W hW => specFind p v tableB W (hv.keep hW) ho
  obtain ⟨ia, ic, oa, oc, fa, fc, rfl, _⟩ := hv
  generalize findF p tableB p.opn.length = R at *
  clear ho
  go_enter Try.func35, Try.ntmps35
  go_wp2_with fail
  refine (HC.out _ ((Below.refl _ _).alloc (Nat.le_refl _) _)).mono ?_
  rintro e w1 ⟨rfl, b1⟩
  go_wp2_with fail
  go_ret
  exact ⟨rfl, ((Below.refl _ _).alloc (Nat.le_refl _) _).trans (b1.mono (by simp))⟩

end Go.Proofs.Ytbkdahlndlhgoaa.Sg
