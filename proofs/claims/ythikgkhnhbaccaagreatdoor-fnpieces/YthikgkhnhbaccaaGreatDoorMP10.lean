/- What stands in the place of a byte that is escaped: a text; empty where the byte itself stands. No program in it. Contracts of the model's Escape and SpaceName. Contracts of the program's strictRef, Escape and SpaceName. -/
import Derived.Test.YthikgkhnhbaccaaGreatDoorMP26
import Derived.Test.YthikgkhnhbaccaaGreatDoorSpSwap
import Derived.Test.YthikgkhnhbaccaaGreatDoorMP11
namespace Go.Proofs.YthikgkhnhbaccaaGreatDoor.Sg

def refB (v : Bool) (b : UInt8) : List UInt8 :=
  match findL b (escW v) with
  | none => []
  | some k => (escT v).getD k []
theorem refB_of (v : Bool) (b : UInt8) : swap1 (escW v) (escT v) b = if refB v b = [] then [b] else refB v b := by
  unfold swap1 refB
  cases h : findL b (escW v) with
  | none => simp
  | some k =>
    have : ∀ v b k, findL b (escW v) = some k → (escT v).getD k [] ≠ [] := by
      intro v b k h
      cases v <;> (simp only [escW, findL] at h; revert h; (repeat' split) <;> (intro h; simp at h <;> (subst h; decide)))
    simp only
    rw [if_neg (this v b k h)]
theorem refB_len (v : Bool) (b : UInt8) : (refB v b).length ≤ 6 := by
  have h := refB_of v b
  have h1 := esc1_length v b
  by_cases e : refB v b = []
  · rw [e]
    simp
  · rw [if_neg e] at h
    rw [← h]
    exact h1
theorem refB_else (v : Bool) (b : UInt8) (h1 : b ≠ 38) (h2 : b ≠ 60) (h3 : b ≠ 62) (h4 : b ≠ 13) (h5 : v = true → b ≠ 34 ∧ b ≠ 9 ∧ b ≠ 10) : refB v b = [] := by
  unfold refB
  cases v with
  | false => simp [escW, findL, Ne.symm h1, Ne.symm h2, Ne.symm h3, Ne.symm h4]
  | true =>
    obtain ⟨h5, h6, h7⟩ := h5 rfl
    simp [escW, findL, Ne.symm h1, Ne.symm h2, Ne.symm h3, Ne.symm h4, Ne.symm h5, Ne.symm h6, Ne.symm h7]
theorem escL_step (v : Bool) (s : ByteArray) (k : Nat) (h : k < s.size) : escL v (tailL s k) = (if refB v (s[k]'h) = [] then [s[k]'h] else refB v (s[k]'h)) ++ escL v (tailL s (k + 1)) := by
  unfold escL
  rw [swapL_step, refB_of]
theorem escL_end (v : Bool) (s : ByteArray) (k : Nat) (h : ¬ k < s.size) : escL v (tailL s k) = [] := by
  unfold escL tailL
  rw [List.drop_eq_nil_of_le (by rw [Array.length_toList]; exact Nat.le_of_not_lt h)]
  rfl

end Go.Proofs.YthikgkhnhbaccaaGreatDoor.Sg

namespace Go.Proofs.YthikgkhnhbaccaaGreatDoor.Sg
open Go.ChangeShapes Go.WideShapes Go.ChangeAt Go.RowKit

set_option maxHeartbeats 2000000 in
theorem specEscape (s : ByteArray) (v : Bool) (w : World) (hs : s.size ≤ 1099511627776) :
    Calls Tryz.prog 8 #[.string s, .bool v] w fun e w' => e = .returned (.string (escS s v)) ∧ Below w.heap.size w w' := by
  cases v
  · have HT := Texts.laid w (escT false) #[.string ⟨#[38, 97, 109, 112, 59]⟩, .string ⟨#[38, 108, 116, 59]⟩, .string ⟨#[38, 103, 116, 59]⟩, .string ⟨#[38, 35, 49, 51, 59]⟩] 9 rfl
    have C := specSwap s ⟨#[38, 60, 62, 13]⟩ (escT false) w.heap.size 4 4 _ hs (by decide) HT rfl rfl (by decide)
    go_enter Tryz.func8, Tryz.ntmps8
    go_wp2_with fail
    refine C.mono ?_
    rintro e w1 ⟨rfl, b1⟩
    go_wp2_with fail
    go_ret
    exact ⟨rfl, ((Below.refl _ _).alloc (Nat.le_refl _) _).trans (b1.mono (by simp))⟩
  · have HT := Texts.laid w (escT true) #[.string ⟨#[38, 97, 109, 112, 59]⟩, .string ⟨#[38, 108, 116, 59]⟩, .string ⟨#[38, 103, 116, 59]⟩, .string ⟨#[38, 35, 49, 51, 59]⟩, .string ⟨#[38, 113, 117, 111, 116, 59]⟩, .string ⟨#[38, 35, 57, 59]⟩, .string ⟨#[38, 35, 49, 48, 59]⟩] 9 rfl
    have C := specSwap s ⟨#[38, 60, 62, 13, 34, 9, 10]⟩ (escT true) w.heap.size 7 7 _ hs (by decide) HT rfl rfl (by decide)
    go_enter Tryz.func8, Tryz.ntmps8
    go_wp2_with fail
    refine C.mono ?_
    rintro e w1 ⟨rfl, b1⟩
    go_wp2_with fail
    go_ret
    exact ⟨rfl, ((Below.refl _ _).alloc (Nat.le_refl _) _).trans (b1.mono (by simp))⟩

set_option maxHeartbeats 1000000 in
theorem specSpaceName (n : Int) (w : World) :
    Calls Tryz.prog 10 #[.int .i64 n] w fun e w' => e = .returned (.string (spaceS n)) ∧ w' = w := by
  by_cases h0 : n = 0
  · subst h0
    go_enter Tryz.func10, Tryz.ntmps10
    go_wp2_with fail
    go_ret
    exact ⟨rfl, rfl⟩
  by_cases h1 : n = 1
  · subst h1
    go_enter Tryz.func10, Tryz.ntmps10
    go_wp2_with fail
    go_ret
    exact ⟨rfl, rfl⟩
  by_cases h2 : n = 2
  · subst h2
    go_enter Tryz.func10, Tryz.ntmps10
    go_wp2_with fail
    go_ret
    exact ⟨rfl, rfl⟩
  have g0 : (n == 0) = false := by rw [beq_eq_false_iff_ne]; exact h0
  have g1 : (n == 1) = false := by rw [beq_eq_false_iff_ne]; exact h1
  have g2 : (n == 2) = false := by rw [beq_eq_false_iff_ne]; exact h2
  have Hx : Hid (spaceS n = ⟨#[]⟩) := by
    show _ = _
    unfold spaceS
    rw [if_neg h0, if_neg h1, if_neg h2]
  clear h0 h1 h2
  go_enter Tryz.func10, Tryz.ntmps10
  go_wp2_with fail
  go_ret
  rw [Hx.out]
  exact ⟨rfl, rfl⟩

end Go.Proofs.YthikgkhnhbaccaaGreatDoor.Sg

namespace Go.Proofs.YthikgkhnhbaccaaGreatDoor.Sg
open Go.ChangeShapes Go.WideShapes Go.ChangeAt Go.RowKit

theorem implSpaceName (n : Int) (w : World) :
    Calls Tryz.prog 9 #[.int .i64 n] w fun e w' => e = .returned (.string (spaceS n)) ∧ w' = w := by
  by_cases h0 : n = 0
  · subst h0
    go_enter Tryz.func9, Tryz.ntmps9
    go_wp2_with fail
    go_ret
    exact ⟨rfl, rfl⟩
  by_cases h1 : n = 1
  · subst h1
    go_enter Tryz.func9, Tryz.ntmps9
    go_wp2_with fail
    go_ret
    exact ⟨rfl, rfl⟩
  by_cases h2 : n = 2
  · subst h2
    go_enter Tryz.func9, Tryz.ntmps9
    go_wp2_with fail
    go_ret
    exact ⟨rfl, rfl⟩
  have e0 : (n == 0) = false := beq_false_of_ne h0
  have e1 : (n == 1) = false := beq_false_of_ne h1
  have e2 : (n == 2) = false := beq_false_of_ne h2
  have es : spaceS n = ⟨#[]⟩ := by
    unfold spaceS
    rw [if_neg h0, if_neg h1, if_neg h2]
  rw [es]
  go_enter Tryz.func9, Tryz.ntmps9
  go_wp2_with fail
  go_ret
  exact ⟨rfl, rfl⟩

theorem implStrictRef (b : UInt8) (v : Bool) (w : World) :
    Calls Tryz.prog 31 #[.int .u8 (b.toNat : Int), .bool v] w fun e w' => e = .returned (.string (strB (refB v b))) ∧ w' = w := by
  have hne : ∀ c : UInt8, b ≠ c → (((b.toNat : Int)) == (c.toNat : Int)) = false := by
    intro c h
    rw [beq_eq_false_iff_ne]
    intro e
    exact h (UInt8.toNat_inj.1 (by omega))
  by_cases h1 : b = 38
  · subst h1
    cases v <;> (go_enter Tryz.func31, Tryz.ntmps31; go_wp2_with fail; go_ret; exact ⟨rfl, rfl⟩)
  by_cases h2 : b = 60
  · subst h2
    cases v <;> (go_enter Tryz.func31, Tryz.ntmps31; go_wp2_with fail; go_ret; exact ⟨rfl, rfl⟩)
  by_cases h3 : b = 62
  · subst h3
    cases v <;> (go_enter Tryz.func31, Tryz.ntmps31; go_wp2_with fail; go_ret; exact ⟨rfl, rfl⟩)
  by_cases h4 : b = 13
  · subst h4
    cases v <;> (go_enter Tryz.func31, Tryz.ntmps31; go_wp2_with fail; go_ret; exact ⟨rfl, rfl⟩)
  by_cases h5 : b = 34
  · subst h5
    cases v <;> (go_enter Tryz.func31, Tryz.ntmps31; go_wp2_with fail; go_ret; exact ⟨rfl, rfl⟩)
  by_cases h6 : b = 9
  · subst h6
    cases v <;> (go_enter Tryz.func31, Tryz.ntmps31; go_wp2_with fail; go_ret; exact ⟨rfl, rfl⟩)
  by_cases h7 : b = 10
  · subst h7
    cases v <;> (go_enter Tryz.func31, Tryz.ntmps31; go_wp2_with fail; go_ret; exact ⟨rfl, rfl⟩)
  rw [refB_else v b h1 h2 h3 h4 fun _ => ⟨h5, h6, h7⟩]
  have e1 := hne 38 h1
  have e2 := hne 60 h2
  have e3 := hne 62 h3
  have e4 := hne 13 h4
  have e5 := hne 34 h5
  have e6 := hne 9 h6
  have e7 := hne 10 h7
  clear hne h1 h2 h3 h4 h5 h6 h7
  have e1 : ((b.toNat : Int) == 38) = false := e1
  have e2 : ((b.toNat : Int) == 60) = false := e2
  have e3 : ((b.toNat : Int) == 62) = false := e3
  have e4 : ((b.toNat : Int) == 13) = false := e4
  have e5 : ((b.toNat : Int) == 34) = false := e5
  have e6 : ((b.toNat : Int) == 9) = false := e6
  have e7 : ((b.toNat : Int) == 10) = false := e7
  generalize (b.toNat : Int) = n at *
  cases v <;> (go_enter Tryz.func31, Tryz.ntmps31; go_wp2_with fail; go_ret; exact ⟨rfl, rfl⟩)

set_option maxHeartbeats 2000000 in
theorem implEscape (s : ByteArray) (v : Bool) (w : World) (hs : s.size ≤ 1073741824) :
    Calls Tryz.prog 6 #[.string s, .bool v] w fun e w' => e = .returned (.string (escS s v)) ∧ Below w.heap.size w w' := by
  go_enter Tryz.func6, Tryz.ntmps6
  go_wp2
  go_loopw [10] (fun i wr => ∃ (k : Nat) (acc : List UInt8), k ≤ s.size ∧ acc.length ≤ 6 * k ∧ i = .int .i64 k ∧ Lib.IsBuilderF 48 5 w.heap.size w.heap.size (Lib.byteCells acc) wr ∧ Below w.heap.size w wr ∧ Hid (acc ++ escL v (tailL s k) = escL v s.data.toList)) (fun i _ => s.size - (intOf i).toNat)
  case atStart => exact ⟨0, [], Nat.zero_le _, Nat.zero_le _, rfl, Lib.IsBuilderF.of (Lib.fresh_isBuilder 48 5 w), (Below.refl _ _).alloc (Nat.le_refl _) _, rfl⟩
  case round =>
    obtain ⟨k, acc, hk, hal, rfl, hI, hbel, Hacc⟩ := hrel
    by_cases hlt : k < s.size
    · have hst := escL_step v s k hlt
      have hrl := refB_len v (s[k]'hlt)
      by_cases hr : refB v (s[k]'hlt) = []
      · have Hst : Hid ((acc ++ [s[k]'hlt]) ++ escL v (tailL s (k + 1)) = escL v s.data.toList) := by
          show _ = _
          rw [← Hacc.out, hst, if_pos hr]
          simp
        have Hc := implStrictRef (s[k]'hlt) v wr
        rw [hr, show strB [] = (⟨#[]⟩ : ByteArray) from rfl] at Hc
        clear hst Hacc hr hrl
        go_wp2_with fail
        refine Hc.mono ?_
        rintro e w1 ⟨rfl, rfl⟩
        clear Hc
        go_wp2_with fail
        refine (writeByte w.heap.size w.heap.size (Lib.byteCells acc) _ _ hI ?_ hbel.size).mono ?_
        · rw [Lib.byteCells_length]
          omega
        rintro e w2 ⟨rfl, hI2, hb2⟩
        have hI3 : Lib.IsBuilderF 48 5 w.heap.size w.heap.size (Lib.byteCells (acc ++ [s[k]'hlt])) w2 := by
          rw [byteCells_more]
          exact .inr hI2
        have hbel2 := hbel.trans hb2
        clear hI hI2 hb2 hbel
        go_wp2
        go_roundw
        case rel => exact ⟨k + 1, acc ++ [s[k]'hlt], by omega, by simp; omega, by go_num, hI3, hbel2, Hst⟩
        case measure => simp [intOf]; omega
      · have Hst : Hid ((acc ++ refB v (s[k]'hlt)) ++ escL v (tailL s (k + 1)) = escL v s.data.toList) := by
          show _ = _
          rw [← Hacc.out, hst, if_neg hr, List.append_assoc]
        have Hc := implStrictRef (s[k]'hlt) v wr
        have hpl : (strB (refB v (s[k]'hlt))).size = (refB v (s[k]'hlt)).length := strB_size _
        have e2 : Lib.byteCells (acc ++ refB v (s[k]'hlt)) = Lib.byteCells acc ++ Lib.strCells (strB (refB v (s[k]'hlt))) := by simp [Lib.byteCells, Lib.strCells, strB]
        have g0 : ((strB (refB v (s[k]'hlt))).toList == []) = false := by
          rw [beq_eq_false_iff_ne]
          intro h
          apply hr
          have h2 : (strB (refB v (s[k]'hlt))).data.toList = [] := by rw [← ByteArray.toList_eq]; exact h
          simpa [strB] using h2
        have E2 : Hid (Lib.byteCells (acc ++ refB v (s[k]'hlt)) = Lib.byteCells acc ++ Lib.strCells (strB (refB v (s[k]'hlt)))) := e2
        generalize hR : refB v (s[k]'hlt) = R at *
        have HR2 : Hid (refB v (s[k]'hlt) = R) := hR
        clear hst Hacc hr e2 hR
        generalize strB R = RS at *
        go_wp2_with fail
        refine Hc.mono ?_
        rintro e w1 ⟨rfl, rfl⟩
        clear Hc
        go_wp2_with fail
        refine (writeString w.heap.size w.heap.size (Lib.byteCells acc) RS _ hI ?_ hbel.size).mono ?_
        · rw [Lib.byteCells_length]
          omega
        rintro e w2 ⟨rfl, hI2, hb2, _⟩
        have hI3 : Lib.IsBuilderF 48 5 w.heap.size w.heap.size (Lib.byteCells (acc ++ R)) w2 := by
          rw [E2.out]
          exact .inr hI2
        have hbel2 := hbel.trans hb2
        clear hI hI2 hb2 hbel
        go_wp2
        go_roundw
        case rel => exact ⟨k + 1, acc ++ R, by omega, by rw [List.length_append]; omega, by go_num, hI3, hbel2, Hst⟩
        case measure => simp [intOf]; omega
    · have he : acc = escL v s.data.toList := by
        have h := Hacc.out
        rw [escL_end v s k hlt, List.append_nil] at h
        exact h
      have Hbk : Hid (strB acc = escS s v) := congrArg strB he
      have hdl : decide ((k : Int) < (s.size : Int)) = false := decide_eq_false (by omega)
      clear he Hacc
      go_wp2_with fail
      refine (Tryz.Builder_String_any_k w.heap.size w.heap.size acc _ hI hbel.size).mono ?_
      rintro e w2 ⟨rfl, _, hb2, _⟩
      have b2 := hbel.trans hb2
      clear hI hbel hb2
      go_wp2
      go_ret
      exact ⟨congrArg (fun x => Ending.returned (.string x)) Hbk.out, b2⟩

end Go.Proofs.YthikgkhnhbaccaaGreatDoor.Sg
