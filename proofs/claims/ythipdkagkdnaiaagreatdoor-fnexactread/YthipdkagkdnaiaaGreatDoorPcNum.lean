/- The program's strictNumber and refSign. -/
import Derived.Test.YthipdkagkdnaiaaGreatDoorMRD06
import Derived.Test.YthipdkagkdnaiaaGreatDoorPcRef
import Derived.Test.YthipdkagkdnaiaaGreatDoorRfImplA
import Derived.Test.YthipdkagkdnaiaaGreatDoorMRD03
import Derived.Test.YthipdkagkdnaiaaGreatDoorShelf
namespace Go.Proofs.YthipdkagkdnaiaaGreatDoor.Sg
open Go.ChangeShapes Go.WideShapes Go.ChangeAt Go.RowKit

/-- A sign and no error, or an error. -/
def pnumV (a : Addr) : Option Int → Value
  | some z => .tuple #[.int .i64 z, .nilIface]
  | none => .tuple #[.int .i64 0, errV a]
theorem ret_pnum {a : Addr} {o : Option Int} {z : Int} (h : o = some z) : Ending.returned (.tuple #[.int .i64 z, .nilIface]) = .returned (pnumV a o) := by rw [h]; rfl
theorem ret_pnum0 {a : Addr} {o : Option Int} (h : o = none) : Ending.returned (.tuple #[.int .i64 0, errV a]) = .returned (pnumV a o) := by rw [h]; rfl
theorem zero_prefix (d : List UInt8) : Lib.hasPrefix d [48] = decide (d.head? = some 48) := by
  unfold Lib.hasPrefix
  cases d with
  | nil => rfl
  | cons b d =>
    show ((48 : UInt8) == b && true) = _
    rw [Bool.and_true]
    by_cases h : b = 48
    · subst h
      rfl
    · have h2 : ((48 : UInt8) == b) = false := beq_false_of_ne (Ne.symm h)
      rw [h2]
      simp [h]

set_option maxHeartbeats 2000000 in
theorem implStrictNumber (s : ByteArray) (a : Addr) (w : World) (hs : s.size ≤ 1073741824) (hE : ErrA a w) :
    Calls Tryz.prog 175 #[.string s] w fun e w' => e = .returned (pnumV a (numL s.data.toList)) ∧ Below w.heap.size w w' := by
  have HN := fun W => implNumberAt s 10 W (.inl rfl) (by omega)
  have HP : ∀ W, Calls Tryz.prog 55 #[.string s, .string ⟨#[48]⟩] W fun e w' => e = .returned (.bool (Lib.hasPrefix s.data.toList [48])) ∧ w' = W := fun W => Tryz.strings_HasPrefix s ⟨#[48]⟩ W
  rw [zero_prefix] at HP
  have hlen : s.data.toList.length = s.size := Array.length_toList
  have hle := numG_le 10 0 0 s.data.toList
  have HL : Hid (numL s.data.toList = if (numG 10 0 0 s.data.toList).2 = s.data.toList.length ∧ s.data.toList.length ≤ 7 ∧ s.data.toList.head? ≠ some 48 ∧ textB ((numG 10 0 0 s.data.toList).1 : Int) = true then some ((numG 10 0 0 s.data.toList).1 : Int) else none) := rfl
  rw [hlen] at HL hle
  have HI := implIsText ((numG 10 0 0 s.data.toList).1 : Int)
  have hv : w.cell? ⟨0, 0, none⟩ = some (errV a) := hE
  clear hE hlen
  generalize (numG 10 0 0 s.data.toList).1 = n at *
  generalize (numG 10 0 0 s.data.toList).2 = m at *
  generalize s.data.toList.head? = hd at *
  generalize numL s.data.toList = R at *
  go_enter Tryz.func175, Tryz.ntmps175
  go_wp2_with fail
  refine (HN _).mono ?_
  rintro e w1 ⟨rfl, rfl⟩
  clear HN
  by_cases h1 : m < s.size
  · have Hn : Hid (R = none) := by show _ = _; rw [HL.out, if_neg (by rintro ⟨h, _⟩; omega)]
    have g1 : (m : Int) < (s.size : Int) := by omega
    clear HL HP HI h1
    go_wp2_with fail
    go_quiet (fail)
    have bf := drew_kd (Below.refl w1.heap.size w1) nq
    go_wp2_with fail
    go_ret2
    exact ⟨ret_pnum0 Hn.out, bf⟩
  have g1 : decide ((m : Int) < (s.size : Int)) = false := decide_eq_false (by omega)
  have g1' : ¬ m < s.size := h1
  by_cases h2 : 7 < m
  · have Hn : Hid (R = none) := by show _ = _; rw [HL.out, if_neg (by rintro ⟨h, h3, _⟩; omega)]
    have g2 : (7 : Int) < (m : Int) := by omega
    clear HL HP HI h1
    go_wp2_with fail
    go_quiet (fail)
    have bf := drew_kd (Below.refl w1.heap.size w1) nq
    go_wp2_with fail
    go_ret2
    exact ⟨ret_pnum0 Hn.out, bf⟩
  have g2 : decide ((7 : Int) < (m : Int)) = false := decide_eq_false (by omega)
  have g2' : ¬ 7 < m := h2
  by_cases h3 : hd = some 48
  · have Hn : Hid (R = none) := by show _ = _; rw [HL.out, if_neg (fun h => h.2.2.1 h3)]
    rw [decide_eq_true h3] at HP
    clear HL HI h1 h2 h3
    go_wp2_with fail
    refine (HP _).mono ?_
    rintro e w2 ⟨rfl, rfl⟩
    clear HP
    go_wp2_with fail
    go_quiet (fail)
    have bf := drew_kd (Below.refl w2.heap.size w2) nq
    go_wp2_with fail
    go_ret2
    exact ⟨ret_pnum0 Hn.out, bf⟩
  rw [decide_eq_false h3] at HP
  cases h4 : textB (n : Int)
  · have Hn : Hid (R = none) := by show _ = _; rw [HL.out, if_neg (fun h => by rw [h4] at h; cases h.2.2.2)]
    rw [h4] at HI
    clear HL h1 h2 h3 h4
    go_wp2_with fail
    refine (HP _).mono ?_
    rintro e w2 ⟨rfl, rfl⟩
    clear HP
    go_wp2_with fail
    refine (HI _).mono ?_
    rintro e w3 ⟨rfl, rfl⟩
    clear HI
    go_wp2_with fail
    go_quiet (fail)
    have bf := drew_kd (Below.refl w3.heap.size w3) nq
    go_wp2_with fail
    go_ret2
    exact ⟨ret_pnum0 Hn.out, bf⟩
  · have Hn : Hid (R = some (n : Int)) := by show _ = _; rw [HL.out, if_pos ⟨by omega, by omega, h3, h4⟩]
    rw [h4] at HI
    clear HL h1 h2 h3 h4
    go_wp2_with fail
    refine (HP _).mono ?_
    rintro e w2 ⟨rfl, rfl⟩
    clear HP
    go_wp2_with fail
    refine (HI _).mono ?_
    rintro e w3 ⟨rfl, rfl⟩
    clear HI
    go_wp2_with fail
    go_ret2
    exact ⟨ret_pnum Hn.out, Below.refl _ _⟩

theorem ne_of_beq_false {x y : List UInt8} (h : (x == y) = false) : ¬ x = y := fun e => by rw [e] at h; simp at h
theorem hash_prefix (x : List UInt8) : Lib.hasPrefix x [35] = decide (x.head? = some 35) := by
  unfold Lib.hasPrefix
  cases x with
  | nil => rfl
  | cons b d =>
    show ((35 : UInt8) == b && true) = _
    rw [Bool.and_true]
    by_cases h : b = 35
    · subst h
      rfl
    · have h2 : ((35 : UInt8) == b) = false := beq_false_of_ne (Ne.symm h)
      rw [h2]
      simp [h]

set_option maxHeartbeats 4000000 in
theorem implRefSign (x : List UInt8) (a : Addr) (w : World) (hs : x.length ≤ 1073741824) (hE : ErrA a w) :
    Calls Tryz.prog 157 #[.string (strB x)] w fun e w' => e = .returned (pnumV a (refSignL x)) ∧ Below w.heap.size w w' := by
  have hv : w.cell? ⟨0, 0, none⟩ = some (errV a) := hE
  have HC : ∀ W, Calls Tryz.prog 103 #[.string (strB x), .string ⟨#[35]⟩] W fun e w' => e = .returned (.tuple #[.string (strB (Lib.trimPrefix x [35])), .bool (Lib.hasPrefix x [35])]) ∧ w' = W := fun W => Tryz.strings_CutPrefix (strB x) ⟨#[35]⟩ W
  have ht : (strB x).toList = x := by rw [ByteArray.toList_eq]; simp [strB]
  generalize hnm : strB x = nm at *
  have HE : Hid (ErrA a w) := hE
  clear hE
  go_enter Tryz.func157, Tryz.ntmps157
  go_wp2_with fail
  · rename_i h
    have hx := eq_of_beq h
    go_ret2
    exact ⟨ret_pnum (by rw [hx]; decide), Below.refl _ _⟩
  · rename_i h
    have hx := eq_of_beq h
    go_ret2
    exact ⟨ret_pnum (by rw [hx]; decide), Below.refl _ _⟩
  · rename_i h
    have hx := eq_of_beq h
    go_ret2
    exact ⟨ret_pnum (by rw [hx]; decide), Below.refl _ _⟩
  · rename_i h
    have hx := eq_of_beq h
    go_ret2
    exact ⟨ret_pnum (by rw [hx]; decide), Below.refl _ _⟩
  · rename_i h
    have hx := eq_of_beq h
    go_ret2
    exact ⟨ret_pnum (by rw [hx]; decide), Below.refl _ _⟩
  · have h1 : (x == [97, 109, 112]) = false := by assumption
    have h2 : (x == [108, 116]) = false := by assumption
    have h3 : (x == [103, 116]) = false := by assumption
    have h4 : (x == [113, 117, 111, 116]) = false := by assumption
    have h5 : (x == [97, 112, 111, 115]) = false := by assumption
    have hq : refSignL x = if x.head? = some 35 then numL x.tail else none := by
      unfold refSignL
      rw [if_neg (ne_of_beq_false h1), if_neg (ne_of_beq_false h2), if_neg (ne_of_beq_false h3), if_neg (ne_of_beq_false h4), if_neg (ne_of_beq_false h5)]
    have Hq : Hid (refSignL x = if x.head? = some 35 then numL x.tail else none) := hq
    rw [hash_prefix] at HC
    clear h1 h2 h3 h4 h5 hq ht
    by_cases hh : x.head? = some 35
    · have Hn : Hid (refSignL x = numL x.tail) := by show _ = _; rw [Hq.out, if_pos hh]
      have htr : Lib.trimPrefix x [35] = x.tail := by
        unfold Lib.trimPrefix
        rw [hash_prefix, decide_eq_true hh, if_pos rfl, List.drop_one.symm]
        rfl
      rw [htr, decide_eq_true hh] at HC
      have HS := fun W => implStrictNumber (strB x.tail) a W (by rw [strB_size, List.length_tail]; omega)
      rw [show (strB x.tail).data.toList = x.tail by simp [strB]] at HS
      clear hh htr Hq
      generalize strB x.tail = tl at *
      generalize numL x.tail = R at *
      refine (HC _).mono ?_
      rintro e w1 ⟨rfl, rfl⟩
      clear HC
      go_wp2_with fail
      refine (HS _ HE.out).mono ?_
      rintro e w2 ⟨rfl, b2⟩
      cases R with
      | none =>
        rw [show pnumV a none = .tuple #[.int .i64 0, errV a] from rfl]
        go_wp2_with fail
        go_ret2
        exact ⟨ret_pnum0 Hn.out, b2⟩
      | some z =>
        rw [show pnumV a (some z) = .tuple #[.int .i64 z, .nilIface] from rfl]
        go_wp2_with fail
        go_ret2
        exact ⟨ret_pnum Hn.out, b2⟩
    · have Hn : Hid (refSignL x = none) := by show _ = _; rw [Hq.out, if_neg hh]
      rw [decide_eq_false hh] at HC
      clear hh Hq
      generalize strB (Lib.trimPrefix x [35]) = tl at *
      refine (HC _).mono ?_
      rintro e w1 ⟨rfl, rfl⟩
      clear HC
      go_wp2_with fail
      go_quiet (fail)
      have bf := drew_kd (Below.refl w1.heap.size w1) nq
      go_wp2_with fail
      go_ret2
      exact ⟨ret_pnum0 Hn.out, bf⟩

end Go.Proofs.YthipdkagkdnaiaaGreatDoor.Sg
