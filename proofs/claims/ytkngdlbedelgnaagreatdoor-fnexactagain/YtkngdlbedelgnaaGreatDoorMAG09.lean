/- The program's strictNumber and refSign. The library's own variable MaxLen. Contract of the model's l18Number. Below, one behind the other. Contracts of the model's l5Stands and l5Search. Contract of the model's XmlRef. What the model's XmlRef hands back, at any place; its contract. The program's refAt and XmlRef. The program's textSignAt. -/
import Derived.Test.YtkngdlbedelgnaaGreatDoorMAG06
import Derived.Test.YtkngdlbedelgnaaGreatDoorPcRef
import Derived.Test.YtkngdlbedelgnaaGreatDoorRfImplA
import Derived.Test.YtkngdlbedelgnaaGreatDoorMAG03
import Derived.Test.YtkngdlbedelgnaaGreatDoorShelf
import Derived.Below
import Derived.Shelf.Vars
import Derived.Test.YtkngdlbedelgnaaGreatDoorMAG05
import Derived.Laws.DeepStrings4
import Derived.Test.YtkngdlbedelgnaaGreatDoorMAG01
import Derived.BigQuiet
import Derived.Deep.QuietTactic
import Derived.Test.YtkngdlbedelgnaaGreatDoorPcSign
namespace Go.Proofs.YtkngdlbedelgnaaGreatDoor.Sg
open Go.ChangeShapes Go.WideShapes Go.ChangeAt Go.RowKit

/-- A sign and no error, or an error. -/
def pnumV (a : Addr) : Option Int → Value
  | some z => .tuple #[.int .i64 z, .nilIface]
  | none => .tuple #[.int .i64 0, errV a]
theorem ret_pnum {a : Addr} {o : Option Int} {z : Int} (h : o = some z) : Ending.returned (.tuple #[.int .i64 z, .nilIface]) = .returned (pnumV a o) := by rw [h]; rfl
theorem ret_pnum0 {a : Addr} {o : Option Int} (h : o = none) : Ending.returned (.tuple #[.int .i64 0, errV a]) = .returned (pnumV a o) := by rw [h]; rfl
theorem zero_prefix (d : List UInt8) : Lib.hasPrefix d [48] = decide (d.head? = some 48) := by
  unfold Lib.hasPrefix
  cases d with
  | nil => rfl
  | cons b d =>
    show ((48 : UInt8) == b && true) = _
    rw [Bool.and_true]
    by_cases h : b = 48
    · subst h
      rfl
    · have h2 : ((48 : UInt8) == b) = false := beq_false_of_ne (Ne.symm h)
      rw [h2]
      simp [h]

set_option maxHeartbeats 2000000 in
theorem implStrictNumber (s : ByteArray) (a : Addr) (w : World) (hs : s.size ≤ 1073741824) (hE : ErrA a w) :
    Calls Tryz.prog 162 #[.string s] w fun e w' => e = .returned (pnumV a (numL s.data.toList)) ∧ Below w.heap.size w w' := by
  have HN := fun W => implNumberAt s 10 W (.inl rfl) (by omega)
  have HP : ∀ W, Calls Tryz.prog 36 #[.string s, .string ⟨#[48]⟩] W fun e w' => e = .returned (.bool (Lib.hasPrefix s.data.toList [48])) ∧ w' = W := fun W => Tryz.strings_HasPrefix s ⟨#[48]⟩ W
  rw [zero_prefix] at HP
  have hlen : s.data.toList.length = s.size := Array.length_toList
  have hle := numG_le 10 0 0 s.data.toList
  have HL : Hid (numL s.data.toList = if (numG 10 0 0 s.data.toList).2 = s.data.toList.length ∧ s.data.toList.length ≤ 7 ∧ s.data.toList.head? ≠ some 48 ∧ textB ((numG 10 0 0 s.data.toList).1 : Int) = true then some ((numG 10 0 0 s.data.toList).1 : Int) else none) := rfl
  rw [hlen] at HL hle
  have HI := implIsText ((numG 10 0 0 s.data.toList).1 : Int)
  have hv : w.cell? ⟨0, 0, none⟩ = some (errV a) := hE
  clear hE hlen
  generalize (numG 10 0 0 s.data.toList).1 = n at *
  generalize (numG 10 0 0 s.data.toList).2 = m at *
  generalize s.data.toList.head? = hd at *
  generalize numL s.data.toList = R at *
  go_enter Tryz.func162, Tryz.ntmps162
  go_wp2_with fail
  refine (HN _).mono ?_
  rintro e w1 ⟨rfl, rfl⟩
  clear HN
  by_cases h1 : m < s.size
  · have Hn : Hid (R = none) := by show _ = _; rw [HL.out, if_neg (by rintro ⟨h, _⟩; omega)]
    have g1 : (m : Int) < (s.size : Int) := by omega
    clear HL HP HI h1
    go_wp2_with fail
    go_quiet (fail)
    have bf := drew_kd (Below.refl w1.heap.size w1) nq
    go_wp2_with fail
    go_ret2
    exact ⟨ret_pnum0 Hn.out, bf⟩
  have g1 : decide ((m : Int) < (s.size : Int)) = false := decide_eq_false (by omega)
  have g1' : ¬ m < s.size := h1
  by_cases h2 : 7 < m
  · have Hn : Hid (R = none) := by show _ = _; rw [HL.out, if_neg (by rintro ⟨h, h3, _⟩; omega)]
    have g2 : (7 : Int) < (m : Int) := by omega
    clear HL HP HI h1
    go_wp2_with fail
    go_quiet (fail)
    have bf := drew_kd (Below.refl w1.heap.size w1) nq
    go_wp2_with fail
    go_ret2
    exact ⟨ret_pnum0 Hn.out, bf⟩
  have g2 : decide ((7 : Int) < (m : Int)) = false := decide_eq_false (by omega)
  have g2' : ¬ 7 < m := h2
  by_cases h3 : hd = some 48
  · have Hn : Hid (R = none) := by show _ = _; rw [HL.out, if_neg (fun h => h.2.2.1 h3)]
    rw [decide_eq_true h3] at HP
    clear HL HI h1 h2 h3
    go_wp2_with fail
    refine (HP _).mono ?_
    rintro e w2 ⟨rfl, rfl⟩
    clear HP
    go_wp2_with fail
    go_quiet (fail)
    have bf := drew_kd (Below.refl w2.heap.size w2) nq
    go_wp2_with fail
    go_ret2
    exact ⟨ret_pnum0 Hn.out, bf⟩
  rw [decide_eq_false h3] at HP
  cases h4 : textB (n : Int)
  · have Hn : Hid (R = none) := by show _ = _; rw [HL.out, if_neg (fun h => by rw [h4] at h; cases h.2.2.2)]
    rw [h4] at HI
    clear HL h1 h2 h3 h4
    go_wp2_with fail
    refine (HP _).mono ?_
    rintro e w2 ⟨rfl, rfl⟩
    clear HP
    go_wp2_with fail
    refine (HI _).mono ?_
    rintro e w3 ⟨rfl, rfl⟩
    clear HI
    go_wp2_with fail
    go_quiet (fail)
    have bf := drew_kd (Below.refl w3.heap.size w3) nq
    go_wp2_with fail
    go_ret2
    exact ⟨ret_pnum0 Hn.out, bf⟩
  · have Hn : Hid (R = some (n : Int)) := by show _ = _; rw [HL.out, if_pos ⟨by omega, by omega, h3, h4⟩]
    rw [h4] at HI
    clear HL h1 h2 h3 h4
    go_wp2_with fail
    refine (HP _).mono ?_
    rintro e w2 ⟨rfl, rfl⟩
    clear HP
    go_wp2_with fail
    refine (HI _).mono ?_
    rintro e w3 ⟨rfl, rfl⟩
    clear HI
    go_wp2_with fail
    go_ret2
    exact ⟨ret_pnum Hn.out, Below.refl _ _⟩

theorem ne_of_beq_false {x y : List UInt8} (h : (x == y) = false) : ¬ x = y := fun e => by rw [e] at h; simp at h
theorem hash_prefix (x : List UInt8) : Lib.hasPrefix x [35] = decide (x.head? = some 35) := by
  unfold Lib.hasPrefix
  cases x with
  | nil => rfl
  | cons b d =>
    show ((35 : UInt8) == b && true) = _
    rw [Bool.and_true]
    by_cases h : b = 35
    · subst h
      rfl
    · have h2 : ((35 : UInt8) == b) = false := beq_false_of_ne (Ne.symm h)
      rw [h2]
      simp [h]

set_option maxHeartbeats 4000000 in
theorem implRefSign (x : List UInt8) (a : Addr) (w : World) (hs : x.length ≤ 1073741824) (hE : ErrA a w) :
    Calls Tryz.prog 138 #[.string (strB x)] w fun e w' => e = .returned (pnumV a (refSignL x)) ∧ Below w.heap.size w w' := by
  have hv : w.cell? ⟨0, 0, none⟩ = some (errV a) := hE
  have HC : ∀ W, Calls Tryz.prog 91 #[.string (strB x), .string ⟨#[35]⟩] W fun e w' => e = .returned (.tuple #[.string (strB (Lib.trimPrefix x [35])), .bool (Lib.hasPrefix x [35])]) ∧ w' = W := fun W => Tryz.strings_CutPrefix (strB x) ⟨#[35]⟩ W
  have ht : (strB x).toList = x := by rw [ByteArray.toList_eq]; simp [strB]
  generalize hnm : strB x = nm at *
  have HE : Hid (ErrA a w) := hE
  clear hE
  go_enter Tryz.func138, Tryz.ntmps138
  go_wp2_with fail
  · rename_i h
    have hx := eq_of_beq h
    go_ret2
    exact ⟨ret_pnum (by rw [hx]; decide), Below.refl _ _⟩
  · rename_i h
    have hx := eq_of_beq h
    go_ret2
    exact ⟨ret_pnum (by rw [hx]; decide), Below.refl _ _⟩
  · rename_i h
    have hx := eq_of_beq h
    go_ret2
    exact ⟨ret_pnum (by rw [hx]; decide), Below.refl _ _⟩
  · rename_i h
    have hx := eq_of_beq h
    go_ret2
    exact ⟨ret_pnum (by rw [hx]; decide), Below.refl _ _⟩
  · rename_i h
    have hx := eq_of_beq h
    go_ret2
    exact ⟨ret_pnum (by rw [hx]; decide), Below.refl _ _⟩
  · have h1 : (x == [97, 109, 112]) = false := by assumption
    have h2 : (x == [108, 116]) = false := by assumption
    have h3 : (x == [103, 116]) = false := by assumption
    have h4 : (x == [113, 117, 111, 116]) = false := by assumption
    have h5 : (x == [97, 112, 111, 115]) = false := by assumption
    have hq : refSignL x = if x.head? = some 35 then numL x.tail else none := by
      unfold refSignL
      rw [if_neg (ne_of_beq_false h1), if_neg (ne_of_beq_false h2), if_neg (ne_of_beq_false h3), if_neg (ne_of_beq_false h4), if_neg (ne_of_beq_false h5)]
    have Hq : Hid (refSignL x = if x.head? = some 35 then numL x.tail else none) := hq
    rw [hash_prefix] at HC
    clear h1 h2 h3 h4 h5 hq ht
    by_cases hh : x.head? = some 35
    · have Hn : Hid (refSignL x = numL x.tail) := by show _ = _; rw [Hq.out, if_pos hh]
      have htr : Lib.trimPrefix x [35] = x.tail := by
        unfold Lib.trimPrefix
        rw [hash_prefix, decide_eq_true hh, if_pos rfl, List.drop_one.symm]
        rfl
      rw [htr, decide_eq_true hh] at HC
      have HS := fun W => implStrictNumber (strB x.tail) a W (by rw [strB_size, List.length_tail]; omega)
      rw [show (strB x.tail).data.toList = x.tail by simp [strB]] at HS
      clear hh htr Hq
      generalize strB x.tail = tl at *
      generalize numL x.tail = R at *
      refine (HC _).mono ?_
      rintro e w1 ⟨rfl, rfl⟩
      clear HC
      go_wp2_with fail
      refine (HS _ HE.out).mono ?_
      rintro e w2 ⟨rfl, b2⟩
      cases R with
      | none =>
        rw [show pnumV a none = .tuple #[.int .i64 0, errV a] from rfl]
        go_wp2_with fail
        go_ret2
        exact ⟨ret_pnum0 Hn.out, b2⟩
      | some z =>
        rw [show pnumV a (some z) = .tuple #[.int .i64 z, .nilIface] from rfl]
        go_wp2_with fail
        go_ret2
        exact ⟨ret_pnum Hn.out, b2⟩
    · have Hn : Hid (refSignL x = none) := by show _ = _; rw [Hq.out, if_neg hh]
      rw [decide_eq_false hh] at HC
      clear hh Hq
      generalize strB (Lib.trimPrefix x [35]) = tl at *
      refine (HC _).mono ?_
      rintro e w1 ⟨rfl, rfl⟩
      clear HC
      go_wp2_with fail
      go_quiet (fail)
      have bf := drew_kd (Below.refl w1.heap.size w1) nq
      go_wp2_with fail
      go_ret2
      exact ⟨ret_pnum0 Hn.out, bf⟩

end Go.Proofs.YtkngdlbedelgnaaGreatDoor.Sg

namespace Go.Proofs.YtkngdlbedelgnaaGreatDoor.Sg
open Go.ChangeShapes Go.WideShapes Go.ChangeAt Go.RowKit

/-- The library's own variable holds some number. -/
def MaxLen (w : World) : Prop := ∃ m : Int, w.cell? ⟨1, 0, none⟩ = some (.int .i64 m)
theorem maxlen {w : World} (h : w.ShapedOpen Tryz.prog) : MaxLen w :=
  cell_of_shapedOpen_int (t := 3) (zero := #[.int .i64 0]) h (of_decide_eq_true (by kernel_rfl)) (by kernel_rfl) rfl (by kernel_rfl) (by kernel_rfl) Tryz.underlying3
theorem MaxLen.below {w w' : World} (h : MaxLen w) (hb : Below w.heap.size w w') : MaxLen w' := by
  obtain ⟨m, hm⟩ := h
  refine ⟨m, (hb.cell (p := ⟨1, 0, none⟩) ?_).trans hm⟩
  show 1 < w.heap.size
  cases hh : w.heap[1]? with
  | none => simp [World.cell?, hh] at hm
  | some o => exact (Array.getElem?_eq_some_iff.1 hh).1

end Go.Proofs.YtkngdlbedelgnaaGreatDoor.Sg

namespace Go.Proofs.YtkngdlbedelgnaaGreatDoor.Sg
open Go.ChangeShapes Go.WideShapes Go.ChangeAt Go.RowKit

/-- How great a number can be with so many digits still to come. -/
def capN : Nat → Nat
  | 0 => 9999999
  | 1 => 999999
  | 2 => 99999
  | 3 => 9999
  | 4 => 999
  | 5 => 99
  | 6 => 9
  | _ => 0
theorem capN_step {f n d : Nat} (hf : f < 7) (hn : n ≤ capN (f + 1)) (hd : d ≤ 9) : 10 * n + d ≤ capN f := by
  match f, hf with
  | 0, _ | 1, _ | 2, _ | 3, _ | 4, _ | 5, _ | 6, _ => simp [capN] at hn ⊢; omega
theorem capN_le (f : Nat) : capN f ≤ 9999999 := by
  unfold capN
  split <;> omega
/-- What the model's l18Number hands back. -/
def numV : Option (Nat × Nat) → Value
  | none => .tuple #[.int .i64 0, .int .i64 (-1)]
  | some r => .tuple #[.int .i64 (r.1 : Int), .int .i64 (r.2 : Int)]
theorem xnumR_of {s : ByteArray} {k n j : Nat} (h : xdigR s 7 (k + 2) 0 = (n, j)) : xnumR s k = if j = k + 2 ∨ bN s (k + 2) = 48 ∨ ¬ j < s.size ∨ bN s j ≠ 59 ∨ textB (n : Int) = false then none else some (n, j) := by
  unfold xnumR
  rw [h]

set_option maxHeartbeats 4000000 in
theorem specNumber18 (s : ByteArray) (k : Nat) (w : World) (hk : k + 2 ≤ s.size) (hs : s.size ≤ 17592186044416) :
    Calls Tryz.prog 105 #[.string s, .int .i64 (k : Int)] w fun e w' => e = .returned (numV (xnumR s k)) ∧ w' = w := by
  have q1 : IntKind.i64.wrap ((k : Int) + 2) = (k : Int) + 2 := IntWalk.i64_in _ (by omega)
  have q2 : IntKind.i64.wrap ((k : Int) + 9) = (k : Int) + 9 := IntWalk.i64_in _ (by omega)
  go_enter Tryz.func105, Tryz.ntmps105
  go_wp2_with fail
  go_loopw [6, 7] (fun nv iv wr => ∃ (f n i : Nat), f ≤ 7 ∧ i + f = k + 9 ∧ k + 2 ≤ i ∧ i ≤ s.size ∧ n ≤ capN f ∧ nv = .int .i64 (n : Int) ∧ iv = .int .i64 (i : Int) ∧ Hid (xdigR s 7 (k + 2) 0 = xdigR s f i n) ∧ wr = w) (fun _ iv _ => s.size - (intOf iv).toNat)
  case atStart => exact ⟨7, 0, k + 2, by omega, by omega, by omega, by omega, Nat.zero_le _, rfl, by go_num, rfl, rfl⟩
  case round =>
    obtain ⟨f, n, i, hf, hfi, hki, his, hn, rfl, rfl, HD, rfl⟩ := hrel
    have hcap := capN_le f
    have q3 : (0 : Int) ≤ (i : Int) := by omega
    by_cases hgo : ∃ (h : i < s.size) (_ : 0 < f), 48 ≤ (s[i]'h).toNat ∧ (s[i]'h).toNat ≤ 57
    · obtain ⟨hlt, hf0, hd⟩ := hgo
      obtain ⟨f', rfl⟩ : ∃ f', f = f' + 1 := ⟨f - 1, by omega⟩
      have HD2 : Hid (xdigR s 7 (k + 2) 0 = xdigR s f' (i + 1) (10 * n + ((s[i]'hlt).toNat - 48))) := HD.out.trans (xdigR_go hlt hd)
      have hn2 := capN_step (f := f') (by omega) hn (d := (s[i]'hlt).toNat - 48) (by omega)
      have Hd := fun W => specDigit (s[i]'hlt).toNat false W (by omega)
      rw [dig3_ten hd] at Hd
      have c1 : IntKind.i64.wrap (10 * (n : Int)) = 10 * (n : Int) := IntWalk.i64_in _ (by omega)
      have c2 : IntKind.i64.wrap (10 * (n : Int) + ((s[i]'hlt).toNat : Int)) = 10 * (n : Int) + ((s[i]'hlt).toNat : Int) := IntWalk.i64_in _ (by omega)
      have c3 : IntKind.i64.wrap (10 * (n : Int) + ((s[i]'hlt).toNat : Int) - 48) = 10 * (n : Int) + ((s[i]'hlt).toNat : Int) - 48 := IntWalk.i64_in _ (by omega)
      have c4 : IntKind.i64.wrap ((i : Int) + 1) = (i : Int) + 1 := IntWalk.i64_in _ (by omega)
      have c5 : (0 : Int) ≤ ((s[i]'hlt).toNat : Int) - 48 := by omega
      have c6 : (i : Int) < (k : Int) + 9 := by omega
      clear HD
      go_wp2_with fail
      refine (Hd _).mono ?_
      rintro e w1 ⟨rfl, rfl⟩
      go_wp2_with fail
      go_roundw
      case rel => exact ⟨f', 10 * n + ((s[i]'hlt).toNat - 48), i + 1, by omega, by omega, by omega, by omega, hn2, by go_num, by go_num, HD2, trivial⟩
      case measure => simp [intOf]; omega
    · have HE : Hid (xdigR s 7 (k + 2) 0 = (n, i)) := by
        show _ = _
        rw [HD.out]
        by_cases hlt : i < s.size
        · by_cases hf0 : 0 < f
          · exact xdigR_stop hlt fun h => hgo ⟨hlt, hf0, h⟩
          · rw [show f = 0 by omega]
            rfl
        · exact xdigR_end hlt
      clear HD
      by_cases hlt : i < s.size
      · by_cases hf0 : f = 0
        · have gi : (i : Int) < (s.size : Int) := by omega
          have hne : ¬ i = k + 2 := by omega
          have g9 : decide ((i : Int) < (k : Int) + 9) = false := decide_eq_false (by omega)
          have h2 : k + 2 < s.size := by omega
          have p1 : ((k : Int) + 2).toNat = k + 2 := by omega
          have p2 : (k : Int) + 2 < (s.size : Int) := by omega
          have p3 : (0 : Int) ≤ (k : Int) + 2 := by omega
          have gne : ((i : Int) == (k : Int) + 2) = false := by rw [beq_eq_false_iff_ne]; omega
          have b2 := bN_eq s (k + 2) h2
          by_cases h48 : (s[k + 2]'h2).toNat = 48
          · have g48 : (((s[k + 2]'h2).toNat : Int) == 48) = true := by rw [h48]; rfl
            have Hx : Hid (xnumR s k = none) := by show _ = _; rw [xnumR_of HE.out, if_pos (.inr (.inl (by rw [← b2, h48])))]
            clear HE
            go_wp2_with fail
            go_ret2
            rw [Hx.out]
            exact ⟨rfl, rfl⟩
          · have g48 : (((s[k + 2]'h2).toNat : Int) == 48) = false := by rw [beq_eq_false_iff_ne]; omega
            have g48n : ¬ bN s (k + 2) = 48 := by rw [← b2]; exact h48
            have b9 := bN_eq s i hlt
            have gin : decide ((s.size : Int) ≤ (i : Int)) = false := decide_eq_false (by omega)
            have gin' : decide (s.size ≤ i) = false := decide_eq_false (by omega)
            by_cases h59 : (s[i]'hlt).toNat = 59
            · have g59 : (((s[i]'hlt).toNat : Int) == 59) = true := by rw [h59]; rfl
              have h59n : bN s i = 59 := by rw [← b9, h59]
              have Ht := fun W => specIsText (n : Int) W
              cases ht : textB (n : Int)
              · rw [ht] at Ht
                have Hx : Hid (xnumR s k = none) := by show _ = _; rw [xnumR_of HE.out, if_pos (.inr (.inr (.inr (.inr ht))))]
                clear HE
                go_wp2_with fail
                refine (Ht _).mono ?_
                rintro e w1 ⟨rfl, rfl⟩
                go_wp2_with fail
                go_ret2
                rw [Hx.out]
                exact ⟨rfl, rfl⟩
              · rw [ht] at Ht
                have Hx : Hid (xnumR s k = some (n, i)) := by show _ = _; rw [xnumR_of HE.out, if_neg (fun h => h.elim hne (fun h => h.elim g48n (fun h => h.elim (fun h => h hlt) (fun h => h.elim (fun h => h h59n) (fun h => by rw [ht] at h; cases h)))))]
                clear HE
                go_wp2_with fail
                refine (Ht _).mono ?_
                rintro e w1 ⟨rfl, rfl⟩
                go_wp2_with fail
                go_ret2
                rw [Hx.out]
                exact ⟨rfl, rfl⟩
            · have g59 : (((s[i]'hlt).toNat : Int) == 59) = false := by rw [beq_eq_false_iff_ne]; omega
              have Hx : Hid (xnumR s k = none) := by show _ = _; rw [xnumR_of HE.out, if_pos (.inr (.inr (.inr (.inl (by rw [← b9]; exact h59)))))]
              clear HE
              go_wp2_with fail
              go_ret2
              rw [Hx.out]
              exact ⟨rfl, rfl⟩
        · have hd : ¬ (48 ≤ (s[i]'hlt).toNat ∧ (s[i]'hlt).toNat ≤ 57) := fun h => hgo ⟨hlt, by omega, h⟩
          have gi : (i : Int) < (s.size : Int) := by omega
          have g9 : (i : Int) < (k : Int) + 9 := by omega
          have Hd := fun W => specDigit (s[i]'hlt).toNat false W (by have := bN_lt s i; rw [bN_eq]; exact this)
          rw [dig3_not hd] at Hd
          clear hd
          go_wp2_with fail
          refine (Hd _).mono ?_
          rintro e w0 ⟨rfl, rfl⟩
          clear Hd
          by_cases hne : i = k + 2
          · have gne : ((i : Int) == (k : Int) + 2) = true := by rw [hne]; simp
            have Hx : Hid (xnumR s k = none) := by show _ = _; rw [xnumR_of HE.out, if_pos (.inl hne)]
            clear HE
            go_wp2_with fail
            go_ret2
            rw [Hx.out]
            exact ⟨rfl, rfl⟩
          · have h2 : k + 2 < s.size := by omega
            have p1 : ((k : Int) + 2).toNat = k + 2 := by omega
            have p2 : (k : Int) + 2 < (s.size : Int) := by omega
            have p3 : (0 : Int) ≤ (k : Int) + 2 := by omega
            have gne : ((i : Int) == (k : Int) + 2) = false := by rw [beq_eq_false_iff_ne]; omega
            have b2 := bN_eq s (k + 2) h2
            by_cases h48 : (s[k + 2]'h2).toNat = 48
            · have g48 : (((s[k + 2]'h2).toNat : Int) == 48) = true := by rw [h48]; rfl
              have Hx : Hid (xnumR s k = none) := by show _ = _; rw [xnumR_of HE.out, if_pos (.inr (.inl (by rw [← b2, h48])))]
              clear HE
              go_wp2_with fail
              go_ret2
              rw [Hx.out]
              exact ⟨rfl, rfl⟩
            · have g48 : (((s[k + 2]'h2).toNat : Int) == 48) = false := by rw [beq_eq_false_iff_ne]; omega
              have g48n : ¬ bN s (k + 2) = 48 := by rw [← b2]; exact h48
              have b9 := bN_eq s i hlt
              have gin : decide ((s.size : Int) ≤ (i : Int)) = false := decide_eq_false (by omega)
              have gin' : decide (s.size ≤ i) = false := decide_eq_false (by omega)
              by_cases h59 : (s[i]'hlt).toNat = 59
              · have g59 : (((s[i]'hlt).toNat : Int) == 59) = true := by rw [h59]; rfl
                have h59n : bN s i = 59 := by rw [← b9, h59]
                have Ht := fun W => specIsText (n : Int) W
                cases ht : textB (n : Int)
                · rw [ht] at Ht
                  have Hx : Hid (xnumR s k = none) := by show _ = _; rw [xnumR_of HE.out, if_pos (.inr (.inr (.inr (.inr ht))))]
                  clear HE
                  go_wp2_with fail
                  refine (Ht _).mono ?_
                  rintro e w1 ⟨rfl, rfl⟩
                  go_wp2_with fail
                  go_ret2
                  rw [Hx.out]
                  exact ⟨rfl, rfl⟩
                · rw [ht] at Ht
                  have Hx : Hid (xnumR s k = some (n, i)) := by show _ = _; rw [xnumR_of HE.out, if_neg (fun h => h.elim hne (fun h => h.elim g48n (fun h => h.elim (fun h => h hlt) (fun h => h.elim (fun h => h h59n) (fun h => by rw [ht] at h; cases h)))))]
                  clear HE
                  go_wp2_with fail
                  refine (Ht _).mono ?_
                  rintro e w1 ⟨rfl, rfl⟩
                  go_wp2_with fail
                  go_ret2
                  rw [Hx.out]
                  exact ⟨rfl, rfl⟩
              · have g59 : (((s[i]'hlt).toNat : Int) == 59) = false := by rw [beq_eq_false_iff_ne]; omega
                have Hx : Hid (xnumR s k = none) := by show _ = _; rw [xnumR_of HE.out, if_pos (.inr (.inr (.inr (.inl (by rw [← b9]; exact h59)))))]
                clear HE
                go_wp2_with fail
                go_ret2
                rw [Hx.out]
                exact ⟨rfl, rfl⟩
      · have gi : decide ((i : Int) < (s.size : Int)) = false := decide_eq_false (by omega)
        have gi' : decide (i < s.size) = false := decide_eq_false hlt
        have gge : decide ((s.size : Int) ≤ (i : Int)) = true := decide_eq_true (by omega)
        by_cases hne : i = k + 2
        · have gne : ((i : Int) == (k : Int) + 2) = true := by rw [hne]; simp
          have Hx : Hid (xnumR s k = none) := by show _ = _; rw [xnumR_of HE.out, if_pos (.inl hne)]
          clear HE
          go_wp2_with fail
          go_ret2
          rw [Hx.out]
          exact ⟨rfl, rfl⟩
        · have h2 : k + 2 < s.size := by omega
          have p1 : ((k : Int) + 2).toNat = k + 2 := by omega
          have p2 : (k : Int) + 2 < (s.size : Int) := by omega
          have p3 : (0 : Int) ≤ (k : Int) + 2 := by omega
          have gne : ((i : Int) == (k : Int) + 2) = false := by rw [beq_eq_false_iff_ne]; omega
          have b2 := bN_eq s (k + 2) h2
          by_cases h48 : (s[k + 2]'h2).toNat = 48
          · have g48 : (((s[k + 2]'h2).toNat : Int) == 48) = true := by rw [h48]; rfl
            have Hx : Hid (xnumR s k = none) := by show _ = _; rw [xnumR_of HE.out, if_pos (.inr (.inl (by rw [← b2, h48])))]
            clear HE
            go_wp2_with fail
            go_ret2
            rw [Hx.out]
            exact ⟨rfl, rfl⟩
          · have g48 : (((s[k + 2]'h2).toNat : Int) == 48) = false := by rw [beq_eq_false_iff_ne]; omega
            have g48n : ¬ bN s (k + 2) = 48 := by rw [← b2]; exact h48
            have Hx : Hid (xnumR s k = none) := by show _ = _; rw [xnumR_of HE.out, if_pos (.inr (.inr (.inl hlt)))]
            clear HE
            go_wp2_with fail
            go_ret2
            rw [Hx.out]
            exact ⟨rfl, rfl⟩

end Go.Proofs.YtkngdlbedelgnaaGreatDoor.Sg

namespace Go.Proofs.YtkngdlbedelgnaaGreatDoor.Sg
open Go.ChangeShapes Go.WideShapes Go.ChangeAt Go.RowKit

theorem below_from {w a b : World} (h : Below w.heap.size w a) (k : Below a.heap.size a b) : Below w.heap.size w b := h.trans (k.mono h.size)

end Go.Proofs.YtkngdlbedelgnaaGreatDoor.Sg

namespace Go.Proofs.YtkngdlbedelgnaaGreatDoor.Sg
open Go.ChangeShapes Go.WideShapes Go.ChangeAt Go.RowKit

set_option maxHeartbeats 1000000 in
theorem specStands (s : ByteArray) (k : Nat) (t : ByteArray) (w : World) (_hs : s.size ≤ 17592186044416) (hk : k ≤ 17592186044416) (ht : t.size ≤ 17592186044416) :
    Calls Tryz.prog 11 #[.string s, .int .i64 (k : Int), .string t] w fun e w' => e = .returned (.bool (standsB s k t)) ∧ w' = w := by
  have q1 : IntKind.i64.wrap ((k : Int) + (t.size : Int)) = (k : Int) + (t.size : Int) := IntWalk.i64_in _ (by omega)
  have q3 : (k : Int) ≤ (k : Int) + (t.size : Int) := by omega
  have q4 : ((k : Int) + (t.size : Int)).toNat = k + t.size := by omega
  have q5 : (0 : Int) ≤ (k : Int) + (t.size : Int) := by omega
  have q6 : (0 : Int) ≤ (k : Int) := by omega
  by_cases h : k + t.size ≤ s.size
  · have Hn : Hid (standsB s k t = ((s.extract k (k + t.size)).toList == t.toList)) := by
      show _ = _
      unfold standsB
      rw [decide_eq_true h, Bool.true_and]
    have q2 : (k : Int) + (t.size : Int) ≤ (s.size : Int) := by omega
    cases hc : (s.extract k (k + t.size)).toList == t.toList
    · rw [hc] at Hn
      go_enter Tryz.func11, Tryz.ntmps11
      go_wp2
      go_ret
      exact ⟨ret_bool Hn.out.symm, rfl⟩
    · rw [hc] at Hn
      go_enter Tryz.func11, Tryz.ntmps11
      go_wp2
      go_ret
      exact ⟨ret_bool Hn.out.symm, rfl⟩
  · have Hn : Hid (standsB s k t = false) := by
      show _ = _
      unfold standsB
      rw [decide_eq_false h, Bool.false_and]
    have q2 : decide ((k : Int) + (t.size : Int) ≤ (s.size : Int)) = false := decide_eq_false (by omega)
    go_enter Tryz.func11, Tryz.ntmps11
    go_wp2
    go_ret
    exact ⟨ret_bool Hn.out.symm, rfl⟩

set_option maxHeartbeats 1000000 in
theorem specSearch (s : ByteArray) (k0 : Nat) (t : ByteArray) (w : World) (hs : s.size ≤ 17592186044416) (hk : k0 ≤ 1099511627776) (ht : t.size ≤ 1099511627776) :
    Calls Tryz.prog 25 #[.string s, .int .i64 (k0 : Int), .string t] w fun e w' => e = .returned (.int .i64 (findV (searchE s k0 t))) ∧ w' = w := by
  go_enter Tryz.func25, Tryz.ntmps25
  go_wp2
  go_loopw [1] (fun v wr => ∃ k : Nat, v = .int .i64 (k : Int) ∧ (k ≤ k0 ∨ k ≤ s.size + 1) ∧ Hid (searchE s k0 t = searchE s k t) ∧ wr = w) (fun v _ => s.size + 1 - (intOf v).toNat)
  case atStart => exact ⟨k0, rfl, .inl (Nat.le_refl _), rfl, rfl⟩
  case round =>
    obtain ⟨k, rfl, hkb, Hsp, rfl⟩ := hrel
    have hkb' : k ≤ 17592186044417 := by omega
    clear hkb
    have q1 : IntKind.i64.wrap ((k : Int) + (t.size : Int)) = (k : Int) + (t.size : Int) := IntWalk.i64_in _ (by omega)
    by_cases h : k + t.size ≤ s.size
    · have Hv := fun w => specStands s k t w hs (by omega) (by omega)
      have q2 : (k : Int) + (t.size : Int) ≤ (s.size : Int) := by omega
      cases hc : standsB s k t
      · have Hn : Hid (searchE s k0 t = searchE s (k + 1) t) := Hsp.out.trans (searchE_no h hc)
        rw [hc] at Hv
        clear Hsp hc
        go_wp2_with fail
        refine (Hv _).mono ?_
        rintro e w1 ⟨rfl, rfl⟩
        go_wp2
        go_roundw
        case rel => exact ⟨k + 1, by go_num, .inr (by omega), Hn, by first | trivial | rfl⟩
        case measure => simp [intOf]; omega
      · have Hn : Hid (searchE s k0 t = some k) := Hsp.out.trans (searchE_yes hc)
        rw [hc] at Hv
        clear Hsp hc
        go_wp2_with fail
        refine (Hv _).mono ?_
        rintro e w1 ⟨rfl, rfl⟩
        go_wp2
        go_ret
        exact ⟨ret_i64' (by rw [Hn.out]; rfl), rfl⟩
    · have Hn : Hid (searchE s k0 t = none) := Hsp.out.trans (searchE_end h)
      have q2 : decide ((k : Int) + (t.size : Int) ≤ (s.size : Int)) = false := decide_eq_false (by omega)
      clear Hsp
      go_wp2
      go_ret
      exact ⟨ret_i64' (by rw [Hn.out]; rfl), rfl⟩

end Go.Proofs.YtkngdlbedelgnaaGreatDoor.Sg

namespace Go.Proofs.YtkngdlbedelgnaaGreatDoor.Sg
open Go.ChangeShapes Go.WideShapes Go.ChangeAt Go.RowKit

def names5 : List (List UInt8) := [[38, 97, 109, 112, 59], [38, 108, 116, 59], [38, 103, 116, 59], [38, 113, 117, 111, 116, 59], [38, 97, 112, 111, 115, 59]]
def signs5 : List (List UInt8) := [[38], [60], [62], [34], [39]]
/-- What the model's XmlRef hands back. -/
def xrefV : Option (ByteArray × Nat) → Value
  | none => .tuple #[.string ⟨#[]⟩, .int .i64 (-1)]
  | some r => .tuple #[.string r.1, .int .i64 (r.2 : Int)]
theorem stands_head {s t : ByteArray} {k : Nat} {b : UInt8} (h : standsB s k t = true) (ht : t.data.toList.head? = some b) (hk : k < s.size) : s[k]'hk = b := by
  have hl := stands_le h
  unfold standsB at h
  rw [Bool.and_eq_true] at h
  have h2 : (s.extract k (k + t.size)).toList = t.toList := by simpa using h.2
  rw [ByteArray.toList_eq, ByteArray.toList_eq] at h2
  rw [← h2] at ht
  have hz : 0 < t.size := by
    cases hc : t.size with
    | zero =>
      rw [hc] at ht
      have : (s.extract k (k + 0)).data.toList = [] := by
        apply List.eq_nil_of_length_eq_zero
        rw [Array.length_toList]
        show (s.extract k (k + 0)).size = 0
        rw [ByteArray.size_extract]
        omega
      rw [this] at ht
      cases ht
    | succ _ => omega
  have e : (s.extract k (k + t.size)).data.toList = (s.data.toList.drop k).take t.size := by
    rw [ByteArray.data_extract, Array.toList_extract]
    simp
  rw [e, List.head?_take, if_neg (by omega), List.head?_drop] at ht
  have : s.data.toList[k]? = some (s[k]'hk) := by
    rw [List.getElem?_eq_getElem (by rw [Array.length_toList]; exact hk)]
    rfl
  rw [this] at ht
  exact Option.some.inj ht
theorem xrefR_38 {s : ByteArray} {k : Nat} (hk : k < s.size) (h : ¬ (s[k]'hk).toNat = 38) : xrefR s k = none := by
  have key : ∀ t : ByteArray, t.data.toList.head? = some 38 → standsB s k t = false := by
    intro t ht
    cases hc : standsB s k t with
    | false => rfl
    | true => exact absurd (by rw [stands_head hc ht hk]; rfl) h
  unfold xrefR
  rw [key ampB rfl, key ltB rfl, key gtB rfl, key quotB rfl, key aposB rfl, key hashB rfl]
  rfl
theorem xrefR_first {s : ByteArray} {k q : Nat} (hq : q < 5) (h1 : ∀ j, j < q → standsB s k (strB (names5.getD j [])) = false) (h2 : standsB s k (strB (names5.getD q [])) = true) :
    xrefR s k = some (strB (signs5.getD q []), k + (names5.getD q []).length) := by
  have e0 : strB (names5.getD 0 []) = ampB := rfl
  have e1 : strB (names5.getD 1 []) = ltB := rfl
  have e2 : strB (names5.getD 2 []) = gtB := rfl
  have e3 : strB (names5.getD 3 []) = quotB := rfl
  have e4 : strB (names5.getD 4 []) = aposB := rfl
  unfold xrefR
  match q, hq with
  | 0, _ =>
    rw [e0] at h2
    rw [h2]
    rfl
  | 1, _ =>
    have z0 := h1 0 (by omega)
    rw [e0] at z0
    rw [e1] at h2
    rw [z0, h2]
    rfl
  | 2, _ =>
    have z0 := h1 0 (by omega)
    have z1 := h1 1 (by omega)
    rw [e0] at z0
    rw [e1] at z1
    rw [e2] at h2
    rw [z0, z1, h2]
    rfl
  | 3, _ =>
    have z0 := h1 0 (by omega)
    have z1 := h1 1 (by omega)
    have z2 := h1 2 (by omega)
    rw [e0] at z0
    rw [e1] at z1
    rw [e2] at z2
    rw [e3] at h2
    rw [z0, z1, z2, h2]
    rfl
  | 4, _ =>
    have z0 := h1 0 (by omega)
    have z1 := h1 1 (by omega)
    have z2 := h1 2 (by omega)
    have z3 := h1 3 (by omega)
    rw [e0] at z0
    rw [e1] at z1
    rw [e2] at z2
    rw [e3] at z3
    rw [e4] at h2
    rw [z0, z1, z2, z3, h2]
    rfl
theorem xrefR_rest {s : ByteArray} {k : Nat} (h1 : ∀ j, j < 5 → standsB s k (strB (names5.getD j [])) = false) : xrefR s k = if standsB s k hashB = true then (xnumR s k).map (fun r => (putS (r.1 : Int), r.2 + 1)) else none := by
  have z0 := h1 0 (by omega)
  have z1 := h1 1 (by omega)
  have z2 := h1 2 (by omega)
  have z3 := h1 3 (by omega)
  have z4 := h1 4 (by omega)
  rw [show strB (names5.getD 0 []) = ampB from rfl] at z0
  rw [show strB (names5.getD 1 []) = ltB from rfl] at z1
  rw [show strB (names5.getD 2 []) = gtB from rfl] at z2
  rw [show strB (names5.getD 3 []) = quotB from rfl] at z3
  rw [show strB (names5.getD 4 []) = aposB from rfl] at z4
  unfold xrefR
  rw [z0, z1, z2, z3, z4]
  rfl

set_option maxHeartbeats 4000000 in
theorem specXmlRef_in (s : ByteArray) (k : Nat) (w : World) (hk : k < s.size) (hs : s.size ≤ 17592186044416) :
    Calls Tryz.prog 88 #[.string s, .int .i64 (k : Int)] w fun e w' => e = .returned (xrefV (xrefR s k)) ∧ Below w.heap.size w w' := by
  have g0 : decide ((k : Int) < 0) = false := decide_eq_false (by omega)
  have g1 : decide ((s.size : Int) ≤ (k : Int)) = false := decide_eq_false (by omega)
  have g2 : decide (s.size ≤ k) = false := decide_eq_false (by omega)
  have q0 : (0 : Int) ≤ (k : Int) := by omega
  have q1 : (k : Int) < (s.size : Int) := by omega
  by_cases h38 : (s[k]'hk).toNat = 38
  · have g38 : (((s[k]'hk).toNat : Int) == 38) = true := by rw [h38]; rfl
    have g38' : (((s[k]'hk).toNat : Int) != 38) = false := by rw [h38]; rfl
    clear h38
    obtain ⟨W2, HW2⟩ : ∃ W2, Hid (W2 = ((w.alloc (.cells #[.string ⟨#[38, 97, 109, 112, 59]⟩, .string ⟨#[38, 108, 116, 59]⟩, .string ⟨#[38, 103, 116, 59]⟩, .string ⟨#[38, 113, 117, 111, 116, 59]⟩, .string ⟨#[38, 97, 112, 111, 115, 59]⟩] 9)).alloc (.cells #[.string ⟨#[38]⟩, .string ⟨#[60]⟩, .string ⟨#[62]⟩, .string ⟨#[34]⟩, .string ⟨#[39]⟩] 9))) := ⟨_, rfl⟩
    have HTn : Hid (Texts W2 w.heap.size names5) := by
      rw [HW2.out]
      exact (Texts.laid w names5 #[.string ⟨#[38, 97, 109, 112, 59]⟩, .string ⟨#[38, 108, 116, 59]⟩, .string ⟨#[38, 103, 116, 59]⟩, .string ⟨#[38, 113, 117, 111, 116, 59]⟩, .string ⟨#[38, 97, 112, 111, 115, 59]⟩] 9 rfl).below (Nat.lt_succ_self _) ((Below.refl _ _).alloc (by simp) _)
    have HTs : Hid (Texts W2 (w.heap.size + 1) signs5) := by
      rw [HW2.out]
      have h := Texts.laid (w.alloc (.cells #[.string ⟨#[38, 97, 109, 112, 59]⟩, .string ⟨#[38, 108, 116, 59]⟩, .string ⟨#[38, 103, 116, 59]⟩, .string ⟨#[38, 113, 117, 111, 116, 59]⟩, .string ⟨#[38, 97, 112, 111, 115, 59]⟩] 9)) signs5 #[.string ⟨#[38]⟩, .string ⟨#[60]⟩, .string ⟨#[62]⟩, .string ⟨#[34]⟩, .string ⟨#[39]⟩] 9 rfl
      rw [show (w.alloc (.cells #[.string ⟨#[38, 97, 109, 112, 59]⟩, .string ⟨#[38, 108, 116, 59]⟩, .string ⟨#[38, 103, 116, 59]⟩, .string ⟨#[38, 113, 117, 111, 116, 59]⟩, .string ⟨#[38, 97, 112, 111, 115, 59]⟩] 9)).heap.size = w.heap.size + 1 by simp] at h
      exact h
    have HB2 : Hid (Below w.heap.size w W2) := by
      rw [HW2.out]
      exact ((Below.refl _ _).alloc (Nat.le_refl _) _).alloc (by simp) _
    go_enter Tryz.func88, Tryz.ntmps88
    go_wp2_with fail
    rw [← HW2.out]
    clear HW2
    go_loopw [8] (fun i wr => ∃ q : Nat, q ≤ 5 ∧ i = .int .i64 (q : Int) ∧ Hid (∀ j, j < q → standsB s k (strB (names5.getD j [])) = false) ∧ wr = W2) (fun i _ => 5 - (intOf i).toNat)
    case atStart => exact ⟨0, by omega, rfl, fun j hj => absurd hj (by omega), rfl⟩
    case round =>
      obtain ⟨q, hq, rfl, HQ, rfl⟩ := hrel
      by_cases hlt : q < 5
      · have hc := HTn.out.2 q hlt
        have hc2 := HTs.out.2 q hlt
        have hl1 : (names5.getD q []).length ≤ 6 := by
          match q, hlt with
          | 0, _ | 1, _ | 2, _ | 3, _ | 4, _ => decide
        have Hst := fun W => specStands s k (strB (names5.getD q [])) W hs (by omega) (by rw [strB_size]; omega)
        have HF := fun h => xrefR_first (s := s) (k := k) hlt HQ.out h
        have Hsz : Hid ((strB (names5.getD q [])).size = (names5.getD q []).length) := strB_size _
        have z0 : (0 : Int) ≤ (q : Int) := by omega
        have z1 : (q : Int) < 5 := by omega
        cases hb : standsB s k (strB (names5.getD q []))
        · have HQ2 : Hid (∀ j, j < q + 1 → standsB s k (strB (names5.getD j [])) = false) := fun j hj => by
            rcases Nat.lt_succ_iff_lt_or_eq.1 hj with h | rfl
            · exact HQ.out j h
            · exact hb
          rw [hb] at Hst
          clear HF hb HQ
          go_wp2_with fail
          refine (Hst _).mono ?_
          rintro e w1 ⟨rfl, rfl⟩
          go_wp2_with fail
          go_roundw
          case rel => exact ⟨q + 1, by omega, by go_num, HQ2, trivial⟩
          case measure => simp [intOf]; omega
        · have HX : Hid (xrefR s k = some (strB (signs5.getD q []), k + (names5.getD q []).length)) := HF hb
          rw [hb] at Hst
          clear HF hb HQ
          generalize names5.getD q [] = nm at *
          generalize strB (signs5.getD q []) = sg at *
          generalize strB nm = nb at *
          generalize nm.length = m at *
          have y1 : IntKind.i64.wrap ((k : Int) + (nb.size : Int)) = (k : Int) + (nb.size : Int) := IntWalk.i64_in _ (by rw [Hsz.out]; omega)
          go_wp2_with fail
          refine (Hst _).mono ?_
          rintro e w1 ⟨rfl, rfl⟩
          go_wp2_with fail
          go_quiet (fail)
          go_wp2_with fail
          go_ret2
          rw [HX.out]
          exact ⟨by rw [Hsz.out]; rfl, drew_kd HB2.out _⟩
      · obtain rfl : q = 5 := by omega
        have Hst := fun W => specStands s k hashB W hs (by omega) (by decide)
        have HR : Hid (xrefR s k = if standsB s k hashB = true then (xnumR s k).map (fun r => (putS (r.1 : Int), r.2 + 1)) else none) := xrefR_rest HQ.out
        clear HQ hlt
        cases hb : standsB s k hashB
        · rw [hb] at Hst HR
          clear hb
          go_wp2_with fail
          refine (Hst _).mono ?_
          rintro e w1 ⟨rfl, rfl⟩
          go_wp2_with fail
          go_ret2
          rw [HR.out]
          exact ⟨rfl, HB2.out⟩
        · have hl := stands_le hb
          rw [hb] at Hst HR
          have Hnum := fun W => specNumber18 s k W hl hs
          clear hb
          cases hr : xnumR s k with
          | none =>
            rw [hr] at HR Hnum
            go_wp2_with fail
            refine (Hst _).mono ?_
            rintro e w1 ⟨rfl, rfl⟩
            go_wp2_with fail
            refine (Hnum _).mono ?_
            rintro e w1 ⟨rfl, rfl⟩
            simp only [numV]
            go_wp2_with fail
            go_ret2
            rw [HR.out]
            exact ⟨rfl, HB2.out⟩
          | some r =>
            obtain ⟨n, j⟩ := r
            have hj := xnumR_le hr
            rw [hr] at HR Hnum
            have y1 : IntKind.i64.wrap ((j : Int) + 1) = (j : Int) + 1 := IntWalk.i64_in _ (by simp only at hj; omega)
            go_wp2_with fail
            refine (Hst _).mono ?_
            rintro e w1 ⟨rfl, rfl⟩
            go_wp2_with fail
            refine (Hnum _).mono ?_
            rintro e w1 ⟨rfl, rfl⟩
            simp only [numV]
            go_wp2_with fail
            refine (specPutSign (n : Int) _).mono ?_
            rintro e w2 ⟨rfl, b2⟩
            go_wp2_with fail
            go_ret2
            rw [HR.out]
            exact ⟨rfl, below_from HB2.out b2⟩
  · have g38 : (((s[k]'hk).toNat : Int) == 38) = false := by rw [beq_eq_false_iff_ne]; omega
    have Hx : Hid (xrefR s k = none) := xrefR_38 hk h38
    clear h38
    go_enter Tryz.func88, Tryz.ntmps88
    go_wp2_with fail
    go_ret2
    rw [Hx.out]
    exact ⟨rfl, Below.refl _ _⟩

end Go.Proofs.YtkngdlbedelgnaaGreatDoor.Sg

namespace Go.Proofs.YtkngdlbedelgnaaGreatDoor.Sg
open Go.ChangeShapes Go.WideShapes Go.ChangeAt Go.RowKit

end Go.Proofs.YtkngdlbedelgnaaGreatDoor.Sg

namespace Go.Proofs.YtkngdlbedelgnaaGreatDoor.Sg
open Go.ChangeShapes Go.WideShapes Go.ChangeAt Go.RowKit

/-- What refAt tells. -/
def prefV (a : Addr) (k : Int) : Option (ByteArray × Nat) → Value
  | some r => .tuple #[.string r.1, .int .i64 (r.2 : Int), .nilIface]
  | none => .tuple #[.string ⟨#[]⟩, .int .i64 k, errV a]
theorem ret_pref {a : Addr} {k : Int} {o : Option (ByteArray × Nat)} {t : ByteArray} {j : Nat} {v : Value} (h : o = some (t, j)) (hv : v = .tuple #[.string t, .int .i64 (j : Int), .nilIface]) : Ending.returned v = .returned (prefV a k o) := by rw [h, hv]; rfl
theorem ret_pref0 {a : Addr} {k : Int} {o : Option (ByteArray × Nat)} (h : o = none) : Ending.returned (.tuple #[.string ⟨#[]⟩, .int .i64 k, errV a]) = .returned (prefV a k o) := by rw [h]; rfl

set_option maxHeartbeats 2000000 in
theorem refAt_out (s : ByteArray) (i : Int) (a : Addr) (w : World) (h : i < 0 ∨ (s.size : Int) ≤ i) (hE : ErrA a w) :
    Calls Tryz.prog 118 #[.string s, .int .i64 i] w fun e w' => e = .returned (prefV a i none) ∧ Below w.heap.size w w' := by
  have hv : w.cell? ⟨0, 0, none⟩ = some (errV a) := hE
  clear hE
  by_cases h0 : i < 0
  · clear h
    go_enter Tryz.func118, Tryz.ntmps118
    go_wp2_with fail
    go_quiet (fail)
    have bf := drew_kd (Below.refl w.heap.size w) nq
    go_wp2_with fail
    go_ret3
    exact ⟨rfl, bf⟩
  · have g0 : decide (i < 0) = false := decide_eq_false h0
    have g1 : (s.size : Int) ≤ i := by omega
    clear h
    go_enter Tryz.func118, Tryz.ntmps118
    go_wp2_with fail
    go_quiet (fail)
    have bf := drew_kd (Below.refl w.heap.size w) nq
    go_wp2_with fail
    go_ret3
    exact ⟨rfl, bf⟩
theorem tail_bytes (s : ByteArray) (k : Nat) : (s.extract k s.size).data.toList = tailL s k := by
  rw [Lib.extract_data]
  exact List.take_of_length_le (by rw [List.length_drop, ← Lib.size_eq]; exact Nat.le_refl _)
theorem cut_hit {l : List UInt8} {i : Nat} (h : Lib.index l [59] = i) : Lib.cut l [59] = (l.take i, l.drop (i + 1), true) := by
  unfold Lib.cut
  rw [h, if_pos (by omega)]
  rfl
theorem cut_miss {l : List UInt8} (h : Lib.index l [59] = -1) : Lib.cut l [59] = (l, [], false) := by
  unfold Lib.cut
  rw [h, if_neg (by omega)]

set_option maxHeartbeats 4000000 in
theorem refAt_in (s : ByteArray) (k : Nat) (a : Addr) (w : World) (hk : k < s.size) (h38 : s[k]'hk = 38) (hs : s.size ≤ 1073741824) (hE : ErrA a w) (hM : MaxLen w) :
    Calls Tryz.prog 118 #[.string s, .int .i64 (k : Int)] w fun e w' => e = .returned (prefV a k (xrefR s k)) ∧ Below w.heap.size w w' := by
  have HR : Hid (xrefR s k = (refP (tailL s (k + 1))).map fun r => (putS r.1, k + 2 + r.2)) := refP_eq hk h38
  have g38 : (((s[k]'hk).toNat : Int) == 38) = true := by rw [h38]; rfl
  have g38' : (((s[k]'hk).toNat : Int) != 38) = false := by rw [bne, g38]; rfl
  have hlt := tailL_length s (k + 1)
  have q1 : IntKind.i64.wrap ((k : Int) + 1) = (k : Int) + 1 := IntWalk.i64_in _ (by omega)
  have q2 : ((k : Int) + 1).toNat = k + 1 := by omega
  have q3 : (0 : Int) ≤ (k : Int) + 1 := by omega
  have q4 : (k : Int) + 1 ≤ (s.size : Int) := by omega
  have HE : Hid (ErrA a w) := hE
  obtain ⟨m, hm⟩ := hM
  have HC := Tryz.strings_Cut (s.extract (k + 1) s.size) ⟨#[59]⟩ m w (by rw [ByteArray.size_extract]; omega) hm
  rw [tail_bytes, show (⟨#[59]⟩ : ByteArray).data.toList = [59] from rfl] at HC
  clear h38 hE hm
  rcases Lib.index_spec (tailL s (k + 1)) [59] with ⟨h1, _⟩ | ⟨i, h1, h2, _, _⟩
  · have Hn : Hid (xrefR s k = none) := by
      show _ = _
      rw [HR.out]
      unfold refP
      rw [if_neg (by omega)]
      rfl
    rw [cut_miss h1] at HC
    have HS := implRefSign (tailL s (k + 1)) a
    rw [show strB (tailL s (k + 1)) = (⟨(tailL s (k + 1)).toArray⟩ : ByteArray) from rfl] at HS
    clear HR h1
    generalize (⟨(tailL s (k + 1)).toArray⟩ : ByteArray) = nm at *
    generalize refSignL (tailL s (k + 1)) = R at *
    go_enter Tryz.func118, Tryz.ntmps118
    go_wp2_with fail
    refine HC.mono ?_
    rintro e w1 ⟨rfl, n, hw1⟩
    have b1 : Below w.heap.size w w1 := hw1 ▸ drew_kd (Below.refl _ _) n
    clear hw1 HC
    have HE1 := HE.out.below b1
    go_wp2_with fail
    refine (HS w1 (by omega) HE1).mono ?_
    rintro e w2 ⟨rfl, b2⟩
    have b3 := below_from b1 b2
    have hv2 : w2.cell? ⟨0, 0, none⟩ = some (errV a) := HE.out.below b3
    cases R with
    | none =>
      rw [show pnumV a none = .tuple #[.int .i64 0, errV a] from rfl]
      go_wp2_with fail
      go_quiet (fail)
      have bf := drew_kd b3 nq
      go_wp2_with fail
      go_ret3
      exact ⟨ret_pref0 Hn.out, bf⟩
    | some z =>
      rw [show pnumV a (some z) = .tuple #[.int .i64 z, .nilIface] from rfl]
      go_wp2_with fail
      go_quiet (fail)
      have bf := drew_kd b3 nq
      go_wp2_with fail
      go_ret3
      exact ⟨ret_pref0 Hn.out, bf⟩
  · have hil : i < (tailL s (k + 1)).length := by
      have := Lib.index_room (tailL s (k + 1)) [59] (by omega)
      rw [h1] at this
      simp at this
      omega
    have HR2 : Hid (xrefR s k = (refSignL ((tailL s (k + 1)).take i)).map fun z => (putS z, k + 2 + i)) := by
      show _ = _
      rw [HR.out]
      unfold refP
      rw [h1, if_pos (by omega), show ((i : Nat) : Int).toNat = i from rfl, Option.map_map]
      rfl
    rw [cut_hit h1] at HC
    have htl : ((tailL s (k + 1)).take i).length = i := by rw [List.length_take]; omega
    have HS := implRefSign ((tailL s (k + 1)).take i) a
    have hsz : (strB ((tailL s (k + 1)).take i)).size = i := by rw [strB_size, htl]
    rw [show strB ((tailL s (k + 1)).take i) = (⟨((tailL s (k + 1)).take i).toArray⟩ : ByteArray) from rfl] at HS hsz
    clear HR h1
    generalize (⟨((tailL s (k + 1)).take i).toArray⟩ : ByteArray) = nm at *
    generalize (⟨((tailL s (k + 1)).drop (i + 1)).toArray⟩ : ByteArray) = rs at *
    rw [htl] at HS
    generalize refSignL ((tailL s (k + 1)).take i) = R at *
    have Hsz : Hid (nm.size = i) := hsz
    clear hsz htl h2
    have q5 : IntKind.i64.wrap ((k : Int) + 1 + (nm.size : Int)) = (k : Int) + 1 + (nm.size : Int) := IntWalk.i64_in _ (by have := Hsz.out; omega)
    have q6 : IntKind.i64.wrap ((k : Int) + 1 + (nm.size : Int) + 1) = (k : Int) + 1 + (nm.size : Int) + 1 := IntWalk.i64_in _ (by have := Hsz.out; omega)
    have Hj : Hid (((k + 2 + i : Nat) : Int) = (k : Int) + 1 + (nm.size : Int) + 1) := by show _ = _; have := Hsz.out; omega
    go_enter Tryz.func118, Tryz.ntmps118
    go_wp2_with fail
    refine HC.mono ?_
    rintro e w1 ⟨rfl, n, hw1⟩
    have b1 : Below w.heap.size w w1 := hw1 ▸ drew_kd (Below.refl _ _) n
    clear hw1 HC
    have HE1 := HE.out.below b1
    go_wp2_with fail
    refine (HS w1 (by omega) HE1).mono ?_
    rintro e w2 ⟨rfl, b2⟩
    have b3 := below_from b1 b2
    have hv2 : w2.cell? ⟨0, 0, none⟩ = some (errV a) := HE.out.below b3
    cases R with
    | none =>
      have Hn : Hid (xrefR s k = none) := HR2.out
      rw [show pnumV a none = .tuple #[.int .i64 0, errV a] from rfl]
      go_wp2_with fail
      go_quiet (fail)
      have bf := drew_kd b3 nq
      go_wp2_with fail
      go_ret3
      exact ⟨ret_pref0 Hn.out, bf⟩
    | some z =>
      have Hn : Hid (xrefR s k = some (putS z, k + 2 + i)) := HR2.out
      have HP := implPutSign z
      generalize putS z = P at *
      rw [show pnumV a (some z) = .tuple #[.int .i64 z, .nilIface] from rfl]
      go_wp2_with fail
      refine (HP _).mono ?_
      rintro e w3 ⟨rfl, rfl⟩
      go_wp2_with fail
      go_ret3
      exact ⟨ret_pref Hn.out (by rw [Hj.out]; rfl), b3⟩

end Go.Proofs.YtkngdlbedelgnaaGreatDoor.Sg

namespace Go.Proofs.YtkngdlbedelgnaaGreatDoor.Sg
open Go.ChangeShapes Go.WideShapes Go.ChangeAt Go.RowKit

/-- What the world holds, and how long the library's own number is. -/
def PcX (a : Addr) (w : World) : Prop := PcT a w ∧ MaxLen w
theorem PcX.below {a : Addr} {w w' : World} (h : PcX a w) (hb : Below w.heap.size w w') : PcX a w' := ⟨h.1.below hb, h.2.below hb⟩

/-- A text's sign, as it is or as a reference: its bytes, and the place behind it. -/
def tsO (s : ByteArray) (k : Nat) (h : k < s.size) : Option (ByteArray × Nat) := if s[k]'h = 38 then xrefR s k else if psignB s k then some (s.extract k (k + (getS s k).2), k + (getS s k).2) else none

set_option maxHeartbeats 4000000 in
theorem implTextSign (s : ByteArray) (k : Nat) (a : Addr) (w : World) (hk : k < s.size) (hs : s.size ≤ 1073741824) (hX : PcX a w) :
    Calls Tryz.prog 101 #[.string s, .int .i64 (k : Int)] w fun e w' => e = .returned (prefV a k (tsO s k hk)) ∧ Below w.heap.size w w' := by
  have HX : Hid (PcX a w) := hX
  clear hX
  by_cases h38 : s[k]'hk = 38
  · have g38 : (((s[k]'hk).toNat : Int) == 38) = true := by rw [h38]; rfl
    have Ho : Hid (tsO s k hk = xrefR s k) := if_pos h38
    have HC := refAt_in s k a w hk h38 hs HX.out.1.2 HX.out.2
    clear h38
    generalize xrefR s k = R at *
    go_enter Tryz.func101, Tryz.ntmps101
    go_wp2_with fail
    refine HC.mono ?_
    rintro e w1 ⟨rfl, b1⟩
    cases R with
    | none =>
      rw [show prefV a k none = .tuple #[.string ⟨#[]⟩, .int .i64 k, errV a] from rfl]
      go_wp2_with fail
      go_ret3
      exact ⟨ret_pref0 Ho.out, b1⟩
    | some r =>
      obtain ⟨t, j⟩ := r
      rw [show prefV a k (some (t, j)) = .tuple #[.string t, .int .i64 (j : Int), .nilIface] from rfl]
      go_wp2_with fail
      go_ret3
      exact ⟨ret_pref Ho.out rfl, b1⟩
  · have g38 : (((s[k]'hk).toNat : Int) == 38) = false := by
      rw [beq_eq_false_iff_ne]
      intro h
      exact h38 (UInt8.toNat_inj.1 (show (s[k]'hk).toNat = 38 by omega))
    have Ho : Hid (tsO s k hk = if psignB s k then some (s.extract k (k + (getS s k).2), k + (getS s k).2) else none) := if_neg h38
    have Hp : Hid (psignB s k = (textB ((getS s k).1 : Int) && (decide ((getS s k).1 ≠ 13) && (decide ((getS s k).1 ≠ 60) && asRead s k)))) := rfl
    clear h38
    cases hr : asRead s k
    · have HG := signAt_no s k a w hk (by omega) HX.out.1 hr
      have Hn : Hid (tsO s k hk = none) := by show _ = _; rw [Ho.out, Hp.out, hr]; simp
      clear hr Hp Ho
      go_enter Tryz.func101, Tryz.ntmps101
      go_wp2_with fail
      refine HG.mono ?_
      rintro e w1 ⟨rfl, b1⟩
      have hv1 : w1.cell? ⟨0, 0, none⟩ = some (errV a) := HX.out.1.2.below b1
      clear HG
      go_wp2_with fail
      go_quiet (fail)
      have bf := drew_kd b1 nq
      go_wp2_with fail
      go_ret3
      exact ⟨ret_pref0 Hn.out, bf⟩
    · have HG := signAt_yes s k a w hk (by omega) HX.out.1 hr
      have hm := getS_many s k hk
      rw [hr] at Hp
      clear hr
      have HI := implIsText ((getS s k).1 : Int)
      generalize psignB s k = ps at *
      generalize (getS s k).1 = n at *
      generalize (getS s k).2 = m at *
      cases ht : textB (n : Int)
      · have Hn : Hid (tsO s k hk = none) := by show _ = _; rw [Ho.out, Hp.out, ht]; simp
        rw [ht] at HI
        clear ht Hp Ho
        go_enter Tryz.func101, Tryz.ntmps101
        go_wp2_with fail
        refine HG.mono ?_
        rintro e w1 ⟨rfl, b1⟩
        have hv1 : w1.cell? ⟨0, 0, none⟩ = some (errV a) := HX.out.1.2.below b1
        clear HG
        go_wp2_with fail
        refine (HI _).mono ?_
        rintro e w2 ⟨rfl, rfl⟩
        clear HI
        go_wp2_with fail
        go_quiet (fail)
        have bf := drew_kd b1 nq
        go_wp2_with fail
        go_ret3
        exact ⟨ret_pref0 Hn.out, bf⟩
      · rw [ht] at HI Hp
        clear ht
        by_cases h13 : n = 13
        · have Hn : Hid (tsO s k hk = none) := by show _ = _; rw [Ho.out, Hp.out, h13]; simp
          have g13 : ((n : Int) == 13) = true := by rw [h13]; rfl
          clear h13 Hp Ho
          go_enter Tryz.func101, Tryz.ntmps101
          go_wp2_with fail
          refine HG.mono ?_
          rintro e w1 ⟨rfl, b1⟩
          have hv1 : w1.cell? ⟨0, 0, none⟩ = some (errV a) := HX.out.1.2.below b1
          clear HG
          go_wp2_with fail
          refine (HI _).mono ?_
          rintro e w2 ⟨rfl, rfl⟩
          clear HI
          go_wp2_with fail
          go_quiet (fail)
          have bf := drew_kd b1 nq
          go_wp2_with fail
          go_ret3
          exact ⟨ret_pref0 Hn.out, bf⟩
        · have g13 : ((n : Int) == 13) = false := by rw [beq_eq_false_iff_ne]; omega
          by_cases h60 : n = 60
          · have Hn : Hid (tsO s k hk = none) := by show _ = _; rw [Ho.out, Hp.out, h60]; simp
            have g60 : ((n : Int) == 60) = true := by rw [h60]; rfl
            clear h60 h13 Hp Ho
            go_enter Tryz.func101, Tryz.ntmps101
            go_wp2_with fail
            refine HG.mono ?_
            rintro e w1 ⟨rfl, b1⟩
            have hv1 : w1.cell? ⟨0, 0, none⟩ = some (errV a) := HX.out.1.2.below b1
            clear HG
            go_wp2_with fail
            refine (HI _).mono ?_
            rintro e w2 ⟨rfl, rfl⟩
            clear HI
            go_wp2_with fail
            go_quiet (fail)
            have bf := drew_kd b1 nq
            go_wp2_with fail
            go_ret3
            exact ⟨ret_pref0 Hn.out, bf⟩
          · have g60 : ((n : Int) == 60) = false := by rw [beq_eq_false_iff_ne]; omega
            have Hn : Hid (tsO s k hk = some (s.extract k (k + m), k + m)) := by show _ = _; rw [Ho.out, Hp.out]; simp [h13, h60]
            have q1 : (k : Int) ≤ (k : Int) + (m : Int) := by omega
            have q2 : (k : Int) + (m : Int) ≤ (s.size : Int) := by omega
            have q3 : ((k : Int) + (m : Int)).toNat = k + m := by omega
            clear h60 h13 Hp Ho
            go_enter Tryz.func101, Tryz.ntmps101
            go_wp2_with fail
            refine HG.mono ?_
            rintro e w1 ⟨rfl, b1⟩
            clear HG
            go_wp2_with fail
            refine (HI _).mono ?_
            rintro e w2 ⟨rfl, rfl⟩
            clear HI
            go_wp2_with fail
            go_ret3
            exact ⟨ret_pref Hn.out (by rfl), b1⟩

end Go.Proofs.YtkngdlbedelgnaaGreatDoor.Sg
