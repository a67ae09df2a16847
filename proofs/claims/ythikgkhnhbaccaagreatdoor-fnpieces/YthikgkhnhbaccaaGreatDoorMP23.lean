/- Contract of the model's references by number. Contracts of the program's digitOf, withEnd and numberAt. The program's strictNumber and refSign. -/
import Derived.Test.YthikgkhnhbaccaaGreatDoorMP05
import Derived.Deep.Cut
import Derived.Deep.CutRange
import Derived.Test.YthikgkhnhbaccaaGreatDoorMP06
import Derived.Test.YthikgkhnhbaccaaGreatDoorPcRef
import Derived.Test.YthikgkhnhbaccaaGreatDoorMP04
import Derived.Test.YthikgkhnhbaccaaGreatDoorShelf
namespace Go.Proofs.YthikgkhnhbaccaaGreatDoor.Sg
open Go.ChangeShapes Go.WideShapes Go.ChangeAt Go.RowKit

/-- What a reference tells, as a call hands it back. -/
def refV : Option (Int × Nat) → Value
  | none => .tuple #[.string ⟨#[]⟩, .int .i64 0]
  | some (z, m) => .tuple #[.string (putS z), .int .i64 ((m : Int) + 1)]

theorem ret_ref {x y : ByteArray} {a b : Int} (h : x = y) (h2 : a = b) : Ending.returned (.tuple #[.string x, .int .i64 a]) = .returned (.tuple #[.string y, .int .i64 b]) := by rw [h, h2]

theorem numG_yes (base n m : Nat) (b : UInt8) (l : List UInt8) (h : digV b.toNat < base) : numG base n m (b :: l) = numG base (min (n * base + digV b.toNat) 1114112) (m + 1) l := by
  rw [numG, if_pos h]
theorem numG_no (base n m : Nat) (b : UInt8) (l : List UInt8) (h : ¬ digV b.toNat < base) : numG base n m (b :: l) = (n, m) := by
  rw [numG, if_neg h]

theorem numR_none {l : List UInt8} (h : l.head? = some 35) {n : Nat} (hn : numG (baseG l) 0 0 (l.drop (headG l)) = (n, 0)) : numR l = none := by
  unfold numR
  rw [if_pos h, hn]
  rfl
theorem numR_some {l : List UInt8} (h : l.head? = some 35) {n m : Nat} (hn : numG (baseG l) 0 0 (l.drop (headG l)) = (n, m)) (hm : m ≠ 0) : numR l = some (numB (n : Int), endG l (headG l + m)) := by
  unfold numR
  rw [if_pos h, hn]
  simp [hm]

theorem endG_yes {l : List UInt8} {m : Nat} (h : (l.drop m).head? = some 59) : endG l m = m + 1 := if_pos h
theorem endG_no {l : List UInt8} {m : Nat} (h : (l.drop m).head? ≠ some 59) : endG l m = m := if_neg h

theorem hexG_at (s : ByteArray) (i : Nat) (h : i + 1 < s.size) (h2 : i + 2 < s.size) : hexG (tailL s (i + 1)) = (decide ((s[i + 2]'h2).toNat = 120) || decide ((s[i + 2]'h2).toNat = 88)) := by
  rw [tailL_step s (i + 1) h, tailL_step s (i + 1 + 1) h2]
  show ((s[i + 2]'h2) == 120 || (s[i + 2]'h2) == 88) = _
  have e (b : UInt8) (c : Nat) (hc : c < 256) : (b == UInt8.ofNat c) = decide (b.toNat = c) := by
    by_cases hb : b.toNat = c
    · rw [decide_eq_true hb]
      simp only [beq_iff_eq]
      apply UInt8.toNat_inj.1
      rw [hb, UInt8.toNat_ofNat']
      exact (Nat.mod_eq_of_lt hc).symm
    · rw [decide_eq_false hb]
      simp only [beq_eq_false_iff_ne]
      intro e
      apply hb
      rw [e, UInt8.toNat_ofNat']
      exact Nat.mod_eq_of_lt hc
  rw [show (120 : UInt8) = UInt8.ofNat 120 from rfl, show (88 : UInt8) = UInt8.ofNat 88 from rfl, e _ 120 (by decide), e _ 88 (by decide)]
theorem hexG_end (s : ByteArray) (i : Nat) (h : i + 1 < s.size) (h2 : ¬ i + 2 < s.size) : hexG (tailL s (i + 1)) = false := by
  rw [tailL_step s (i + 1) h, tailL_end s (i + 1 + 1) h2]
  rfl

theorem dig3_pos {hex : Bool} {base b : Nat} (hb : base = if hex then 16 else 10) (h : digV b < base) : dig3 hex b = (digV b : Int) := by
  unfold dig3
  rw [if_pos (hb ▸ h)]
theorem dig3_neg {hex : Bool} {base b : Nat} (hb : base = if hex then 16 else 10) (h : ¬ digV b < base) : dig3 hex b = -1 := by
  unfold dig3
  rw [if_neg (hb ▸ h)]

end Go.Proofs.YthikgkhnhbaccaaGreatDoor.Sg

namespace Go.Proofs.YthikgkhnhbaccaaGreatDoor.Sg
open Go.ChangeShapes Go.WideShapes Go.ChangeAt Go.RowKit

set_option maxHeartbeats 2000000 in
theorem implDigitOf (b : Nat) (w : World) (hb : b < 256) :
    Calls Tryz.prog 121 #[.int .u8 (b : Int)] w fun e w' => e = .returned (.int .i64 (digV b : Int)) ∧ w' = w := by
  rcases seven b with h | h | h | h | h | h | h
  case inr.inl =>
    have Hn : Hid ((digV b : Int) = (b : Int) - 48) := by show _ = _; rcases digV_cases b with h | h | h | h <;> omega
    obtain ⟨h1, h2⟩ := h
    go_enter Tryz.func121, Tryz.ntmps121
    go_wp2
    go_ret
    exact ⟨ret_i64 (Eq.trans (by omega) Hn.out.symm), rfl⟩
  case inr.inr.inr.inl =>
    have Hn : Hid ((digV b : Int) = (b : Int) - 55) := by show _ = _; rcases digV_cases b with h | h | h | h <;> omega
    obtain ⟨h1, h2⟩ := h
    go_enter Tryz.func121, Tryz.ntmps121
    go_wp2
    go_ret
    exact ⟨ret_i64 (Eq.trans (by omega) Hn.out.symm), rfl⟩
  case inr.inr.inr.inr.inr.inl =>
    have Hn : Hid ((digV b : Int) = (b : Int) - 87) := by show _ = _; rcases digV_cases b with h | h | h | h <;> omega
    obtain ⟨h1, h2⟩ := h
    go_enter Tryz.func121, Tryz.ntmps121
    go_wp2
    go_ret
    exact ⟨ret_i64 (Eq.trans (by omega) Hn.out.symm), rfl⟩
  all_goals
    have Hn : Hid ((digV b : Int) = 16) := by show _ = _; rcases digV_cases b with h | h | h | h <;> omega
    go_enter Tryz.func121, Tryz.ntmps121
    go_wp2
    all_goals (go_ret; exact ⟨ret_i64 Hn.out.symm, rfl⟩)

theorem ret_two {a b c d : Int} (h : a = c) (h2 : b = d) : Ending.returned (.tuple #[.int .i64 a, .int .i64 b]) = .returned (.tuple #[.int .i64 c, .int .i64 d]) := by rw [h, h2]

set_option maxHeartbeats 2000000 in
theorem implNumberAt (s : ByteArray) (bs : Nat) (w : World) (hbs : bs = 10 ∨ bs = 16) (hs : s.size ≤ 17592186044416) :
    Calls Tryz.prog 113 #[.string s, .int .i64 (bs : Int)] w fun e w' => e = .returned (.tuple #[.int .i64 ((numG bs 0 0 s.data.toList).1 : Int), .int .i64 ((numG bs 0 0 s.data.toList).2 : Int)]) ∧ w' = w := by
  have Hb : Hid (bs = 10 ∨ bs = 16) := hbs
  clear hbs
  go_enter Tryz.func113, Tryz.ntmps113
  go_wp2
  go_loopw [6, 7] (fun nv kv wr => ∃ n m : Nat, m ≤ s.size ∧ n ≤ 1114112 ∧ nv = .int .i64 (n : Int) ∧ kv = .int .i64 (m : Int) ∧ Hid (numG bs 0 0 s.data.toList = numG bs n m (tailL s m)) ∧ wr = w) (fun _ kv _ => s.size - (intOf kv).toNat)
  case atStart => exact ⟨0, 0, by omega, by omega, rfl, rfl, rfl, rfl⟩
  case round =>
    obtain ⟨n, m, hm, hn, rfl, rfl, Hacc, rfl⟩ := hrel
    by_cases hlt : m < s.size
    · have hst := tailL_step s m hlt
      have Hv := fun w : World => implDigitOf (s[m]'hlt).toNat w (UInt8.toNat_lt _)
      have hd16 := digV_le (s[m]'hlt).toNat
      by_cases hdg : digV (s[m]'hlt).toNat < bs
      · have Hn : Hid (numG bs 0 0 s.data.toList = numG bs (min (n * bs + digV (s[m]'hlt).toNat) 1114112) (m + 1) (tailL s (m + 1))) := by
          show _ = _
          rw [Hacc.out, hst, numG_yes _ _ _ _ _ hdg]
        generalize digV (s[m]'hlt).toNat = dv at *
        have Hg : Hid (dv < bs) := hdg
        clear hst hdg Hacc
        rcases Hb.out with rfl | rfl
        · have g1 : (dv : Int) < 10 := by have := Hg.out; omega
          clear Hb Hg
          by_cases hq : (1114112 : Int) < (n : Int) * 10 + (dv : Int)
          · have Hmin : Hid (((min (n * 10 + dv) 1114112 : Nat) : Int) = 1114112) := by show _ = _; omega
            go_wp2_with fail
            refine (Hv _).mono ?_
            rintro e w1 ⟨rfl, rfl⟩
            go_wp2_with fail
            refine (Hv _).mono ?_
            rintro e w1 ⟨rfl, rfl⟩
            go_wp2
            go_roundw
            case rel =>
              (repeat apply Exists.intro)
              refine ⟨⟨min (n * 10 + dv) 1114112, m + 1, by omega, by omega, by rw [Hmin.out], by go_num, Hn, ?_⟩, rfl⟩
              first | rfl | trivial
            case measure => simp [intOf]; omega
          · have Hmin : Hid (((min (n * 10 + dv) 1114112 : Nat) : Int) = (n : Int) * 10 + (dv : Int)) := by show _ = _; omega
            have q2 : decide ((1114112 : Int) < (n : Int) * 10 + (dv : Int)) = false := decide_eq_false hq
            go_wp2_with fail
            refine (Hv _).mono ?_
            rintro e w1 ⟨rfl, rfl⟩
            go_wp2_with fail
            refine (Hv _).mono ?_
            rintro e w1 ⟨rfl, rfl⟩
            go_wp2
            go_roundw
            case rel =>
              (repeat apply Exists.intro)
              refine ⟨⟨min (n * 10 + dv) 1114112, m + 1, by omega, by omega, by rw [Hmin.out], by go_num, Hn, ?_⟩, rfl⟩
              first | rfl | trivial
            case measure => simp [intOf]; omega
        · have g1 : (dv : Int) < 16 := by have := Hg.out; omega
          clear Hb Hg
          by_cases hq : (1114112 : Int) < (n : Int) * 16 + (dv : Int)
          · have Hmin : Hid (((min (n * 16 + dv) 1114112 : Nat) : Int) = 1114112) := by show _ = _; omega
            go_wp2_with fail
            refine (Hv _).mono ?_
            rintro e w1 ⟨rfl, rfl⟩
            go_wp2_with fail
            refine (Hv _).mono ?_
            rintro e w1 ⟨rfl, rfl⟩
            go_wp2
            go_roundw
            case rel =>
              (repeat apply Exists.intro)
              refine ⟨⟨min (n * 16 + dv) 1114112, m + 1, by omega, by omega, by rw [Hmin.out], by go_num, Hn, ?_⟩, rfl⟩
              first | rfl | trivial
            case measure => simp [intOf]; omega
          · have Hmin : Hid (((min (n * 16 + dv) 1114112 : Nat) : Int) = (n : Int) * 16 + (dv : Int)) := by show _ = _; omega
            have q2 : decide ((1114112 : Int) < (n : Int) * 16 + (dv : Int)) = false := decide_eq_false hq
            go_wp2_with fail
            refine (Hv _).mono ?_
            rintro e w1 ⟨rfl, rfl⟩
            go_wp2_with fail
            refine (Hv _).mono ?_
            rintro e w1 ⟨rfl, rfl⟩
            go_wp2
            go_roundw
            case rel =>
              (repeat apply Exists.intro)
              refine ⟨⟨min (n * 16 + dv) 1114112, m + 1, by omega, by omega, by rw [Hmin.out], by go_num, Hn, ?_⟩, rfl⟩
              first | rfl | trivial
            case measure => simp [intOf]; omega
      · have Hn : Hid (numG bs 0 0 s.data.toList = (n, m)) := by
          show _ = _
          rw [Hacc.out, hst, numG_no _ _ _ _ _ hdg]
        generalize digV (s[m]'hlt).toNat = dv at *
        have g1 : decide ((dv : Int) < (bs : Int)) = false := decide_eq_false (by omega)
        have g2 : ¬ dv < bs := hdg
        clear hst hdg Hacc
        go_wp2_with fail
        refine (Hv _).mono ?_
        rintro e w1 ⟨rfl, rfl⟩
        go_wp2
        go_ret2
        exact ⟨ret_two (by rw [Hn.out]) (by rw [Hn.out]), rfl⟩
    · have Hn : Hid (numG bs 0 0 s.data.toList = (n, m)) := by
        show _ = _
        rw [Hacc.out, tailL_end s m hlt]
        rfl
      have g1 : decide ((m : Int) < (s.size : Int)) = false := decide_eq_false (by omega)
      clear Hacc
      go_wp2
      go_ret2
      exact ⟨ret_two (by rw [Hn.out]) (by rw [Hn.out]), rfl⟩

end Go.Proofs.YthikgkhnhbaccaaGreatDoor.Sg

namespace Go.Proofs.YthikgkhnhbaccaaGreatDoor.Sg
open Go.ChangeShapes Go.WideShapes Go.ChangeAt Go.RowKit

/-- A sign and no error, or an error. -/
def pnumV (a : Addr) : Option Int → Value
  | some z => .tuple #[.int .i64 z, .nilIface]
  | none => .tuple #[.int .i64 0, errV a]
theorem ret_pnum {a : Addr} {o : Option Int} {z : Int} (h : o = some z) : Ending.returned (.tuple #[.int .i64 z, .nilIface]) = .returned (pnumV a o) := by rw [h]; rfl
theorem ret_pnum0 {a : Addr} {o : Option Int} (h : o = none) : Ending.returned (.tuple #[.int .i64 0, errV a]) = .returned (pnumV a o) := by rw [h]; rfl
theorem zero_prefix (d : List UInt8) : Lib.hasPrefix d [48] = decide (d.head? = some 48) := by
  unfold Lib.hasPrefix
  cases d with
  | nil => rfl
  | cons b d =>
    show ((48 : UInt8) == b && true) = _
    rw [Bool.and_true]
    by_cases h : b = 48
    · subst h
      rfl
    · have h2 : ((48 : UInt8) == b) = false := beq_false_of_ne (Ne.symm h)
      rw [h2]
      simp [h]

set_option maxHeartbeats 2000000 in
theorem implStrictNumber (s : ByteArray) (a : Addr) (w : World) (hs : s.size ≤ 1073741824) (hE : ErrA a w) :
    Calls Tryz.prog 99 #[.string s] w fun e w' => e = .returned (pnumV a (numL s.data.toList)) ∧ Below w.heap.size w w' := by
  have HN := fun W => implNumberAt s 10 W (.inl rfl) (by omega)
  have HP : ∀ W, Calls Tryz.prog 83 #[.string s, .string ⟨#[48]⟩] W fun e w' => e = .returned (.bool (Lib.hasPrefix s.data.toList [48])) ∧ w' = W := fun W => Tryz.strings_HasPrefix s ⟨#[48]⟩ W
  rw [zero_prefix] at HP
  have hlen : s.data.toList.length = s.size := Array.length_toList
  have hle := numG_le 10 0 0 s.data.toList
  have HL : Hid (numL s.data.toList = if (numG 10 0 0 s.data.toList).2 = s.data.toList.length ∧ s.data.toList.length ≤ 7 ∧ s.data.toList.head? ≠ some 48 ∧ textB ((numG 10 0 0 s.data.toList).1 : Int) = true then some ((numG 10 0 0 s.data.toList).1 : Int) else none) := rfl
  rw [hlen] at HL hle
  have HI := implIsText ((numG 10 0 0 s.data.toList).1 : Int)
  have hv : w.cell? ⟨0, 0, none⟩ = some (errV a) := hE
  clear hE hlen
  generalize (numG 10 0 0 s.data.toList).1 = n at *
  generalize (numG 10 0 0 s.data.toList).2 = m at *
  generalize s.data.toList.head? = hd at *
  generalize numL s.data.toList = R at *
  go_enter Tryz.func99, Tryz.ntmps99
  go_wp2_with fail
  refine (HN _).mono ?_
  rintro e w1 ⟨rfl, rfl⟩
  clear HN
  by_cases h1 : m < s.size
  · have Hn : Hid (R = none) := by show _ = _; rw [HL.out, if_neg (by rintro ⟨h, _⟩; omega)]
    have g1 : (m : Int) < (s.size : Int) := by omega
    clear HL HP HI h1
    go_wp2_with fail
    go_quiet (fail)
    have bf := drew_kd (Below.refl w1.heap.size w1) nq
    go_wp2_with fail
    go_ret2
    exact ⟨ret_pnum0 Hn.out, bf⟩
  have g1 : decide ((m : Int) < (s.size : Int)) = false := decide_eq_false (by omega)
  have g1' : ¬ m < s.size := h1
  by_cases h2 : 7 < m
  · have Hn : Hid (R = none) := by show _ = _; rw [HL.out, if_neg (by rintro ⟨h, h3, _⟩; omega)]
    have g2 : (7 : Int) < (m : Int) := by omega
    clear HL HP HI h1
    go_wp2_with fail
    go_quiet (fail)
    have bf := drew_kd (Below.refl w1.heap.size w1) nq
    go_wp2_with fail
    go_ret2
    exact ⟨ret_pnum0 Hn.out, bf⟩
  have g2 : decide ((7 : Int) < (m : Int)) = false := decide_eq_false (by omega)
  have g2' : ¬ 7 < m := h2
  by_cases h3 : hd = some 48
  · have Hn : Hid (R = none) := by show _ = _; rw [HL.out, if_neg (fun h => h.2.2.1 h3)]
    rw [decide_eq_true h3] at HP
    clear HL HI h1 h2 h3
    go_wp2_with fail
    refine (HP _).mono ?_
    rintro e w2 ⟨rfl, rfl⟩
    clear HP
    go_wp2_with fail
    go_quiet (fail)
    have bf := drew_kd (Below.refl w2.heap.size w2) nq
    go_wp2_with fail
    go_ret2
    exact ⟨ret_pnum0 Hn.out, bf⟩
  rw [decide_eq_false h3] at HP
  cases h4 : textB (n : Int)
  · have Hn : Hid (R = none) := by show _ = _; rw [HL.out, if_neg (fun h => by rw [h4] at h; cases h.2.2.2)]
    rw [h4] at HI
    clear HL h1 h2 h3 h4
    go_wp2_with fail
    refine (HP _).mono ?_
    rintro e w2 ⟨rfl, rfl⟩
    clear HP
    go_wp2_with fail
    refine (HI _).mono ?_
    rintro e w3 ⟨rfl, rfl⟩
    clear HI
    go_wp2_with fail
    go_quiet (fail)
    have bf := drew_kd (Below.refl w3.heap.size w3) nq
    go_wp2_with fail
    go_ret2
    exact ⟨ret_pnum0 Hn.out, bf⟩
  · have Hn : Hid (R = some (n : Int)) := by show _ = _; rw [HL.out, if_pos ⟨by omega, by omega, h3, h4⟩]
    rw [h4] at HI
    clear HL h1 h2 h3 h4
    go_wp2_with fail
    refine (HP _).mono ?_
    rintro e w2 ⟨rfl, rfl⟩
    clear HP
    go_wp2_with fail
    refine (HI _).mono ?_
    rintro e w3 ⟨rfl, rfl⟩
    clear HI
    go_wp2_with fail
    go_ret2
    exact ⟨ret_pnum Hn.out, Below.refl _ _⟩

theorem ne_of_beq_false {x y : List UInt8} (h : (x == y) = false) : ¬ x = y := fun e => by rw [e] at h; simp at h
theorem hash_prefix (x : List UInt8) : Lib.hasPrefix x [35] = decide (x.head? = some 35) := by
  unfold Lib.hasPrefix
  cases x with
  | nil => rfl
  | cons b d =>
    show ((35 : UInt8) == b && true) = _
    rw [Bool.and_true]
    by_cases h : b = 35
    · subst h
      rfl
    · have h2 : ((35 : UInt8) == b) = false := beq_false_of_ne (Ne.symm h)
      rw [h2]
      simp [h]

set_option maxHeartbeats 4000000 in
theorem implRefSign (x : List UInt8) (a : Addr) (w : World) (hs : x.length ≤ 1073741824) (hE : ErrA a w) :
    Calls Tryz.prog 78 #[.string (strB x)] w fun e w' => e = .returned (pnumV a (refSignL x)) ∧ Below w.heap.size w w' := by
  have hv : w.cell? ⟨0, 0, none⟩ = some (errV a) := hE
  have HC : ∀ W, Calls Tryz.prog 85 #[.string (strB x), .string ⟨#[35]⟩] W fun e w' => e = .returned (.tuple #[.string (strB (Lib.trimPrefix x [35])), .bool (Lib.hasPrefix x [35])]) ∧ w' = W := fun W => Tryz.strings_CutPrefix (strB x) ⟨#[35]⟩ W
  have ht : (strB x).toList = x := by rw [ByteArray.toList_eq]; simp [strB]
  generalize hnm : strB x = nm at *
  have HE : Hid (ErrA a w) := hE
  clear hE
  go_enter Tryz.func78, Tryz.ntmps78
  go_wp2_with fail
  · rename_i h
    have hx := eq_of_beq h
    go_ret2
    exact ⟨ret_pnum (by rw [hx]; decide), Below.refl _ _⟩
  · rename_i h
    have hx := eq_of_beq h
    go_ret2
    exact ⟨ret_pnum (by rw [hx]; decide), Below.refl _ _⟩
  · rename_i h
    have hx := eq_of_beq h
    go_ret2
    exact ⟨ret_pnum (by rw [hx]; decide), Below.refl _ _⟩
  · rename_i h
    have hx := eq_of_beq h
    go_ret2
    exact ⟨ret_pnum (by rw [hx]; decide), Below.refl _ _⟩
  · rename_i h
    have hx := eq_of_beq h
    go_ret2
    exact ⟨ret_pnum (by rw [hx]; decide), Below.refl _ _⟩
  · have h1 : (x == [97, 109, 112]) = false := by assumption
    have h2 : (x == [108, 116]) = false := by assumption
    have h3 : (x == [103, 116]) = false := by assumption
    have h4 : (x == [113, 117, 111, 116]) = false := by assumption
    have h5 : (x == [97, 112, 111, 115]) = false := by assumption
    have hq : refSignL x = if x.head? = some 35 then numL x.tail else none := by
      unfold refSignL
      rw [if_neg (ne_of_beq_false h1), if_neg (ne_of_beq_false h2), if_neg (ne_of_beq_false h3), if_neg (ne_of_beq_false h4), if_neg (ne_of_beq_false h5)]
    have Hq : Hid (refSignL x = if x.head? = some 35 then numL x.tail else none) := hq
    rw [hash_prefix] at HC
    clear h1 h2 h3 h4 h5 hq ht
    by_cases hh : x.head? = some 35
    · have Hn : Hid (refSignL x = numL x.tail) := by show _ = _; rw [Hq.out, if_pos hh]
      have htr : Lib.trimPrefix x [35] = x.tail := by
        unfold Lib.trimPrefix
        rw [hash_prefix, decide_eq_true hh, if_pos rfl, List.drop_one.symm]
        rfl
      rw [htr, decide_eq_true hh] at HC
      have HS := fun W => implStrictNumber (strB x.tail) a W (by rw [strB_size, List.length_tail]; omega)
      rw [show (strB x.tail).data.toList = x.tail by simp [strB]] at HS
      clear hh htr Hq
      generalize strB x.tail = tl at *
      generalize numL x.tail = R at *
      refine (HC _).mono ?_
      rintro e w1 ⟨rfl, rfl⟩
      clear HC
      go_wp2_with fail
      refine (HS _ HE.out).mono ?_
      rintro e w2 ⟨rfl, b2⟩
      cases R with
      | none =>
        rw [show pnumV a none = .tuple #[.int .i64 0, errV a] from rfl]
        go_wp2_with fail
        go_ret2
        exact ⟨ret_pnum0 Hn.out, b2⟩
      | some z =>
        rw [show pnumV a (some z) = .tuple #[.int .i64 z, .nilIface] from rfl]
        go_wp2_with fail
        go_ret2
        exact ⟨ret_pnum Hn.out, b2⟩
    · have Hn : Hid (refSignL x = none) := by show _ = _; rw [Hq.out, if_neg hh]
      rw [decide_eq_false hh] at HC
      clear hh Hq
      generalize strB (Lib.trimPrefix x [35]) = tl at *
      refine (HC _).mono ?_
      rintro e w1 ⟨rfl, rfl⟩
      clear HC
      go_wp2_with fail
      go_quiet (fail)
      have bf := drew_kd (Below.refl w1.heap.size w1) nq
      go_wp2_with fail
      go_ret2
      exact ⟨ret_pnum0 Hn.out, bf⟩

end Go.Proofs.YthikgkhnhbaccaaGreatDoor.Sg
