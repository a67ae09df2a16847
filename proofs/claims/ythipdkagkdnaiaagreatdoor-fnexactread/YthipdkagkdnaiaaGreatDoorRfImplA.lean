/- Contracts of the program's digitOf, withEnd and numberAt. -/
import Derived.Test.YthipdkagkdnaiaaGreatDoorMRD05
namespace Go.Proofs.YthipdkagkdnaiaaGreatDoor.Sg
open Go.ChangeShapes Go.WideShapes Go.ChangeAt Go.RowKit

set_option maxHeartbeats 2000000 in
theorem implDigitOf (b : Nat) (w : World) (hb : b < 256) :
    Calls Tryz.prog 181 #[.int .u8 (b : Int)] w fun e w' => e = .returned (.int .i64 (digV b : Int)) ∧ w' = w := by
  rcases seven b with h | h | h | h | h | h | h
  case inr.inl =>
    have Hn : Hid ((digV b : Int) = (b : Int) - 48) := by show _ = _; rcases digV_cases b with h | h | h | h <;> omega
    obtain ⟨h1, h2⟩ := h
    go_enter Tryz.func181, Tryz.ntmps181
    go_wp2
    go_ret
    exact ⟨ret_i64 (Eq.trans (by omega) Hn.out.symm), rfl⟩
  case inr.inr.inr.inl =>
    have Hn : Hid ((digV b : Int) = (b : Int) - 55) := by show _ = _; rcases digV_cases b with h | h | h | h <;> omega
    obtain ⟨h1, h2⟩ := h
    go_enter Tryz.func181, Tryz.ntmps181
    go_wp2
    go_ret
    exact ⟨ret_i64 (Eq.trans (by omega) Hn.out.symm), rfl⟩
  case inr.inr.inr.inr.inr.inl =>
    have Hn : Hid ((digV b : Int) = (b : Int) - 87) := by show _ = _; rcases digV_cases b with h | h | h | h <;> omega
    obtain ⟨h1, h2⟩ := h
    go_enter Tryz.func181, Tryz.ntmps181
    go_wp2
    go_ret
    exact ⟨ret_i64 (Eq.trans (by omega) Hn.out.symm), rfl⟩
  all_goals
    have Hn : Hid ((digV b : Int) = 16) := by show _ = _; rcases digV_cases b with h | h | h | h <;> omega
    go_enter Tryz.func181, Tryz.ntmps181
    go_wp2
    all_goals (go_ret; exact ⟨ret_i64 Hn.out.symm, rfl⟩)

theorem ret_two {a b c d : Int} (h : a = c) (h2 : b = d) : Ending.returned (.tuple #[.int .i64 a, .int .i64 b]) = .returned (.tuple #[.int .i64 c, .int .i64 d]) := by rw [h, h2]

set_option maxHeartbeats 2000000 in
theorem implNumberAt (s : ByteArray) (bs : Nat) (w : World) (hbs : bs = 10 ∨ bs = 16) (hs : s.size ≤ 17592186044416) :
    Calls Tryz.prog 180 #[.string s, .int .i64 (bs : Int)] w fun e w' => e = .returned (.tuple #[.int .i64 ((numG bs 0 0 s.data.toList).1 : Int), .int .i64 ((numG bs 0 0 s.data.toList).2 : Int)]) ∧ w' = w := by
  have Hb : Hid (bs = 10 ∨ bs = 16) := hbs
  clear hbs
  go_enter Tryz.func180, Tryz.ntmps180
  go_wp2
  go_loopw [6, 7] (fun nv kv wr => ∃ n m : Nat, m ≤ s.size ∧ n ≤ 1114112 ∧ nv = .int .i64 (n : Int) ∧ kv = .int .i64 (m : Int) ∧ Hid (numG bs 0 0 s.data.toList = numG bs n m (tailL s m)) ∧ wr = w) (fun _ kv _ => s.size - (intOf kv).toNat)
  case atStart => exact ⟨0, 0, by omega, by omega, rfl, rfl, rfl, rfl⟩
  case round =>
    obtain ⟨n, m, hm, hn, rfl, rfl, Hacc, rfl⟩ := hrel
    by_cases hlt : m < s.size
    · have hst := tailL_step s m hlt
      have Hv := fun w : World => implDigitOf (s[m]'hlt).toNat w (UInt8.toNat_lt _)
      have hd16 := digV_le (s[m]'hlt).toNat
      by_cases hdg : digV (s[m]'hlt).toNat < bs
      · have Hn : Hid (numG bs 0 0 s.data.toList = numG bs (min (n * bs + digV (s[m]'hlt).toNat) 1114112) (m + 1) (tailL s (m + 1))) := by
          show _ = _
          rw [Hacc.out, hst, numG_yes _ _ _ _ _ hdg]
        generalize digV (s[m]'hlt).toNat = dv at *
        have Hg : Hid (dv < bs) := hdg
        clear hst hdg Hacc
        rcases Hb.out with rfl | rfl
        · have g1 : (dv : Int) < 10 := by have := Hg.out; omega
          clear Hb Hg
          by_cases hq : (1114112 : Int) < (n : Int) * 10 + (dv : Int)
          · have Hmin : Hid (((min (n * 10 + dv) 1114112 : Nat) : Int) = 1114112) := by show _ = _; omega
            go_wp2_with fail
            refine (Hv _).mono ?_
            rintro e w1 ⟨rfl, rfl⟩
            go_wp2_with fail
            refine (Hv _).mono ?_
            rintro e w1 ⟨rfl, rfl⟩
            go_wp2
            go_roundw
            case rel =>
              (repeat apply Exists.intro)
              refine ⟨⟨min (n * 10 + dv) 1114112, m + 1, by omega, by omega, by first | (rw [Hmin.out]; done) | (have h := Hmin.out; congr 1; omega), by go_num, Hn, ?_⟩, rfl⟩
              first | rfl | trivial
            case measure => simp [intOf]; omega
          · have Hmin : Hid (((min (n * 10 + dv) 1114112 : Nat) : Int) = (n : Int) * 10 + (dv : Int)) := by show _ = _; omega
            have q2 : decide ((1114112 : Int) < (n : Int) * 10 + (dv : Int)) = false := decide_eq_false hq
            go_wp2_with fail
            refine (Hv _).mono ?_
            rintro e w1 ⟨rfl, rfl⟩
            go_wp2_with fail
            refine (Hv _).mono ?_
            rintro e w1 ⟨rfl, rfl⟩
            go_wp2
            go_roundw
            case rel =>
              (repeat apply Exists.intro)
              refine ⟨⟨min (n * 10 + dv) 1114112, m + 1, by omega, by omega, by first | (rw [Hmin.out]; done) | (have h := Hmin.out; congr 1; omega), by go_num, Hn, ?_⟩, rfl⟩
              first | rfl | trivial
            case measure => simp [intOf]; omega
        · have g1 : (dv : Int) < 16 := by have := Hg.out; omega
          clear Hb Hg
          by_cases hq : (1114112 : Int) < (n : Int) * 16 + (dv : Int)
          · have Hmin : Hid (((min (n * 16 + dv) 1114112 : Nat) : Int) = 1114112) := by show _ = _; omega
            go_wp2_with fail
            refine (Hv _).mono ?_
            rintro e w1 ⟨rfl, rfl⟩
            go_wp2_with fail
            refine (Hv _).mono ?_
            rintro e w1 ⟨rfl, rfl⟩
            go_wp2
            go_roundw
            case rel =>
              (repeat apply Exists.intro)
              refine ⟨⟨min (n * 16 + dv) 1114112, m + 1, by omega, by omega, by first | (rw [Hmin.out]; done) | (have h := Hmin.out; congr 1; omega), by go_num, Hn, ?_⟩, rfl⟩
              first | rfl | trivial
            case measure => simp [intOf]; omega
          · have Hmin : Hid (((min (n * 16 + dv) 1114112 : Nat) : Int) = (n : Int) * 16 + (dv : Int)) := by show _ = _; omega
            have q2 : decide ((1114112 : Int) < (n : Int) * 16 + (dv : Int)) = false := decide_eq_false hq
            go_wp2_with fail
            refine (Hv _).mono ?_
            rintro e w1 ⟨rfl, rfl⟩
            go_wp2_with fail
            refine (Hv _).mono ?_
            rintro e w1 ⟨rfl, rfl⟩
            go_wp2
            go_roundw
            case rel =>
              (repeat apply Exists.intro)
              refine ⟨⟨min (n * 16 + dv) 1114112, m + 1, by omega, by omega, by first | (rw [Hmin.out]; done) | (have h := Hmin.out; congr 1; omega), by go_num, Hn, ?_⟩, rfl⟩
              first | rfl | trivial
            case measure => simp [intOf]; omega
      · have Hn : Hid (numG bs 0 0 s.data.toList = (n, m)) := by
          show _ = _
          rw [Hacc.out, hst, numG_no _ _ _ _ _ hdg]
        generalize digV (s[m]'hlt).toNat = dv at *
        have g1 : decide ((dv : Int) < (bs : Int)) = false := decide_eq_false (by omega)
        have g2 : ¬ dv < bs := hdg
        clear hst hdg Hacc
        go_wp2_with fail
        refine (Hv _).mono ?_
        rintro e w1 ⟨rfl, rfl⟩
        go_wp2
        go_ret2
        exact ⟨ret_two (by rw [Hn.out]) (by rw [Hn.out]), rfl⟩
    · have Hn : Hid (numG bs 0 0 s.data.toList = (n, m)) := by
        show _ = _
        rw [Hacc.out, tailL_end s m hlt]
        rfl
      have g1 : decide ((m : Int) < (s.size : Int)) = false := decide_eq_false (by omega)
      clear Hacc
      go_wp2
      go_ret2
      exact ⟨ret_two (by rw [Hn.out]) (by rw [Hn.out]), rfl⟩

end Go.Proofs.YthipdkagkdnaiaaGreatDoor.Sg
