/- Contract of the model's l18Number. -/
import Derived.Test.YthipdkagkdnaiaaGreatDoorMRD03
import Derived.Test.YthipdkagkdnaiaaGreatDoorMRD05
namespace Go.Proofs.YthipdkagkdnaiaaGreatDoor.Sg
open Go.ChangeShapes Go.WideShapes Go.ChangeAt Go.RowKit

/-- How great a number can be with so many digits still to come. -/
def capN : Nat → Nat
  | 0 => 9999999
  | 1 => 999999
  | 2 => 99999
  | 3 => 9999
  | 4 => 999
  | 5 => 99
  | 6 => 9
  | _ => 0
theorem capN_step {f n d : Nat} (hf : f < 7) (hn : n ≤ capN (f + 1)) (hd : d ≤ 9) : 10 * n + d ≤ capN f := by
  match f, hf with
  | 0, _ | 1, _ | 2, _ | 3, _ | 4, _ | 5, _ | 6, _ => simp [capN] at hn ⊢; omega
theorem capN_le (f : Nat) : capN f ≤ 9999999 := by
  unfold capN
  split <;> omega
/-- What the model's l18Number hands back. -/
def numV : Option (Nat × Nat) → Value
  | none => .tuple #[.int .i64 0, .int .i64 (-1)]
  | some r => .tuple #[.int .i64 (r.1 : Int), .int .i64 (r.2 : Int)]
theorem xnumR_of {s : ByteArray} {k n j : Nat} (h : xdigR s 7 (k + 2) 0 = (n, j)) : xnumR s k = if j = k + 2 ∨ bN s (k + 2) = 48 ∨ ¬ j < s.size ∨ bN s j ≠ 59 ∨ textB (n : Int) = false then none else some (n, j) := by
  unfold xnumR
  rw [h]

set_option maxHeartbeats 4000000 in
theorem specNumber18 (s : ByteArray) (k : Nat) (w : World) (hk : k + 2 ≤ s.size) (hs : s.size ≤ 17592186044416) :
    Calls Tryz.prog 111 #[.string s, .int .i64 (k : Int)] w fun e w' => e = .returned (numV (xnumR s k)) ∧ w' = w := by
  have q1 : IntKind.i64.wrap ((k : Int) + 2) = (k : Int) + 2 := IntWalk.i64_in _ (by omega)
  have q2 : IntKind.i64.wrap ((k : Int) + 9) = (k : Int) + 9 := IntWalk.i64_in _ (by omega)
  go_enter Tryz.func111, Tryz.ntmps111
  go_wp2_with fail
  go_loopw [6, 7] (fun nv iv wr => ∃ (f n i : Nat), f ≤ 7 ∧ i + f = k + 9 ∧ k + 2 ≤ i ∧ i ≤ s.size ∧ n ≤ capN f ∧ nv = .int .i64 (n : Int) ∧ iv = .int .i64 (i : Int) ∧ Hid (xdigR s 7 (k + 2) 0 = xdigR s f i n) ∧ wr = w) (fun _ iv _ => s.size - (intOf iv).toNat)
  case atStart => exact ⟨7, 0, k + 2, by omega, by omega, by omega, by omega, Nat.zero_le _, rfl, by go_num, rfl, rfl⟩
  case round =>
    obtain ⟨f, n, i, hf, hfi, hki, his, hn, rfl, rfl, HD, rfl⟩ := hrel
    have hcap := capN_le f
    have q3 : (0 : Int) ≤ (i : Int) := by omega
    by_cases hgo : ∃ (h : i < s.size) (_ : 0 < f), 48 ≤ (s[i]'h).toNat ∧ (s[i]'h).toNat ≤ 57
    · obtain ⟨hlt, hf0, hd⟩ := hgo
      obtain ⟨f', rfl⟩ : ∃ f', f = f' + 1 := ⟨f - 1, by omega⟩
      have HD2 : Hid (xdigR s 7 (k + 2) 0 = xdigR s f' (i + 1) (10 * n + ((s[i]'hlt).toNat - 48))) := HD.out.trans (xdigR_go hlt hd)
      have hn2 := capN_step (f := f') (by omega) hn (d := (s[i]'hlt).toNat - 48) (by omega)
      have Hd := fun W => specDigit (s[i]'hlt).toNat false W (by omega)
      rw [dig3_ten hd] at Hd
      have c1 : IntKind.i64.wrap (10 * (n : Int)) = 10 * (n : Int) := IntWalk.i64_in _ (by omega)
      have c2 : IntKind.i64.wrap (10 * (n : Int) + ((s[i]'hlt).toNat : Int)) = 10 * (n : Int) + ((s[i]'hlt).toNat : Int) := IntWalk.i64_in _ (by omega)
      have c3 : IntKind.i64.wrap (10 * (n : Int) + ((s[i]'hlt).toNat : Int) - 48) = 10 * (n : Int) + ((s[i]'hlt).toNat : Int) - 48 := IntWalk.i64_in _ (by omega)
      have c4 : IntKind.i64.wrap ((i : Int) + 1) = (i : Int) + 1 := IntWalk.i64_in _ (by omega)
      have c5 : (0 : Int) ≤ ((s[i]'hlt).toNat : Int) - 48 := by omega
      have c6 : (i : Int) < (k : Int) + 9 := by omega
      clear HD
      go_wp2_with fail
      refine (Hd _).mono ?_
      rintro e w1 ⟨rfl, rfl⟩
      go_wp2_with fail
      go_roundw
      case rel => exact ⟨f', 10 * n + ((s[i]'hlt).toNat - 48), i + 1, by omega, by omega, by omega, by omega, hn2, by go_num, by go_num, HD2, trivial⟩
      case measure => simp [intOf]; omega
    · have HE : Hid (xdigR s 7 (k + 2) 0 = (n, i)) := by
        show _ = _
        rw [HD.out]
        by_cases hlt : i < s.size
        · by_cases hf0 : 0 < f
          · exact xdigR_stop hlt fun h => hgo ⟨hlt, hf0, h⟩
          · rw [show f = 0 by omega]
            rfl
        · exact xdigR_end hlt
      clear HD
      by_cases hlt : i < s.size
      · by_cases hf0 : f = 0
        · have gi : (i : Int) < (s.size : Int) := by omega
          have hne : ¬ i = k + 2 := by omega
          have g9 : decide ((i : Int) < (k : Int) + 9) = false := decide_eq_false (by omega)
          have h2 : k + 2 < s.size := by omega
          have p1 : ((k : Int) + 2).toNat = k + 2 := by omega
          have p2 : (k : Int) + 2 < (s.size : Int) := by omega
          have p3 : (0 : Int) ≤ (k : Int) + 2 := by omega
          have gne : ((i : Int) == (k : Int) + 2) = false := by rw [beq_eq_false_iff_ne]; omega
          have b2 := bN_eq s (k + 2) h2
          by_cases h48 : (s[k + 2]'h2).toNat = 48
          · have g48 : (((s[k + 2]'h2).toNat : Int) == 48) = true := by rw [h48]; rfl
            have Hx : Hid (xnumR s k = none) := by show _ = _; rw [xnumR_of HE.out, if_pos (.inr (.inl (by rw [← b2, h48])))]
            clear HE
            go_wp2_with fail
            go_ret2
            rw [Hx.out]
            exact ⟨rfl, rfl⟩
          · have g48 : (((s[k + 2]'h2).toNat : Int) == 48) = false := by rw [beq_eq_false_iff_ne]; omega
            have g48n : ¬ bN s (k + 2) = 48 := by rw [← b2]; exact h48
            have b9 := bN_eq s i hlt
            have gin : decide ((s.size : Int) ≤ (i : Int)) = false := decide_eq_false (by omega)
            have gin' : decide (s.size ≤ i) = false := decide_eq_false (by omega)
            by_cases h59 : (s[i]'hlt).toNat = 59
            · have g59 : (((s[i]'hlt).toNat : Int) == 59) = true := by rw [h59]; rfl
              have h59n : bN s i = 59 := by rw [← b9, h59]
              have Ht := fun W => specIsText (n : Int) W
              cases ht : textB (n : Int)
              · rw [ht] at Ht
                have Hx : Hid (xnumR s k = none) := by show _ = _; rw [xnumR_of HE.out, if_pos (.inr (.inr (.inr (.inr ht))))]
                clear HE
                go_wp2_with fail
                refine (Ht _).mono ?_
                rintro e w1 ⟨rfl, rfl⟩
                go_wp2_with fail
                go_ret2
                rw [Hx.out]
                exact ⟨rfl, rfl⟩
              · rw [ht] at Ht
                have Hx : Hid (xnumR s k = some (n, i)) := by show _ = _; rw [xnumR_of HE.out, if_neg (fun h => h.elim hne (fun h => h.elim g48n (fun h => h.elim (fun h => h hlt) (fun h => h.elim (fun h => h h59n) (fun h => by rw [ht] at h; cases h)))))]
                clear HE
                go_wp2_with fail
                refine (Ht _).mono ?_
                rintro e w1 ⟨rfl, rfl⟩
                go_wp2_with fail
                go_ret2
                rw [Hx.out]
                exact ⟨rfl, rfl⟩
            · have g59 : (((s[i]'hlt).toNat : Int) == 59) = false := by rw [beq_eq_false_iff_ne]; omega
              have Hx : Hid (xnumR s k = none) := by show _ = _; rw [xnumR_of HE.out, if_pos (.inr (.inr (.inr (.inl (by rw [← b9]; exact h59)))))]
              clear HE
              go_wp2_with fail
              go_ret2
              rw [Hx.out]
              exact ⟨rfl, rfl⟩
        · have hd : ¬ (48 ≤ (s[i]'hlt).toNat ∧ (s[i]'hlt).toNat ≤ 57) := fun h => hgo ⟨hlt, by omega, h⟩
          have gi : (i : Int) < (s.size : Int) := by omega
          have g9 : (i : Int) < (k : Int) + 9 := by omega
          have Hd := fun W => specDigit (s[i]'hlt).toNat false W (by have := bN_lt s i; rw [bN_eq]; exact this)
          rw [dig3_not hd] at Hd
          clear hd
          go_wp2_with fail
          refine (Hd _).mono ?_
          rintro e w0 ⟨rfl, rfl⟩
          clear Hd
          by_cases hne : i = k + 2
          · have gne : ((i : Int) == (k : Int) + 2) = true := by rw [hne]; simp
            have Hx : Hid (xnumR s k = none) := by show _ = _; rw [xnumR_of HE.out, if_pos (.inl hne)]
            clear HE
            go_wp2_with fail
            go_ret2
            rw [Hx.out]
            exact ⟨rfl, rfl⟩
          · have h2 : k + 2 < s.size := by omega
            have p1 : ((k : Int) + 2).toNat = k + 2 := by omega
            have p2 : (k : Int) + 2 < (s.size : Int) := by omega
            have p3 : (0 : Int) ≤ (k : Int) + 2 := by omega
            have gne : ((i : Int) == (k : Int) + 2) = false := by rw [beq_eq_false_iff_ne]; omega
            have b2 := bN_eq s (k + 2) h2
            by_cases h48 : (s[k + 2]'h2).toNat = 48
            · have g48 : (((s[k + 2]'h2).toNat : Int) == 48) = true := by rw [h48]; rfl
              have Hx : Hid (xnumR s k = none) := by show _ = _; rw [xnumR_of HE.out, if_pos (.inr (.inl (by rw [← b2, h48])))]
              clear HE
              go_wp2_with fail
              go_ret2
              rw [Hx.out]
              exact ⟨rfl, rfl⟩
            · have g48 : (((s[k + 2]'h2).toNat : Int) == 48) = false := by rw [beq_eq_false_iff_ne]; omega
              have g48n : ¬ bN s (k + 2) = 48 := by rw [← b2]; exact h48
              have b9 := bN_eq s i hlt
              have gin : decide ((s.size : Int) ≤ (i : Int)) = false := decide_eq_false (by omega)
              have gin' : decide (s.size ≤ i) = false := decide_eq_false (by omega)
              by_cases h59 : (s[i]'hlt).toNat = 59
              · have g59 : (((s[i]'hlt).toNat : Int) == 59) = true := by rw [h59]; rfl
                have h59n : bN s i = 59 := by rw [← b9, h59]
                have Ht := fun W => specIsText (n : Int) W
                cases ht : textB (n : Int)
                · rw [ht] at Ht
                  have Hx : Hid (xnumR s k = none) := by show _ = _; rw [xnumR_of HE.out, if_pos (.inr (.inr (.inr (.inr ht))))]
                  clear HE
                  go_wp2_with fail
                  refine (Ht _).mono ?_
                  rintro e w1 ⟨rfl, rfl⟩
                  go_wp2_with fail
                  go_ret2
                  rw [Hx.out]
                  exact ⟨rfl, rfl⟩
                · rw [ht] at Ht
                  have Hx : Hid (xnumR s k = some (n, i)) := by show _ = _; rw [xnumR_of HE.out, if_neg (fun h => h.elim hne (fun h => h.elim g48n (fun h => h.elim (fun h => h hlt) (fun h => h.elim (fun h => h h59n) (fun h => by rw [ht] at h; cases h)))))]
                  clear HE
                  go_wp2_with fail
                  refine (Ht _).mono ?_
                  rintro e w1 ⟨rfl, rfl⟩
                  go_wp2_with fail
                  go_ret2
                  rw [Hx.out]
                  exact ⟨rfl, rfl⟩
              · have g59 : (((s[i]'hlt).toNat : Int) == 59) = false := by rw [beq_eq_false_iff_ne]; omega
                have Hx : Hid (xnumR s k = none) := by show _ = _; rw [xnumR_of HE.out, if_pos (.inr (.inr (.inr (.inl (by rw [← b9]; exact h59)))))]
                clear HE
                go_wp2_with fail
                go_ret2
                rw [Hx.out]
                exact ⟨rfl, rfl⟩
      · have gi : decide ((i : Int) < (s.size : Int)) = false := decide_eq_false (by omega)
        have gi' : decide (i < s.size) = false := decide_eq_false hlt
        have gge : decide ((s.size : Int) ≤ (i : Int)) = true := decide_eq_true (by omega)
        by_cases hne : i = k + 2
        · have gne : ((i : Int) == (k : Int) + 2) = true := by rw [hne]; simp
          have Hx : Hid (xnumR s k = none) := by show _ = _; rw [xnumR_of HE.out, if_pos (.inl hne)]
          clear HE
          go_wp2_with fail
          go_ret2
          rw [Hx.out]
          exact ⟨rfl, rfl⟩
        · have h2 : k + 2 < s.size := by omega
          have p1 : ((k : Int) + 2).toNat = k + 2 := by omega
          have p2 : (k : Int) + 2 < (s.size : Int) := by omega
          have p3 : (0 : Int) ≤ (k : Int) + 2 := by omega
          have gne : ((i : Int) == (k : Int) + 2) = false := by rw [beq_eq_false_iff_ne]; omega
          have b2 := bN_eq s (k + 2) h2
          by_cases h48 : (s[k + 2]'h2).toNat = 48
          · have g48 : (((s[k + 2]'h2).toNat : Int) == 48) = true := by rw [h48]; rfl
            have Hx : Hid (xnumR s k = none) := by show _ = _; rw [xnumR_of HE.out, if_pos (.inr (.inl (by rw [← b2, h48])))]
            clear HE
            go_wp2_with fail
            go_ret2
            rw [Hx.out]
            exact ⟨rfl, rfl⟩
          · have g48 : (((s[k + 2]'h2).toNat : Int) == 48) = false := by rw [beq_eq_false_iff_ne]; omega
            have g48n : ¬ bN s (k + 2) = 48 := by rw [← b2]; exact h48
            have Hx : Hid (xnumR s k = none) := by show _ = _; rw [xnumR_of HE.out, if_pos (.inr (.inr (.inl hlt)))]
            clear HE
            go_wp2_with fail
            go_ret2
            rw [Hx.out]
            exact ⟨rfl, rfl⟩

end Go.Proofs.YthipdkagkdnaiaaGreatDoor.Sg
