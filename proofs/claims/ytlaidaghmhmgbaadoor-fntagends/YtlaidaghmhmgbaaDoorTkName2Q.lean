/- Contract of the model's way over an attribute's name. -/
import Derived.Test.YtlaidaghmhmgbaaDoorM02
namespace Go.Proofs.YtlaidaghmhmgbaaDoor.Sg
open Go.ChangeShapes Go.WideShapes Go.ChangeAt Go.RowKit

set_option maxHeartbeats 4000000 in
theorem specName (s : ByteArray) (i : Nat) (angle : Bool) (w : World) (hi : i ≤ s.size) (hs : s.size ≤ 17592186044416) :
    Calls Tryd.prog 39 #[.string s, .int .i64 (i : Int), .bool angle] w fun e w' => e = .returned (.int .i64 (nameE angle s i : Int)) ∧ w' = w := by
  go_enter Tryd.func39, Tryd.ntmps39
  go_wp2
  go_loopw [7] (fun v wr => ∃ k : Nat, k ≤ s.size ∧ i ≤ k ∧ v = .int .i64 (k : Int) ∧ Hid (k = i ∨ nameE angle s i = runE (nameU angle) s k) ∧ wr = w) (fun v _ => s.size - (intOf v).toNat)
  case atStart => exact ⟨i, hi, Nat.le_refl _, rfl, .inl rfl, rfl⟩
  case round =>
    obtain ⟨k, hk, hik, rfl, Hinv, rfl⟩ := hrel
    by_cases hlt : k < s.size
    · cases hbl : blankU (s[k]'hlt)
      · by_cases h47 : (s[k]'hlt).toNat = 47
        · have Hb : Hid (∀ w : World, Calls Tryd.prog 51 #[.int .u8 ((s[k]'hlt).toNat : Int)] w fun e w' => e = .returned (.bool false) ∧ w' = w) := fun w => hbl ▸ specBlankU (s[k]'hlt) w
          have g47 : (((s[k]'hlt).toNat : Int) == 47) = true := by simp [h47]
          have n47 : (((s[k]'hlt).toNat : Int) != 47) = false := by simp [h47]
          have Hn : Hid (nameE angle s i = k) := nameE_stop hlt (by simp [nameAtU, nameU, firstU, hbl, h47]) Hinv.out
          clear Hinv hbl h47
          go_wp2_with fail
          refine (Hb.out _).mono ?_
          rintro e w1 ⟨rfl, rfl⟩
          go_wp2
          go_ret
          exact ⟨ret_i64' (by rw [Hn.out]), rfl⟩
        · by_cases h61 : (s[k]'hlt).toNat = 61
          · by_cases hki : k = i
            · cases angle
              · have Hb : Hid (∀ w : World, Calls Tryd.prog 51 #[.int .u8 ((s[k]'hlt).toNat : Int)] w fun e w' => e = .returned (.bool false) ∧ w' = w) := fun w => hbl ▸ specBlankU (s[k]'hlt) w
                have g47 : (((s[k]'hlt).toNat : Int) == 47) = false := by simp; omega
                have n47 : (((s[k]'hlt).toNat : Int) != 47) = true := by simp; omega
                have g61 : (((s[k]'hlt).toNat : Int) == 61) = true := by simp [h61]
                have n61 : (((s[k]'hlt).toNat : Int) != 61) = false := by simp [h61]
                have ki : ((k : Int) == (i : Int)) = true := by simp [hki]
                have Hn := nameE_go (angle := false) hlt hik (by rw [decide_eq_true hki]; simp [nameAtU, firstU, hbl, h47]) Hinv.out
                have Hn2 : Hid (k + 1 = i ∨ nameE false s i = runE (nameU false) s (k + 1)) := .inr Hn.2
                clear Hn Hinv hbl h47 h61 hki
                go_wp2_with fail
                refine (Hb.out _).mono ?_
                rintro e w1 ⟨rfl, rfl⟩
                go_wp2
                go_roundw
                case rel => exact ⟨k + 1, by omega, by omega, by go_num, Hn2, by first | trivial | rfl⟩
                case measure => simp [intOf]; omega
              · have Hb : Hid (∀ w : World, Calls Tryd.prog 51 #[.int .u8 ((s[k]'hlt).toNat : Int)] w fun e w' => e = .returned (.bool false) ∧ w' = w) := fun w => hbl ▸ specBlankU (s[k]'hlt) w
                have g47 : (((s[k]'hlt).toNat : Int) == 47) = false := by simp; omega
                have n47 : (((s[k]'hlt).toNat : Int) != 47) = true := by simp; omega
                have g61 : (((s[k]'hlt).toNat : Int) == 61) = true := by simp [h61]
                have n61 : (((s[k]'hlt).toNat : Int) != 61) = false := by simp [h61]
                have h62 : (s[k]'hlt).toNat ≠ 62 := by omega
                have g62 : (((s[k]'hlt).toNat : Int) == 62) = false := by simp; omega
                have n62 : (((s[k]'hlt).toNat : Int) != 62) = true := by simp; omega
                have ki : ((k : Int) == (i : Int)) = true := by simp [hki]
                have Hn := nameE_go (angle := true) hlt hik (by rw [decide_eq_true hki]; simp [nameAtU, firstU, hbl, h47, h62]) Hinv.out
                have Hn2 : Hid (k + 1 = i ∨ nameE true s i = runE (nameU true) s (k + 1)) := .inr Hn.2
                clear Hn Hinv hbl h47 h61 h62 hki
                go_wp2_with fail
                refine (Hb.out _).mono ?_
                rintro e w1 ⟨rfl, rfl⟩
                go_wp2
                go_roundw
                case rel => exact ⟨k + 1, by omega, by omega, by go_num, Hn2, by first | trivial | rfl⟩
                case measure => simp [intOf]; omega
            · have Hb : Hid (∀ w : World, Calls Tryd.prog 51 #[.int .u8 ((s[k]'hlt).toNat : Int)] w fun e w' => e = .returned (.bool false) ∧ w' = w) := fun w => hbl ▸ specBlankU (s[k]'hlt) w
              have g47 : (((s[k]'hlt).toNat : Int) == 47) = false := by simp; omega
              have n47 : (((s[k]'hlt).toNat : Int) != 47) = true := by simp; omega
              have g61 : (((s[k]'hlt).toNat : Int) == 61) = true := by simp [h61]
              have n61 : (((s[k]'hlt).toNat : Int) != 61) = false := by simp [h61]
              have ki : ((k : Int) == (i : Int)) = false := by simp; omega
              have ki' : ¬ k = i := hki
              have Hn : Hid (nameE angle s i = k) := nameE_stop hlt (by simp [nameAtU, nameU, firstU, hbl, h61, hki]) Hinv.out
              clear Hinv hbl h47 h61 hki
              go_wp2_with fail
              refine (Hb.out _).mono ?_
              rintro e w1 ⟨rfl, rfl⟩
              go_wp2
              go_ret
              exact ⟨ret_i64' (by rw [Hn.out]), rfl⟩
          · cases angle
            · have Hb : Hid (∀ w : World, Calls Tryd.prog 51 #[.int .u8 ((s[k]'hlt).toNat : Int)] w fun e w' => e = .returned (.bool false) ∧ w' = w) := fun w => hbl ▸ specBlankU (s[k]'hlt) w
              have g47 : (((s[k]'hlt).toNat : Int) == 47) = false := by simp; omega
              have n47 : (((s[k]'hlt).toNat : Int) != 47) = true := by simp; omega
              have g61 : (((s[k]'hlt).toNat : Int) == 61) = false := by simp; omega
              have n61 : (((s[k]'hlt).toNat : Int) != 61) = true := by simp; omega
              have Hn := nameE_go (angle := false) hlt hik (by simp [nameAtU, nameU, firstU, hbl, h47, h61]) Hinv.out
              have Hn2 : Hid (k + 1 = i ∨ nameE false s i = runE (nameU false) s (k + 1)) := .inr Hn.2
              clear Hn Hinv hbl h47 h61
              go_wp2_with fail
              refine (Hb.out _).mono ?_
              rintro e w1 ⟨rfl, rfl⟩
              go_wp2
              go_roundw
              case rel => exact ⟨k + 1, by omega, by omega, by go_num, Hn2, by first | trivial | rfl⟩
              case measure => simp [intOf]; omega
            · by_cases h62 : (s[k]'hlt).toNat = 62
              · have Hb : Hid (∀ w : World, Calls Tryd.prog 51 #[.int .u8 ((s[k]'hlt).toNat : Int)] w fun e w' => e = .returned (.bool false) ∧ w' = w) := fun w => hbl ▸ specBlankU (s[k]'hlt) w
                have g47 : (((s[k]'hlt).toNat : Int) == 47) = false := by simp; omega
                have n47 : (((s[k]'hlt).toNat : Int) != 47) = true := by simp; omega
                have g61 : (((s[k]'hlt).toNat : Int) == 61) = false := by simp; omega
                have n61 : (((s[k]'hlt).toNat : Int) != 61) = true := by simp; omega
                have g62 : (((s[k]'hlt).toNat : Int) == 62) = true := by simp [h62]
                have n62 : (((s[k]'hlt).toNat : Int) != 62) = false := by simp [h62]
                have Hn : Hid (nameE true s i = k) := nameE_stop hlt (by simp [nameAtU, nameU, firstU, hbl, h62]) Hinv.out
                clear Hinv hbl h47 h61 h62
                go_wp2_with fail
                refine (Hb.out _).mono ?_
                rintro e w1 ⟨rfl, rfl⟩
                go_wp2
                go_ret
                exact ⟨ret_i64' (by rw [Hn.out]), rfl⟩
              · have Hb : Hid (∀ w : World, Calls Tryd.prog 51 #[.int .u8 ((s[k]'hlt).toNat : Int)] w fun e w' => e = .returned (.bool false) ∧ w' = w) := fun w => hbl ▸ specBlankU (s[k]'hlt) w
                have g47 : (((s[k]'hlt).toNat : Int) == 47) = false := by simp; omega
                have n47 : (((s[k]'hlt).toNat : Int) != 47) = true := by simp; omega
                have g61 : (((s[k]'hlt).toNat : Int) == 61) = false := by simp; omega
                have n61 : (((s[k]'hlt).toNat : Int) != 61) = true := by simp; omega
                have g62 : (((s[k]'hlt).toNat : Int) == 62) = false := by simp; omega
                have n62 : (((s[k]'hlt).toNat : Int) != 62) = true := by simp; omega
                have Hn := nameE_go (angle := true) hlt hik (by simp [nameAtU, nameU, firstU, hbl, h47, h61, h62]) Hinv.out
                have Hn2 : Hid (k + 1 = i ∨ nameE true s i = runE (nameU true) s (k + 1)) := .inr Hn.2
                clear Hn Hinv hbl h47 h61 h62
                go_wp2_with fail
                refine (Hb.out _).mono ?_
                rintro e w1 ⟨rfl, rfl⟩
                go_wp2
                go_roundw
                case rel => exact ⟨k + 1, by omega, by omega, by go_num, Hn2, by first | trivial | rfl⟩
                case measure => simp [intOf]; omega
      · have Hb : Hid (∀ w : World, Calls Tryd.prog 51 #[.int .u8 ((s[k]'hlt).toNat : Int)] w fun e w' => e = .returned (.bool true) ∧ w' = w) := fun w => hbl ▸ specBlankU (s[k]'hlt) w
        have Hn : Hid (nameE angle s i = k) := nameE_stop hlt (by simp [nameAtU, nameU, firstU, hbl]) Hinv.out
        clear Hinv hbl
        go_wp2_with fail
        refine (Hb.out _).mono ?_
        rintro e w1 ⟨rfl, rfl⟩
        go_wp2
        go_ret
        exact ⟨ret_i64' (by rw [Hn.out]), rfl⟩
    · have Hn : Hid (nameE angle s i = k) := nameE_past hlt Hinv.out
      have g0 : decide ((k : Int) < (s.size : Int)) = false := decide_eq_false (by omega)
      clear Hinv
      go_wp2
      go_ret
      exact ⟨ret_i64' (by rw [Hn.out]), rfl⟩

end Go.Proofs.YtlaidaghmhmgbaaDoor.Sg
