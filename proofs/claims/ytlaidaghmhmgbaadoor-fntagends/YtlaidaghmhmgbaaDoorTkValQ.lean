/- Contract of the model's l4Value. -/
import Derived.Test.YtlaidaghmhmgbaaDoorM02
import Derived.Test.YtlaidaghmhmgbaaDoorTkName2Q
import Derived.Laws.DeepStrings4
namespace Go.Proofs.YtlaidaghmhmgbaaDoor.Sg
open Go.ChangeShapes Go.WideShapes Go.ChangeAt Go.RowKit

/-- A value at a place, and the place behind it. -/
def valE (s : ByteArray) (k : Nat) : ByteArray × Nat :=
  match (tailL s k).head? with
  | none => (s.extract k (runE (plainU false) s k), runE (plainU false) s k)
  | some b => if b.toNat = 34 ∨ b.toNat = 39 then (match findE s (k + 1) b with | none => (s.extract (k + 1) s.size, s.size) | some e => (s.extract (k + 1) e, e + 1)) else (s.extract k (runE (plainU false) s k), runE (plainU false) s k)

theorem valE_quote {s : ByteArray} {k : Nat} (h : k < s.size) (hq : (s[k]'h).toNat = 34 ∨ (s[k]'h).toNat = 39) : valE s k = (match findE s (k + 1) (s[k]'h) with | none => (s.extract (k + 1) s.size, s.size) | some e => (s.extract (k + 1) e, e + 1)) := by
  unfold valE
  rw [head_at h]
  exact if_pos hq
theorem valE_plain {s : ByteArray} {k : Nat} (h : k < s.size) (hq : ¬ ((s[k]'h).toNat = 34 ∨ (s[k]'h).toNat = 39)) : valE s k = (s.extract k (runE (plainU false) s k), runE (plainU false) s k) := by
  unfold valE
  rw [head_at h]
  exact if_neg hq
theorem valE_end {s : ByteArray} {k : Nat} (h : ¬ k < s.size) : valE s k = (s.extract k (runE (plainU false) s k), runE (plainU false) s k) := by
  unfold valE
  rw [head_end h]

theorem valE_le {s : ByteArray} {k : Nat} (hk : k ≤ s.size) : k ≤ (valE s k).2 ∧ (valE s k).2 ≤ s.size ∧ (valE s k).1.size ≤ s.size := by
  have hr := runE_le (p := plainU false) hk
  have hx : ∀ a b : Nat, (s.extract a b).size ≤ s.size := fun a b => by simp only [ByteArray.size_extract]; omega
  by_cases hlt : k < s.size
  · by_cases hq : (s[k]'hlt).toNat = 34 ∨ (s[k]'hlt).toNat = 39
    · rw [valE_quote hlt hq]
      cases hf : findE s (k + 1) (s[k]'hlt) with
      | none => exact ⟨hk, Nat.le_refl _, hx _ _⟩
      | some e =>
        have := findE_le hf
        exact ⟨by show k ≤ e + 1; omega, by show e + 1 ≤ s.size; omega, hx _ _⟩
    · rw [valE_plain hlt hq]
      exact ⟨hr.1, hr.2, hx _ _⟩
  · rw [valE_end hlt]
    exact ⟨hr.1, hr.2, hx _ _⟩

theorem ret_val {x y : ByteArray} {a b : Int} (h : x = y) (h2 : a = b) : Ending.returned (.tuple #[.string x, .int .i64 a]) = .returned (.tuple #[.string y, .int .i64 b]) := by rw [h, h2]

set_option maxHeartbeats 2000000 in
theorem specValue (s : ByteArray) (k : Nat) (w : World) (hk : k ≤ s.size) (hs : s.size ≤ 17592186044416) :
    Calls Tryd.prog 42 #[.string s, .int .i64 (k : Int)] w fun e w' => e = .returned (.tuple #[.string (valE s k).1, .int .i64 ((valE s k).2 : Int)]) ∧ w' = w := by
  have hr := runE_le (p := plainU false) hk
  have Hp := fun w : World => specPlain s k false w hk hs
  by_cases hlt : k < s.size
  · by_cases q34 : (s[k]'hlt).toNat = 34
    · have g34 : (((s[k]'hlt).toNat : Int) == 34) = true := by simp [q34]
      have hv := valE_quote hlt (.inl q34)
      have Hf : Hid (∀ w : World, Calls Tryd.prog 47 #[.string s, .int .i64 ((k : Int) + 1), .int .u8 ((s[k]'hlt).toNat : Int)] w fun e w' => e = .returned (.int .i64 (findV (findE s (k + 1) (s[k]'hlt)))) ∧ w' = w) := fun w => specFind s (k + 1) (s[k]'hlt) w hlt hs
      cases hf : findE s (k + 1) (s[k]'hlt) with
      | none =>
        rw [hf] at Hf hv
        have Hn : Hid (valE s k = (s.extract (k + 1) s.size, s.size)) := hv
        clear hv hf q34 Hp
        simp only [findV] at Hf
        have g9 : (k : Int) + 1 ≤ (s.size : Int) := by omega
        go_enter Tryd.func42, Tryd.ntmps42
        go_wp2_with fail
        refine (Hf.out _).mono ?_
        rintro e w1 ⟨rfl, rfl⟩
        go_wp2
        go_ret2
        exact ⟨ret_val (by rw [Hn.out]) (by rw [Hn.out]), rfl⟩
      | some m =>
        have hfl := findE_le hf
        rw [hf] at Hf hv
        have Hn : Hid (valE s k = (s.extract (k + 1) m, m + 1)) := hv
        clear hv hf q34 Hp
        simp only [findV] at Hf
        have gm : (0 : Int) ≤ (m : Int) := by omega
        have g9 : (k : Int) + 1 ≤ (m : Int) := by omega
        have g8 : (m : Int) ≤ (s.size : Int) := by omega
        go_enter Tryd.func42, Tryd.ntmps42
        go_wp2_with fail
        refine (Hf.out _).mono ?_
        rintro e w1 ⟨rfl, rfl⟩
        go_wp2
        go_ret2
        exact ⟨ret_val (by rw [Hn.out]) (by rw [Hn.out]; rfl), rfl⟩
    · by_cases q39 : (s[k]'hlt).toNat = 39
      · have g34 : (((s[k]'hlt).toNat : Int) == 34) = false := by simp; omega
        have g39 : (((s[k]'hlt).toNat : Int) == 39) = true := by simp [q39]
        have hv := valE_quote hlt (.inr q39)
        have Hf : Hid (∀ w : World, Calls Tryd.prog 47 #[.string s, .int .i64 ((k : Int) + 1), .int .u8 ((s[k]'hlt).toNat : Int)] w fun e w' => e = .returned (.int .i64 (findV (findE s (k + 1) (s[k]'hlt)))) ∧ w' = w) := fun w => specFind s (k + 1) (s[k]'hlt) w hlt hs
        cases hf : findE s (k + 1) (s[k]'hlt) with
        | none =>
          rw [hf] at Hf hv
          have Hn : Hid (valE s k = (s.extract (k + 1) s.size, s.size)) := hv
          clear hv hf q34 q39 Hp
          simp only [findV] at Hf
          have g9 : (k : Int) + 1 ≤ (s.size : Int) := by omega
          go_enter Tryd.func42, Tryd.ntmps42
          go_wp2_with fail
          refine (Hf.out _).mono ?_
          rintro e w1 ⟨rfl, rfl⟩
          go_wp2
          go_ret2
          exact ⟨ret_val (by rw [Hn.out]) (by rw [Hn.out]), rfl⟩
        | some m =>
          have hfl := findE_le hf
          rw [hf] at Hf hv
          have Hn : Hid (valE s k = (s.extract (k + 1) m, m + 1)) := hv
          clear hv hf q34 q39 Hp
          simp only [findV] at Hf
          have gm : (0 : Int) ≤ (m : Int) := by omega
          have g9 : (k : Int) + 1 ≤ (m : Int) := by omega
          have g8 : (m : Int) ≤ (s.size : Int) := by omega
          go_enter Tryd.func42, Tryd.ntmps42
          go_wp2_with fail
          refine (Hf.out _).mono ?_
          rintro e w1 ⟨rfl, rfl⟩
          go_wp2
          go_ret2
          exact ⟨ret_val (by rw [Hn.out]) (by rw [Hn.out]; rfl), rfl⟩
      · have g34 : (((s[k]'hlt).toNat : Int) == 34) = false := by simp; omega
        have g39 : (((s[k]'hlt).toNat : Int) == 39) = false := by simp; omega
        have Hn : Hid (valE s k = (s.extract k (runE (plainU false) s k), runE (plainU false) s k)) := valE_plain hlt (by omega)
        generalize runE (plainU false) s k = m at *
        have g9 : (k : Int) ≤ (m : Int) := by omega
        have g8 : (m : Int) ≤ (s.size : Int) := by omega
        clear q34 q39
        go_enter Tryd.func42, Tryd.ntmps42
        go_wp2_with fail
        refine (Hp _).mono ?_
        rintro e w1 ⟨rfl, rfl⟩
        go_wp2
        go_ret2
        exact ⟨ret_val (by rw [Hn.out]) (by rw [Hn.out]), rfl⟩
  · have g0 : decide ((k : Int) < (s.size : Int)) = false := decide_eq_false (by omega)
    have Hn : Hid (valE s k = (s.extract k (runE (plainU false) s k), runE (plainU false) s k)) := valE_end hlt
    generalize runE (plainU false) s k = m at *
    have g9 : (k : Int) ≤ (m : Int) := by omega
    have g8 : (m : Int) ≤ (s.size : Int) := by omega
    skip
    go_enter Tryd.func42, Tryd.ntmps42
    go_wp2_with fail
    refine (Hp _).mono ?_
    rintro e w1 ⟨rfl, rfl⟩
    go_wp2
    go_ret2
    exact ⟨ret_val (by rw [Hn.out]) (by rw [Hn.out]), rfl⟩

end Go.Proofs.YtlaidaghmhmgbaaDoor.Sg
