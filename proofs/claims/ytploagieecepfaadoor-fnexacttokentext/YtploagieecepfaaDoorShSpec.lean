/- Contracts of the model's l22Digits, l22Named, l22Kind. -/
import Derived.Test.YtploagieecepfaaDoorShP
import Derived.Test.YtploagieecepfaaDoorGConv
namespace Go.Proofs.YtploagieecepfaaDoor.Sg
open Go.ChangeShapes Go.WideShapes Go.ChangeAt Go.RowKit

theorem ret_sh {a b : ByteArray} (h : a = b) : Ending.returned (.string a) = .returned (.string b) := by rw [h]

set_option maxHeartbeats 2000000 in
theorem specNamed2 (nm tx : ByteArray) (w : World) : Calls Tryd.prog 17 #[.string nm, .string tx] w fun r w' => r = .returned (.string (namedS nm tx)) ∧ w' = w := by
  by_cases h : nm.size = 0
  · have e : namedS nm tx = tx := if_pos h
    have e0 : nm = ⟨#[]⟩ := by
      cases nm with
      | mk d =>
        have : d = #[] := Array.eq_empty_of_size_eq_zero h
        rw [this]
    subst e0
    rw [e]
    go_enter Tryd.func17, Tryd.ntmps17
    go_wp2
    go_ret
    exact ⟨rfl, rfl⟩
  · have e : namedS nm tx = nm := if_neg h
    rw [e]
    have g : nm.toList.isEmpty = false := by
      rw [ByteArray.toList_eq] at *
      cases hd : nm.data.toList with
      | nil =>
        have : nm.size = nm.data.toList.length := Array.length_toList.symm
        rw [hd] at this
        exact absurd this h
      | cons x l => rfl
    go_enter Tryd.func17, Tryd.ntmps17
    go_wp2
    go_ret
    exact ⟨rfl, rfl⟩

set_option maxHeartbeats 2000000 in
theorem specKind (kd : Int) (b n cap : Nat) (ls : List (List UInt8)) (w : World) (h : Texts w b ls) (hn : ls.length = n) (hm : n ≤ 1000) :
    Calls Tryd.prog 16 #[.int .i64 kd, .slice (some ⟨b, 0, none⟩) n cap] w fun r w' => r = .returned (.string (kindS kd ls)) ∧ w' = w := by
  subst hn
  unfold kindS
  by_cases h1 : kd < 1
  · rw [if_pos (.inl h1)]
    have g : decide (kd < 1) = true := decide_eq_true h1
    go_enter Tryd.func16, Tryd.ntmps16
    go_wp2
    all_goals
      go_ret
      exact ⟨rfl, rfl⟩
  · by_cases h2 : (ls.length : Int) < kd
    · rw [if_pos (.inr h2)]
      go_enter Tryd.func16, Tryd.ntmps16
      go_wp2
      all_goals
        go_ret
        exact ⟨rfl, rfl⟩
    · rw [if_neg (by omega)]
      obtain ⟨k, rfl⟩ : ∃ k : Nat, kd = (k : Int) + 1 := ⟨(kd - 1).toNat, by omega⟩
      have e : ((k : Int) + 1 - 1).toNat = k := by omega
      rw [e]
      have hk : k < ls.length := by omega
      have c0 := h.2 k hk
      have q0 : (0 : Int) ≤ (k : Int) := by omega
      have q1 : (k : Int) < (ls.length : Int) := by omega
      have q2 : (k : Int) + 1 - 1 = (k : Int) := by omega
      clear h
      go_enter Tryd.func16, Tryd.ntmps16
      go_wp2
      all_goals
        go_ret
        exact ⟨rfl, rfl⟩

theorem strNum_cons (a : Int) (n : Nat) (o : List UInt8) (h : a.toNat = n) : strOfNums [a] ++ strB o = strB (UInt8.ofNat n :: o) := by
  have ext : ∀ a b : ByteArray, a.data.toList = b.data.toList → a = b := by
    intro a b h
    cases a
    cases b
    simpa using h
  apply ext
  simp [ByteArray.data_append, strB, strOfNums, h]

set_option maxRecDepth 20000 in
set_option maxHeartbeats 2000000 in
theorem specDigits (n : Nat) (w : World) (hn : n ≤ 1099511627776) : Calls Tryd.prog 18 #[.int .i64 (n : Int)] w fun r w' => r = .returned (.string (strB (shDig n))) ∧ Below w.heap.size w w' := by
  by_cases h0 : n = 0
  · subst h0
    have e : strB (shDig 0) = ⟨#[48]⟩ := by decide
    rw [e]
    go_enter Tryd.func18, Tryd.ntmps18
    go_wp2
    go_ret
    exact ⟨rfl, Below.refl _ _⟩
  · obtain ⟨R, HR⟩ : ∃ R, Hid (shF n n [] = R) := ⟨_, rfl⟩
    have e : strB (shDig n) = strB R := by unfold shDig; rw [if_neg h0, HR.out]
    rw [e]
    have g0 : ¬ ((n : Int) ≤ 0) := by omega
    have g0' : decide ((n : Int) ≤ 0) = false := decide_eq_false g0
    clear e
    go_enter Tryd.func18, Tryd.ntmps18
    go_wp2_with fail
    go_loopw [0, 3] (fun nv ov wr => ∃ (m f : Nat) (o : List UInt8), m ≤ f ∧ m ≤ n ∧ f + o.length = n ∧ nv = .int .i64 (m : Int) ∧ ov = .string (strB o) ∧ Hid (shF f m o = R) ∧ Below w.heap.size w wr) (fun nv _ _ => (intOf nv).toNat)
    case atStart => exact ⟨n, n, [], Nat.le_refl _, Nat.le_refl _, rfl, rfl, rfl, HR, Below.refl _ _⟩
    case round =>
      clear HR
      obtain ⟨m, f, o, hf, hm, hfo, rfl, rfl, HRm, hb⟩ := hrel
      by_cases hz : 0 < m
      · obtain ⟨f', rfl⟩ : ∃ f', f = f' + 1 := ⟨f - 1, by omega⟩
        have h1 : (0 : Int) < (m : Int) := by omega
        have h2 := HRm.out
        rw [shF_step f' m o hz] at h2
        have HR2 : Hid (shF f' (m / 10) (UInt8.ofNat (48 + m % 10) :: o) = R) := h2
        have hs : (strB o).size = o.length := strB_size o
        have c1 := conv1 (48 + (m : Int) % 10) wr
        have HS : Hid (strOfNums [48 + (m : Int) % 10] ++ strB o = strB (UInt8.ofNat (48 + m % 10) :: o)) := by
          exact strNum_cons _ _ _ (by omega)
        have s1 : ¬ 9223372036854775807 < (strOfNums [48 + (m : Int) % 10]).size + (strB o).size := by
          have : (strOfNums [48 + (m : Int) % 10]).size = 1 := rfl
          omega
        have hb2 := hb.alloc hb.size (.cells #[.int .u8 (48 + (m : Int) % 10)] 5)
        have q3 : Hid ((m : Int) / 10 = ((m / 10 : Nat) : Int)) := by show _ = _; omega
        have hl2 : f' + (UInt8.ofNat (48 + m % 10) :: o).length = n := by rw [List.length_cons]; omega
        clear h2 HRm
        go_wp2_with fail
        rw [HS.out]
        go_roundw
        case rel => exact ⟨m / 10, f', _, by omega, by omega, hl2, by rw [← q3.out]; try rfl, rfl, HR2, hb2⟩
        case measure => simp [intOf]; omega
      · have hz' : m = 0 := by omega
        subst hz'
        have Hf : o = R := by rw [← HRm.out, shF_zero]
        subst Hf
        clear HRm
        go_wp2_with fail
        go_ret
        exact ⟨rfl, hb⟩

end Go.Proofs.YtploagieecepfaaDoor.Sg
