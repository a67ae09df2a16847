/- Contracts of the model's l22Digits, l22Named, l22Kind. -/
import Derived.Test.YtploagieecepfaaShP
import Derived.Test.YtploagieecepfaaGConv
namespace Go.Proofs.Ytploagieecepfaa.Sg
open Go.ChangeShapes Go.WideShapes Go.ChangeAt Go.RowKit

theorem ret_sh {a b : ByteArray} (h : a = b) : Ending.returned (.string a) = .returned (.string b) := by rw [h]

set_option maxHeartbeats 2000000 in
theorem specNamed2 (nm tx : ByteArray) (w : World) : Calls Try.prog 30 #[.string nm, .string tx] w fun r w' => r = .returned (.string (namedS nm tx)) ∧ w' = w := by
  by_cases h : nm.size = 0
  · have e : namedS nm tx = tx := if_pos h
    have e0 : nm = ⟨#[]⟩ := by
      cases nm with
      | mk d =>
        have : d = #[] := Array.eq_empty_of_size_eq_zero h
        rw [this]
    subst e0
    rw [e]
    go_enter Try.func30, Try.ntmps30
    go_wp2
    go_ret
    exact ⟨rfl, rfl⟩
  · have e : namedS nm tx = nm := if_neg h
    rw [e]
    have g : nm.toList.isEmpty = false := by
      rw [ByteArray.toList_eq] at *
      cases hd : nm.data.toList with
      | nil =>
        have : nm.size = nm.data.toList.length := Array.length_toList.symm
        rw [hd] at this
        exact absurd this h
      | cons x l => rfl
    go_enter Try.func30, Try.ntmps30
    go_wp2
    go_ret
    exact ⟨rfl, rfl⟩

set_option maxHeartbeats 2000000 in
theorem specKind (kd : Int) (b n cap : Nat) (ls : List (List UInt8)) (w : World) (h : Texts w b ls) (hn : ls.length = n) (hm : n ≤ 1000) :
    Calls Try.prog 29 #[.int .i64 kd, .slice (some ⟨b, 0, none⟩) n cap] w fun r w' => r = .returned (.string (kindS kd ls)) ∧ w' = w := by
  subst hn
  unfold kindS
  by_cases h1 : kd < 1
  · rw [if_pos (.inl h1)]
    have g : decide (kd < 1) = true := decide_eq_true h1
    go_enter Try.func29, Try.ntmps29
    go_wp2
    all_goals
      go_ret
      exact ⟨rfl, rfl⟩
  · by_cases h2 : (ls.length : Int) < kd
    · rw [if_pos (.inr h2)]
      go_enter Try.func29, Try.ntmps29
      go_wp2
      all_goals
        go_ret
        exact ⟨rfl, rfl⟩
    · rw [if_neg (by omega)]
      obtain ⟨k, rfl⟩ : ∃ k : Nat, kd = (k : Int) + 1 := ⟨(kd - 1).toNat, by omega⟩
      have e : ((k : Int) + 1 - 1).toNat = k := by omega
      rw [e]
      have hk : k < ls.length := by omega
      have c0 := h.2 k hk
      have q0 : (0 : Int) ≤ (k : Int) := by omega
      have q1 : (k : Int) < (ls.length : Int) := by omega
      have q2 : (k : Int) + 1 - 1 = (k : Int) := by omega
      clear h
      go_enter Try.func29, Try.ntmps29
      go_wp2
      all_goals
        go_ret
        exact ⟨rfl, rfl⟩

theorem strNum_cons (a : Int) (n : Nat) (o : List UInt8) (h : a.toNat = n) : strOfNums [a] ++ strB o = strB (UInt8.ofNat n :: o) := by
  have ext : ∀ a b : ByteArray, a.data.toList = b.data.toList → a = b := by
    intro a b h
    cases a
    cases b
    simpa using h
  apply ext
  simp [ByteArray.data_append, strB, strOfNums, h]

end Go.Proofs.Ytploagieecepfaa.Sg
