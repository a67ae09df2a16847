/- The program's mayStand, checkName and NameOk. -/
import Derived.Test.YtdpjmngodbgacaaGreatDoorStNameQ
import Derived.Test.YtdpjmngodbgacaaGreatDoorM07
namespace Go.Proofs.YtdpjmngodbgacaaGreatDoor.Sg
open Go.ChangeShapes Go.WideShapes Go.ChangeAt Go.RowKit

/-- Whether the sign at that place may stand there. -/
def stayAt (zs : List Int) (k : Nat) : Bool := stayB (decide (k = 0)) (zs.getD k 0)

theorem stName_from (zs : List Int) (m : Nat) : ∀ k, zs.length - k = m → (stNameL (decide (k = 0)) (zs.drop k) = true ↔ ∀ j, k ≤ j → j < zs.length → stayAt zs j = true) := by
  induction m with
  | zero =>
    intro k hk
    rw [List.drop_eq_nil_of_le (by omega)]
    unfold stNameL
    exact ⟨fun _ j h1 h2 => by omega, fun _ => rfl⟩
  | succ m ih =>
    intro k hk
    have hlt : k < zs.length := by omega
    rw [stNameL_drop zs k hlt, Bool.and_eq_true]
    have h1 := ih (k + 1) (by omega)
    rw [decide_eq_false (by omega : ¬ k + 1 = 0)] at h1
    rw [h1]
    constructor
    · rintro ⟨h2, h3⟩ j hj hj2
      by_cases e : j = k
      · subst e
        exact h2
      · exact h3 j (by omega) hj2
    · intro h
      exact ⟨h k (Nat.le_refl _) hlt, fun j hj hj2 => h j (by omega) hj2⟩
theorem stName_iff (zs : List Int) : stNameL true zs = true ↔ ∀ j, j < zs.length → stayAt zs j = true := by
  have h := stName_from zs zs.length 0 rfl
  rw [List.drop_zero, decide_eq_true rfl] at h
  rw [h]
  exact ⟨fun h j hj => h j (Nat.zero_le _) hj, fun h j _ hj => h j hj⟩

theorem implMayStand (z : Int) (k : Nat) (w : World) :
    Calls Tryz.prog 55 #[.int .i64 z, .int .i64 (k : Int)] w fun e w' => e = .returned (.bool (stayB (decide (k = 0)) z)) ∧ Below w.heap.size w w' := by
  by_cases h0 : k = 0
  · subst h0
    have g0 : (((0 : Nat) : Int) == 0) = true := rfl
    go_enter Tryz.func55, Tryz.ntmps55
    go_wp2_with fail
    refine (implIsFirst z _).mono ?_
    rintro e w1 ⟨rfl, b1⟩
    go_wp2_with fail
    go_ret
    exact ⟨rfl, b1⟩
  · have g0 : ((k : Int) == 0) = false := by simp; exact h0
    have Hd : Hid (stayB (decide (k = 0)) z = nextB z) := by show _ = _; rw [decide_eq_false h0]; rfl
    clear h0
    go_enter Tryz.func55, Tryz.ntmps55
    go_wp2_with fail
    refine (implIsNext z _).mono ?_
    rintro e w1 ⟨rfl, b1⟩
    go_wp2_with fail
    go_ret
    exact ⟨ret_bool Hd.out.symm, b1⟩

/-- What checkName tells of signs from a place on: nothing, or the first place at which they are none. -/
def CheckR (zs : List Int) (fr : Nat) (e : Ending) : Prop :=
  (e = .returned .nilIface ∧ zs ≠ [] ∧ ∀ k, fr ≤ k → k < zs.length → stayAt zs k = true) ∨
  (∃ m : Nat, e = .returned (.iface 56 (.agg #[.int .i64 (m : Int)])) ∧ ((zs = [] ∧ m = 0) ∨ (fr ≤ m ∧ m < zs.length ∧ (∀ k, fr ≤ k → k < m → stayAt zs k = true) ∧ stayAt zs m = false)))

set_option maxHeartbeats 2000000 in
theorem implCheckName (zs : List Int) (a : Option Addr) (ca fr : Nat) (w : World) (ha : Ints w a zs) (hn : zs.length ≤ 17592186044416) (hf : fr ≤ zs.length) :
    Calls Tryz.prog 35 #[.slice a zs.length ca, .int .i64 (fr : Int)] w fun e w' => CheckR zs fr e ∧ Below w.heap.size w w' := by
  have I1 : Hid (Ints w a zs) := ha
  clear ha
  by_cases hz : zs.length = 0
  · have hnil : zs = [] := List.eq_nil_of_length_eq_zero hz
    subst hnil
    go_enter Tryz.func35, Tryz.ntmps35
    go_wp2_with fail
    go_ret
    exact ⟨.inr ⟨0, rfl, .inl ⟨rfl, rfl⟩⟩, Below.refl _ _⟩
  have Hne : Hid (zs ≠ []) := by
    show zs ≠ []
    intro e
    exact hz (by rw [e]; rfl)
  generalize hlen : zs.length = n at *
  have Hlen : Hid (zs.length = n) := hlen
  clear hlen
  have g0 : ((n : Int) == 0) = false := by simp; exact hz
  clear hz
  go_enter Tryz.func35, Tryz.ntmps35
  go_wp2_with fail
  go_loopw [5] (fun i wr => ∃ k : Nat, fr ≤ k ∧ k ≤ n ∧ i = .int .i64 k ∧ Hid (∀ j, fr ≤ j → j < k → stayAt zs j = true) ∧ Below w.heap.size w wr) (fun i _ => n - (intOf i).toNat)
  case atStart => exact ⟨fr, Nat.le_refl _, hf, rfl, fun j h1 h2 => by omega, Below.refl _ _⟩
  case round =>
    obtain ⟨k, hfk, hk, rfl, Hk, hbel⟩ := hrel
    by_cases hlt : k < n
    · obtain ⟨b, o, rfl, hb, hc⟩ := I1.out.cell hbel (by rw [Hlen.out]; exact hlt)
      have g1 : decide ((k : Int) < (n : Int)) = true := decide_eq_true (by omega)
      have Hst : Hid (stayAt zs k = stayB (decide (k = 0)) (zs.getD k 0)) := rfl
      generalize hz : zs.getD k 0 = z at *
      clear hz
      cases hs : stayB (decide (k = 0)) z
      · have Hm : ∀ W, Calls Tryz.prog 55 #[.int .i64 z, .int .i64 (k : Int)] W fun e w' => e = .returned (.bool false) ∧ Below W.heap.size W w' := fun W => hs ▸ implMayStand z k W
        have Hs : Hid (stayAt zs k = false) := Hst.out.trans hs
        clear hs Hst
        go_wp2_with fail
        refine (Hm _).mono ?_
        rintro e w1 ⟨rfl, b1⟩
        go_wp2_with fail
        go_ret
        exact ⟨.inr ⟨k, rfl, .inr ⟨hfk, by rw [Hlen.out]; exact hlt, Hk.out, Hs.out⟩⟩, hbel.trans (b1.mono hbel.size)⟩
      · have Hm : ∀ W, Calls Tryz.prog 55 #[.int .i64 z, .int .i64 (k : Int)] W fun e w' => e = .returned (.bool true) ∧ Below W.heap.size W w' := fun W => hs ▸ implMayStand z k W
        have Hs : Hid (∀ j, fr ≤ j → j < k + 1 → stayAt zs j = true) := by
          intro j h1 h2
          by_cases e : j = k
          · subst e
            exact Hst.out.trans hs
          · exact Hk.out j h1 (by omega)
        clear hs Hst Hk
        go_wp2_with fail
        refine (Hm _).mono ?_
        rintro e w1 ⟨rfl, b1⟩
        have b1' : Below w.heap.size w w1 := hbel.trans (b1.mono hbel.size)
        clear b1 hbel hc
        go_wp2_with fail
        go_roundw
        case rel => exact ⟨k + 1, by omega, by omega, by go_num, Hs, b1'⟩
        case measure => simp [intOf]; omega
    · have g1 : decide ((k : Int) < (n : Int)) = false := decide_eq_false (by omega)
      have Hall : Hid (∀ j, fr ≤ j → j < zs.length → stayAt zs j = true) := fun j h1 h2 => Hk.out j h1 (by have := Hlen.out; omega)
      clear Hk
      go_wp2_with fail
      go_ret
      exact ⟨.inl ⟨rfl, Hne.out, Hall.out⟩, hbel⟩

end Go.Proofs.YtdpjmngodbgacaaGreatDoor.Sg
