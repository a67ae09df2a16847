/- The program's isNoText, slices.ContainsFunc over numbers, and TextOk. -/
import Derived.Test.YtfbnhjogkjbcbaaDoorMN01
import Derived.Shelf.Abstract
namespace Go.Proofs.YtfbnhjogkjbcbaaDoor.Sg
open Go.ChangeShapes Go.WideShapes Go.ChangeAt Go.RowKit Go.Shelf

theorem implIsNoText (z : Int) (w : World) :
    Calls Tryd.prog 93 #[.int .i64 z] w fun e w' => e = .returned (.bool (!textB z)) ∧ w' = w := by
  go_enter Tryd.func93, Tryd.ntmps93
  go_wp2_with fail
  refine (implIsText z _).mono ?_
  rintro e w1 ⟨rfl, rfl⟩
  go_wp2_with fail
  go_ret
  exact ⟨rfl, rfl⟩

set_option maxHeartbeats 2000000 in
theorem implIndexFunc (zs : List Int) (n : Nat) (hn : zs.length = n) (q : Int → Bool) (g : Nat) (eg : ∀ args w, (callFunc g args).run Tryd.prog w = .ok (.enter g args) w) (hq : ∀ x W, Calls Tryd.prog g #[.int .i64 x] W fun e W' => e = .returned (.bool (q x)) ∧ W' = W)
    (a : Option Addr) (ca : Nat) (w : World) (ha : Ints w a zs) (hl : n ≤ 17592186044416) :
    Calls Tryd.prog 102 #[.slice a n ca, .func (.func g) #[] #[]] w fun e w' => (∃ m : Int, e = .returned (.int .i64 m) ∧ decide (0 ≤ m) = zs.any q) ∧ w' = w := by
  have I1 : Hid (Ints w a zs) := ha
  have Hlen : Hid (zs.length = n) := hn
  have Hq : Hid (∀ x W, Calls Tryd.prog g #[.int .i64 x] W fun e W' => e = .returned (.bool (q x)) ∧ W' = W) := hq
  clear ha hn hq
  go_enter Tryd.func102, Tryd.ntmps102
  go_wp2_with fail
  go_loopw [5, 8] (fun _ i wr => ∃ k : Nat, k ≤ n ∧ i = .int .i64 k ∧ wr = w ∧ Hid (zs.any q = (zs.drop k).any q)) (fun _ i _ => n - (intOf i).toNat)
  case atStart => exact ⟨0, Nat.zero_le _, rfl, rfl, rfl⟩
  case round =>
    obtain ⟨k, hk, rfl, rfl, Hk⟩ := hrel
    by_cases hlt : k < n
    · obtain ⟨b, o, rfl, hb, hc⟩ := I1.out.cell (Below.refl _ _) (by rw [Hlen.out]; exact hlt)
      have hst : (zs.drop k).any q = (q (zs.getD k 0) || (zs.drop (k + 1)).any q) := by
        rw [List.drop_eq_getElem_cons (by rw [Hlen.out]; exact hlt), List.any_cons]
        simp [Hlen.out, hlt]
      generalize hz : zs.getD k 0 = z at *
      clear hz
      have Hst : Hid (zs.any q = (q z || (zs.drop (k + 1)).any q)) := Hk.out.trans hst
      clear hst Hk
      have g1 : (k : Int) < (n : Int) := by omega
      have Hf := fun W => Hq.out z W
      cases hf : q z
      · rw [hf] at Hf
        have Hnx : Hid (zs.any q = (zs.drop (k + 1)).any q) := by
          show _ = _
          rw [Hst.out, hf]
          rfl
        clear hf Hst
        go_wp2_with (go_at_fn g; refine (Hf _).mono ?_; rintro e w' ⟨rfl, rfl⟩)
        go_roundw
        case rel => exact ⟨k + 1, by omega, by go_num, trivial, Hnx⟩
        case measure => simp [intOf]; omega
      · rw [hf] at Hf
        have Hv : Hid (zs.any q = true) := by
          show _ = _
          rw [Hst.out, hf]
          rfl
        clear hf Hst
        go_wp2_with (go_at_fn g; refine (Hf _).mono ?_; rintro e w' ⟨rfl, rfl⟩)
        go_ret
        exact ⟨⟨k, rfl, by rw [Hv.out]; exact decide_eq_true (Int.natCast_nonneg _)⟩, rfl⟩
    · have Hv : Hid (zs.any q = false) := by
        show _ = _
        rw [Hk.out, List.drop_eq_nil_of_le (by have := Hlen.out; omega)]
        rfl
      have g1 : ¬ (k : Int) < (n : Int) := by omega
      clear Hk
      go_wp2_with fail
      go_ret
      exact ⟨⟨-1, rfl, by rw [Hv.out]; rfl⟩, rfl⟩

set_option maxHeartbeats 1000000 in
theorem implContainsFunc (zs : List Int) (n : Nat) (hn : zs.length = n) (q : Int → Bool) (g : Nat) (eg : ∀ args w, (callFunc g args).run Tryd.prog w = .ok (.enter g args) w) (hq : ∀ x W, Calls Tryd.prog g #[.int .i64 x] W fun e W' => e = .returned (.bool (q x)) ∧ W' = W)
    (a : Option Addr) (ca : Nat) (w : World) (ha : Ints w a zs) (hl : n ≤ 17592186044416) :
    Calls Tryd.prog 91 #[.slice a n ca, .func (.func g) #[] #[]] w fun e w' => e = .returned (.bool (zs.any q)) ∧ w' = w := by
  have H := implIndexFunc zs n hn q g eg hq a ca w ha hl
  clear ha hq eg
  go_enter Tryd.func91, Tryd.ntmps91
  go_wp2_with fail
  refine H.mono ?_
  rintro e w1 ⟨⟨m, rfl, hm⟩, rfl⟩
  have Hm : Hid (decide (0 ≤ m) = zs.any q) := hm
  clear H hm
  go_wp2_with fail
  go_ret
  exact ⟨ret_bool Hm.out, rfl⟩

theorem any_not_text (zs : List Int) : (!(zs.any fun z => !textB z)) = zs.all textB := by
  rw [List.not_any_eq_all_not]
  congr 1
  funext z
  exact Bool.not_not _

set_option maxHeartbeats 2000000 in
theorem implTextOk (s : ByteArray) (w : World) (hs : s.size ≤ 17592186044416) (hT : Lib.Utf8Tabs 1 2 w) :
    Calls Tryd.prog 79 #[.string s] w fun e w' => e = .returned (.bool (stTextB s)) ∧ Below w.heap.size w w' := by
  have Hn : Hid (stTextB s = ((!((signsL s).any fun z => !textB z)) && cleanB s)) := by
    show _ = _
    rw [any_not_text]
    rfl
  have HT : Hid (Lib.Utf8Tabs 1 2 w) := hT
  clear hT
  have hl := signsL_length s
  have Hc := fun W h => implCleanOk s W hs h
  cases hcb : cleanB s
  · have Hno : Hid (stTextB s = false) := by show _ = _; rw [Hn.out, hcb, Bool.and_false]
    rw [hcb] at Hc
    clear hcb Hn
    go_enter Tryd.func79, Tryd.ntmps79
    go_wp2_with fail
    refine (Hc _ HT.out).mono ?_
    rintro e w1 ⟨rfl, b1⟩
    go_wp2_with fail
    go_ret
    exact ⟨ret_bool Hno.out.symm, b1⟩
  · have Hy : Hid (stTextB s = !((signsL s).any fun z => !textB z)) := by show _ = _; rw [Hn.out, hcb, Bool.and_true]
    rw [hcb] at Hc
    clear hcb Hn
    go_enter Tryd.func79, Tryd.ntmps79
    go_wp2_with fail
    refine (Hc _ HT.out).mono ?_
    rintro e w1 ⟨rfl, b1⟩
    have HT1 : Hid (Lib.Utf8Tabs 1 2 w1) := Utf8Tabs_below HT.out b1
    clear Hc
    go_wp2_with fail
    refine (implSigns s _ hs HT1.out).mono ?_
    rintro e w2 ⟨a, cap, rfl, o1, b2⟩
    have I1 := implContainsFunc (signsL s) (signsL s).length rfl (fun z => !textB z) 93 (enters_of Tryd.func93 (by kernel_rfl) rfl) implIsNoText a cap w2 o1.ints (by omega)
    clear o1
    generalize (signsL s).length = n at *
    generalize ((signsL s).any fun z => !textB z) = v at *
    go_wp2_with fail
    refine I1.mono ?_
    rintro e w3 ⟨rfl, rfl⟩
    clear I1
    go_wp2_with fail
    go_ret
    exact ⟨ret_bool Hy.out.symm, b1.trans (b2.mono b1.size)⟩

end Go.Proofs.YtfbnhjogkjbcbaaDoor.Sg
