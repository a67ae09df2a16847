/- Contract of the laws' marks of texts. -/
import Derived.Test.YtlnegnikedinaaaGConv
import Derived.Test.YtlnegnikedinaaaGOwn
namespace Go.Proofs.Ytlnegnikedinaaa.Sg
open Go.ChangeShapes Go.WideShapes Go.ChangeAt Go.RowKit

/-- The digits of a number ahead of a text. -/
def digS (k : Nat) (out : ByteArray) : ByteArray := if 0 < k then digS (k / 10) (strOfNums [48 + ((k % 10 : Nat) : Int)] ++ out) else out
  termination_by k
  decreasing_by omega
/-- The text that marks a number. -/
def markB (k : Nat) : ByteArray := if 0 < k then ⟨#[109]⟩ ++ digS k ⟨#[]⟩ else ⟨#[109, 48]⟩

theorem digS_yes {k : Nat} {out : ByteArray} (h : 0 < k) : digS k out = digS (k / 10) (strOfNums [48 + ((k % 10 : Nat) : Int)] ++ out) := by
  rw [digS, if_pos h]
theorem digS_no {k : Nat} {out : ByteArray} (h : ¬ 0 < k) : digS k out = out := by
  rw [digS, if_neg h]

theorem ret_text {a b : ByteArray} (h : a = b) : Ending.returned (.string a) = .returned (.string b) := by rw [h]

set_option maxHeartbeats 2000000 in
theorem markText_any (k0 : Nat) (w : World) (hk0 : k0 ≤ 1152921504606846976) :
    Calls Try.prog 45 #[.int .i64 (k0 : Int)] w fun e w' => e = .returned (.string (markB k0)) ∧ Below w.heap.size w w' := by
  by_cases h0 : 0 < k0
  · have Hm : Hid (markB k0 = ⟨#[109]⟩ ++ digS k0 ⟨#[]⟩) := if_pos h0
    have g0 : ¬ (k0 : Int) ≤ 0 := by omega
    go_enter Try.func45, Try.ntmps45
    go_wp2
    go_loopw [0, 3] (fun kv ov wr => ∃ (k : Nat) (out : ByteArray), k ≤ k0 ∧ out.size + k ≤ k0 ∧ kv = .int .i64 (k : Int) ∧ ov = .string out ∧ Hid (digS k0 ⟨#[]⟩ = digS k out) ∧ Below w.heap.size w wr) (fun kv _ _ => (intOf kv).toNat)
    case atStart => exact ⟨k0, ⟨#[]⟩, Nat.le_refl _, Nat.le_of_eq (by show 0 + k0 = k0; omega), rfl, rfl, rfl, Below.refl _ _⟩
    case round =>
      obtain ⟨k, out, hk, hks, rfl, rfl, Hsp, hbel⟩ := hrel
      by_cases hlt : 0 < k
      · have Hn : Hid (digS k0 ⟨#[]⟩ = digS (k / 10) (strOfNums [48 + ((k % 10 : Nat) : Int)] ++ out)) := Hsp.out.trans (digS_yes hlt)
        have g1 : (0 : Int) < (k : Int) := by omega
        obtain ⟨d, hd⟩ : ∃ d : Nat, k % 10 = d := ⟨_, rfl⟩
        obtain ⟨q, hq⟩ : ∃ q : Nat, k / 10 = q := ⟨_, rfl⟩
        have e1 : (k : Int) % 10 = (d : Int) := by omega
        have e2 : (k : Int) / 10 = (q : Int) := by omega
        have hd10 : d < 10 := by omega
        have hqk : q + 1 ≤ k := by omega
        rw [hd, hq] at Hn
        have c1 := conv1 (48 + (d : Int)) wr
        have hs1 : (strOfNums [48 + (d : Int)]).size = 1 := rfl
        generalize strOfNums [48 + (d : Int)] = t at *
        have hst : (t ++ out).size = t.size + out.size := by simp [ByteArray.size_append]
        clear Hsp hd hq
        go_wp2
        go_roundw
        case rel => exact ⟨q, t ++ out, by omega, by rw [hst, hs1]; omega, rfl, rfl, Hn, hbel.alloc hbel.size _⟩
        case measure => simp [intOf]; omega
      · have Hn : Hid (digS k0 ⟨#[]⟩ = out) := Hsp.out.trans (digS_no hlt)
        have g1 : ¬ (0 : Int) < (k : Int) := by omega
        have g2 : decide ((0 : Int) < (k : Int)) = false := decide_eq_false g1
        clear Hsp
        go_wp2
        go_ret
        exact ⟨ret_text (by rw [Hm.out, Hn.out]), hbel⟩
  · have Hm : Hid (markB k0 = ⟨#[109, 48]⟩) := if_neg h0
    have g0 : (k0 : Int) ≤ 0 := by omega
    go_enter Try.func45, Try.ntmps45
    go_wp2
    go_ret
    exact ⟨ret_text (by rw [Hm.out]), Below.refl _ _⟩

end Go.Proofs.Ytlnegnikedinaaa.Sg
