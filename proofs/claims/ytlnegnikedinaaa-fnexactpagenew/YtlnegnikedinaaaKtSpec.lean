/- Contracts of the model's Void, OfHead, Format, Block, Part, Wall, Head. -/
import Derived.Test.YtlnegnikedinaaaKtP
namespace Go.Proofs.Ytlnegnikedinaaa.Sg
open Go.ChangeShapes Go.WideShapes Go.ChangeAt Go.RowKit

theorem ret_k {a b : Bool} (h : a = b) : Ending.returned (.bool a) = .returned (.bool b) := by rw [h]

set_option maxHeartbeats 1000000 in
theorem specIs (s : ByteArray) (b n cap : Nat) (ls : List (List UInt8)) (w : World) (h : Texts w b ls) (hn : ls.length = n) (hm : n ≤ 1000) :
    Calls Try.prog 40 #[.string s, .slice (some ⟨b, 0, none⟩) n cap] w fun e w' => e = .returned (.bool (isIn s ls)) ∧ w' = w := by
  have HT : Hid (Texts w b ls) := h
  have Hn : Hid (ls.length = n) := hn
  have HR : Hid (isIn s ls = isIn s (ls.drop 0)) := rfl
  generalize isIn s ls = R at *
  clear h hn
  go_enter Try.func40, Try.ntmps40
  go_wp2
  go_loopw [5] (fun kv wr => ∃ k : Nat, k ≤ n ∧ kv = .int .i64 k ∧ Hid (R = isIn s (ls.drop k)) ∧ wr = w) (fun kv _ => n - (intOf kv).toNat)
  case atStart => exact ⟨0, Nat.zero_le _, rfl, HR, rfl⟩
  case round =>
    clear HR
    obtain ⟨k, hk, rfl, HR, rfl⟩ := hrel
    by_cases hlt : k < n
    · have hkl : k < ls.length := by rw [Hn.out]; exact hlt
      have c0 := HT.out.2 k hkl
      have hd := HR.out.trans (isIn_drop hkl)
      have g1 : (k : Int) < (n : Int) := by omega
      have g0 : (0 : Int) ≤ (k : Int) := by omega
      by_cases he : ls.getD k [] = s.data.toList
      · have g2 := str_eq he
        have Hd : Hid (R = true) := by show _ = _; rw [hd, he]; simp
        clear HR hd he
        generalize strB (ls.getD k []) = y at *
        go_wp2_with fail
        go_ret
        exact ⟨ret_k Hd.out.symm, rfl⟩
      · have g2 := str_ne he
        have Hd : Hid (R = isIn s (ls.drop (k + 1))) := by show _ = _; rw [hd, beq_false_of_ne he]; rfl
        clear HR hd he
        generalize strB (ls.getD k []) = y at *
        go_wp2_with fail
        go_roundw
        case rel => exact ⟨k + 1, by omega, by go_num, Hd, by first | trivial | rfl⟩
        case measure => simp [intOf]; omega
    · have g1 : decide ((k : Int) < (n : Int)) = false := decide_eq_false (by omega)
      have Hd : Hid (R = false) := HR.out.trans (isIn_end (by rw [Hn.out]; omega))
      clear HR
      go_wp2_with fail
      go_ret
      exact ⟨ret_k Hd.out.symm, rfl⟩

end Go.Proofs.Ytlnegnikedinaaa.Sg
