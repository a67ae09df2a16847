/- Contracts of the program's numberRef and bars. -/
import Derived.Test.YtlaidaghmhmgbaaDoorRfImplAQ
import Derived.Test.YtlaidaghmhmgbaaDoorRfLongQ
import Derived.Test.YtlaidaghmhmgbaaDoorKdKindsQ
import Derived.Test.YtlaidaghmhmgbaaDoorShelf
namespace Go.Proofs.YtlaidaghmhmgbaaDoor.Sg
open Go.ChangeShapes Go.WideShapes Go.ChangeAt Go.RowKit

/-- A sign and how many bytes, as a call hands them back. -/
def pairV : Option (Int × Nat) → Value
  | none => .tuple #[.int .i64 0, .int .i64 0]
  | some (z, m) => .tuple #[.int .i64 z, .int .i64 (m : Int)]

theorem extract_tail (s : ByteArray) (k : Nat) : (s.extract k s.size).data.toList = tailL s k := by
  rw [ByteArray.data_extract]
  unfold tailL
  rw [Array.toList_extract, List.extract_eq_take_drop]
  exact List.take_of_length_le (by rw [List.length_drop, Array.length_toList]; exact Nat.le_refl _)
theorem extract_size (s : ByteArray) (k : Nat) : (s.extract k s.size).size = s.size - k := by simp [ByteArray.size_extract]

theorem two_prefix (b : UInt8) (l : List UInt8) (hb : b = 120 ∨ b = 88) (h : Lib.hasPrefix l [35, b] = true) : l.head? = some 35 ∧ hexG l = true ∧ 2 ≤ l.length := by
  unfold Lib.hasPrefix at h
  match l with
  | [] => simp at h
  | [x] => simp at h
  | x :: y :: r =>
    simp at h
    obtain ⟨rfl, rfl⟩ := h
    refine ⟨rfl, ?_, by simp⟩
    rcases hb with rfl | rfl <;> rfl
theorem one_prefix (l : List UInt8) (h1 : Lib.hasPrefix l [35, 120] = false) (h2 : Lib.hasPrefix l [35, 88] = false) (h : Lib.hasPrefix l [35] = true) : l.head? = some 35 ∧ hexG l = false ∧ 1 ≤ l.length := by
  unfold Lib.hasPrefix at *
  match l with
  | [] => simp at h
  | [x] =>
    simp at h
    subst h
    exact ⟨rfl, rfl, by simp⟩
  | x :: y :: r =>
    simp at h
    subst h
    simp [List.isPrefixOf] at h1 h2
    refine ⟨rfl, ?_, by simp⟩
    simp [hexG, Ne.symm h1, Ne.symm h2]
theorem no_prefix (l : List UInt8) (h : Lib.hasPrefix l [35] = false) : l.head? ≠ some 35 := by
  unfold Lib.hasPrefix at h
  match l with
  | [] => simp
  | x :: r =>
    simp [List.isPrefixOf] at h
    simp
    exact fun e => h e.symm

theorem headG_eq (l : List UInt8) : headG l = if hexG l then 2 else 1 := rfl
theorem baseG_eq (l : List UInt8) : baseG l = if hexG l then 16 else 10 := rfl

set_option maxHeartbeats 2000000 in
theorem implNumberRef (s : ByteArray) (w : World) (hs : s.size ≤ 17592186044416) (hT : Lib.TabIs Tryd.prog w "loop.example/g00325/impl.middleSigns" .i64 midTab) :
    Calls Tryd.prog 58 #[.string s] w fun e w' => e = .returned (pairV (numR s.data.toList)) ∧ w' = w := by
  have HT : Hid (Lib.TabIs Tryd.prog w "loop.example/g00325/impl.middleSigns" .i64 midTab) := hT
  clear hT
  have hlen : s.data.toList.length = s.size := Array.length_toList
  cases hx : Lib.hasPrefix s.data.toList [35, 120]
  · cases hX : Lib.hasPrefix s.data.toList [35, 88]
    · cases h1 : Lib.hasPrefix s.data.toList [35]
      · have Hn : Hid (numR s.data.toList = none) := numR_no _ (no_prefix _ h1)
        go_enter Tryd.func58, Tryd.ntmps58
        go_wp2_with fail
        refine (Tryd.strings_HasPrefix s ⟨#[35, 120]⟩ _).mono ?_
        rintro e w1 ⟨rfl, rfl⟩
        rw [show (⟨#[35, 120]⟩ : ByteArray).data.toList = [35, 120] from rfl, hx]
        go_wp2_with fail
        refine (Tryd.strings_HasPrefix s ⟨#[35, 88]⟩ _).mono ?_
        rintro e w1 ⟨rfl, rfl⟩
        rw [show (⟨#[35, 88]⟩ : ByteArray).data.toList = [35, 88] from rfl, hX]
        go_wp2_with fail
        refine (Tryd.strings_HasPrefix s ⟨#[35]⟩ _).mono ?_
        rintro e w1 ⟨rfl, rfl⟩
        rw [show (⟨#[35]⟩ : ByteArray).data.toList = [35] from rfl, h1]
        go_wp2
        go_ret2
        exact ⟨congrArg (fun x => Ending.returned (pairV x)) Hn.out.symm, rfl⟩
      · have hp := one_prefix _ hx hX h1
        have Hd : Hid (headG s.data.toList = 1) := by show _ = _; rw [headG_eq, hp.2.1]; rfl
        have Hb : Hid (baseG s.data.toList = 10) := by show _ = _; rw [baseG_eq, hp.2.1]; rfl
        have H35 : Hid (s.data.toList.head? = some 35) := hp.1
        have hl : 1 ≤ s.size := by rw [← hlen]; exact hp.2.2
        have hl' : (1 : Int) ≤ (s.size : Int) := by omega
        have He : Hid (numG (baseG s.data.toList) 0 0 (s.data.toList.drop (headG s.data.toList)) = numG 10 0 0 (s.extract 1 s.size).data.toList) := by
          show _ = _
          rw [Hd.out, Hb.out, extract_tail]
          rfl
        have Ha : Hid (∀ w : World, Calls Tryd.prog 78 #[.string (s.extract 1 s.size), .int .i64 10] w fun e w' => e = .returned (.tuple #[.int .i64 ((numG 10 0 0 (s.extract 1 s.size).data.toList).1 : Int), .int .i64 ((numG 10 0 0 (s.extract 1 s.size).data.toList).2 : Int)]) ∧ w' = w) := fun w => implNumberAt (s.extract 1 s.size) 10 w (by decide) (by rw [extract_size]; omega)
        have Hle := numG_le 10 0 0 (s.extract 1 s.size).data.toList
        have hsz : (s.extract 1 s.size).data.toList.length = s.size - 1 := by rw [Array.length_toList]; exact extract_size s 1
        rw [hsz] at Hle
        clear hp hlen hsz
        obtain ⟨n, m, Hg⟩ : ∃ n m, Hid (numG 10 0 0 (s.extract 1 s.size).data.toList = (n, m)) := ⟨_, _, rfl⟩
        rw [Hg.out] at Ha He Hle
        have hle : m ≤ s.size - 1 := by have := Hle.2; simpa using this
        clear Hle
        have Hw : Hid (∀ w : World, Calls Tryd.prog 80 #[.string s, .int .i64 (1 + (m : Int))] w fun e w' => e = .returned (.int .i64 (endG s.data.toList (1 + m) : Int)) ∧ w' = w) := fun w => implWithEnd s (1 + m) w hs
        by_cases hm0 : m = 0
        · subst hm0
          have Hn : Hid (numR s.data.toList = none) := numR_none H35.out He.out
          clear Hw
          go_enter Tryd.func58, Tryd.ntmps58
          go_wp2_with fail
          refine (Tryd.strings_HasPrefix s ⟨#[35, 120]⟩ _).mono ?_
          rintro e w1 ⟨rfl, rfl⟩
          rw [show (⟨#[35, 120]⟩ : ByteArray).data.toList = [35, 120] from rfl, hx]
          go_wp2_with fail
          refine (Tryd.strings_HasPrefix s ⟨#[35, 88]⟩ _).mono ?_
          rintro e w1 ⟨rfl, rfl⟩
          rw [show (⟨#[35, 88]⟩ : ByteArray).data.toList = [35, 88] from rfl, hX]
          go_wp2_with fail
          refine (Tryd.strings_HasPrefix s ⟨#[35]⟩ _).mono ?_
          rintro e w1 ⟨rfl, rfl⟩
          rw [show (⟨#[35]⟩ : ByteArray).data.toList = [35] from rfl, h1]
          go_wp2_with fail
          refine (Ha.out _).mono ?_
          rintro e w1 ⟨rfl, rfl⟩
          go_wp2
          go_ret2
          exact ⟨congrArg (fun x => Ending.returned (pairV x)) Hn.out.symm, rfl⟩
        · have Hn : Hid (numR s.data.toList = some (numB (n : Int), endG s.data.toList (1 + m))) := by
            show _ = _
            rw [numR_some H35.out He.out hm0, Hd.out]
          have g0 : ((m : Int) == 0) = false := by simp; omega
          clear H35 He Hd Hb
          go_enter Tryd.func58, Tryd.ntmps58
          go_wp2_with fail
          refine (Tryd.strings_HasPrefix s ⟨#[35, 120]⟩ _).mono ?_
          rintro e w1 ⟨rfl, rfl⟩
          rw [show (⟨#[35, 120]⟩ : ByteArray).data.toList = [35, 120] from rfl, hx]
          go_wp2_with fail
          refine (Tryd.strings_HasPrefix s ⟨#[35, 88]⟩ _).mono ?_
          rintro e w1 ⟨rfl, rfl⟩
          rw [show (⟨#[35, 88]⟩ : ByteArray).data.toList = [35, 88] from rfl, hX]
          go_wp2_with fail
          refine (Tryd.strings_HasPrefix s ⟨#[35]⟩ _).mono ?_
          rintro e w1 ⟨rfl, rfl⟩
          rw [show (⟨#[35]⟩ : ByteArray).data.toList = [35] from rfl, h1]
          go_wp2_with fail
          refine (Ha.out _).mono ?_
          rintro e w1 ⟨rfl, rfl⟩
          go_wp2_with fail
          refine (implNumbered _ _ HT.out).mono ?_
          rintro e w1 ⟨rfl, rfl⟩
          go_wp2_with fail
          refine (Hw.out _).mono ?_
          rintro e w1 ⟨rfl, rfl⟩
          go_wp2
          go_ret2
          exact ⟨congrArg (fun x => Ending.returned (pairV x)) Hn.out.symm, rfl⟩
    · have hp := two_prefix 88 _ (.inr rfl) hX
      have Hd : Hid (headG s.data.toList = 2) := by show _ = _; rw [headG_eq, hp.2.1]; rfl
      have Hb : Hid (baseG s.data.toList = 16) := by show _ = _; rw [baseG_eq, hp.2.1]; rfl
      have H35 : Hid (s.data.toList.head? = some 35) := hp.1
      have hl : 2 ≤ s.size := by rw [← hlen]; exact hp.2.2
      have hl' : (2 : Int) ≤ (s.size : Int) := by omega
      have He : Hid (numG (baseG s.data.toList) 0 0 (s.data.toList.drop (headG s.data.toList)) = numG 16 0 0 (s.extract 2 s.size).data.toList) := by
        show _ = _
        rw [Hd.out, Hb.out, extract_tail]
        rfl
      have Ha : Hid (∀ w : World, Calls Tryd.prog 78 #[.string (s.extract 2 s.size), .int .i64 16] w fun e w' => e = .returned (.tuple #[.int .i64 ((numG 16 0 0 (s.extract 2 s.size).data.toList).1 : Int), .int .i64 ((numG 16 0 0 (s.extract 2 s.size).data.toList).2 : Int)]) ∧ w' = w) := fun w => implNumberAt (s.extract 2 s.size) 16 w (by decide) (by rw [extract_size]; omega)
      have Hle := numG_le 16 0 0 (s.extract 2 s.size).data.toList
      have hsz : (s.extract 2 s.size).data.toList.length = s.size - 2 := by rw [Array.length_toList]; exact extract_size s 2
      rw [hsz] at Hle
      clear hp hlen hsz
      obtain ⟨n, m, Hg⟩ : ∃ n m, Hid (numG 16 0 0 (s.extract 2 s.size).data.toList = (n, m)) := ⟨_, _, rfl⟩
      rw [Hg.out] at Ha He Hle
      have hle : m ≤ s.size - 2 := by have := Hle.2; simpa using this
      clear Hle
      have Hw : Hid (∀ w : World, Calls Tryd.prog 80 #[.string s, .int .i64 (2 + (m : Int))] w fun e w' => e = .returned (.int .i64 (endG s.data.toList (2 + m) : Int)) ∧ w' = w) := fun w => implWithEnd s (2 + m) w hs
      by_cases hm0 : m = 0
      · subst hm0
        have Hn : Hid (numR s.data.toList = none) := numR_none H35.out He.out
        clear Hw
        go_enter Tryd.func58, Tryd.ntmps58
        go_wp2_with fail
        refine (Tryd.strings_HasPrefix s ⟨#[35, 120]⟩ _).mono ?_
        rintro e w1 ⟨rfl, rfl⟩
        rw [show (⟨#[35, 120]⟩ : ByteArray).data.toList = [35, 120] from rfl, hx]
        go_wp2_with fail
        refine (Tryd.strings_HasPrefix s ⟨#[35, 88]⟩ _).mono ?_
        rintro e w1 ⟨rfl, rfl⟩
        rw [show (⟨#[35, 88]⟩ : ByteArray).data.toList = [35, 88] from rfl, hX]
        go_wp2_with fail
        refine (Ha.out _).mono ?_
        rintro e w1 ⟨rfl, rfl⟩
        go_wp2
        go_ret2
        exact ⟨congrArg (fun x => Ending.returned (pairV x)) Hn.out.symm, rfl⟩
      · have Hn : Hid (numR s.data.toList = some (numB (n : Int), endG s.data.toList (2 + m))) := by
          show _ = _
          rw [numR_some H35.out He.out hm0, Hd.out]
        have g0 : ((m : Int) == 0) = false := by simp; omega
        clear H35 He Hd Hb
        go_enter Tryd.func58, Tryd.ntmps58
        go_wp2_with fail
        refine (Tryd.strings_HasPrefix s ⟨#[35, 120]⟩ _).mono ?_
        rintro e w1 ⟨rfl, rfl⟩
        rw [show (⟨#[35, 120]⟩ : ByteArray).data.toList = [35, 120] from rfl, hx]
        go_wp2_with fail
        refine (Tryd.strings_HasPrefix s ⟨#[35, 88]⟩ _).mono ?_
        rintro e w1 ⟨rfl, rfl⟩
        rw [show (⟨#[35, 88]⟩ : ByteArray).data.toList = [35, 88] from rfl, hX]
        go_wp2_with fail
        refine (Ha.out _).mono ?_
        rintro e w1 ⟨rfl, rfl⟩
        go_wp2_with fail
        refine (implNumbered _ _ HT.out).mono ?_
        rintro e w1 ⟨rfl, rfl⟩
        go_wp2_with fail
        refine (Hw.out _).mono ?_
        rintro e w1 ⟨rfl, rfl⟩
        go_wp2
        go_ret2
        exact ⟨congrArg (fun x => Ending.returned (pairV x)) Hn.out.symm, rfl⟩
  · have hp := two_prefix 120 _ (.inl rfl) hx
    have Hd : Hid (headG s.data.toList = 2) := by show _ = _; rw [headG_eq, hp.2.1]; rfl
    have Hb : Hid (baseG s.data.toList = 16) := by show _ = _; rw [baseG_eq, hp.2.1]; rfl
    have H35 : Hid (s.data.toList.head? = some 35) := hp.1
    have hl : 2 ≤ s.size := by rw [← hlen]; exact hp.2.2
    have hl' : (2 : Int) ≤ (s.size : Int) := by omega
    have He : Hid (numG (baseG s.data.toList) 0 0 (s.data.toList.drop (headG s.data.toList)) = numG 16 0 0 (s.extract 2 s.size).data.toList) := by
      show _ = _
      rw [Hd.out, Hb.out, extract_tail]
      rfl
    have Ha : Hid (∀ w : World, Calls Tryd.prog 78 #[.string (s.extract 2 s.size), .int .i64 16] w fun e w' => e = .returned (.tuple #[.int .i64 ((numG 16 0 0 (s.extract 2 s.size).data.toList).1 : Int), .int .i64 ((numG 16 0 0 (s.extract 2 s.size).data.toList).2 : Int)]) ∧ w' = w) := fun w => implNumberAt (s.extract 2 s.size) 16 w (by decide) (by rw [extract_size]; omega)
    have Hle := numG_le 16 0 0 (s.extract 2 s.size).data.toList
    have hsz : (s.extract 2 s.size).data.toList.length = s.size - 2 := by rw [Array.length_toList]; exact extract_size s 2
    rw [hsz] at Hle
    clear hp hlen hsz
    obtain ⟨n, m, Hg⟩ : ∃ n m, Hid (numG 16 0 0 (s.extract 2 s.size).data.toList = (n, m)) := ⟨_, _, rfl⟩
    rw [Hg.out] at Ha He Hle
    have hle : m ≤ s.size - 2 := by have := Hle.2; simpa using this
    clear Hle
    have Hw : Hid (∀ w : World, Calls Tryd.prog 80 #[.string s, .int .i64 (2 + (m : Int))] w fun e w' => e = .returned (.int .i64 (endG s.data.toList (2 + m) : Int)) ∧ w' = w) := fun w => implWithEnd s (2 + m) w hs
    by_cases hm0 : m = 0
    · subst hm0
      have Hn : Hid (numR s.data.toList = none) := numR_none H35.out He.out
      clear Hw
      go_enter Tryd.func58, Tryd.ntmps58
      go_wp2_with fail
      refine (Tryd.strings_HasPrefix s ⟨#[35, 120]⟩ _).mono ?_
      rintro e w1 ⟨rfl, rfl⟩
      rw [show (⟨#[35, 120]⟩ : ByteArray).data.toList = [35, 120] from rfl, hx]
      go_wp2_with fail
      refine (Ha.out _).mono ?_
      rintro e w1 ⟨rfl, rfl⟩
      go_wp2
      go_ret2
      exact ⟨congrArg (fun x => Ending.returned (pairV x)) Hn.out.symm, rfl⟩
    · have Hn : Hid (numR s.data.toList = some (numB (n : Int), endG s.data.toList (2 + m))) := by
        show _ = _
        rw [numR_some H35.out He.out hm0, Hd.out]
      have g0 : ((m : Int) == 0) = false := by simp; omega
      clear H35 He Hd Hb
      go_enter Tryd.func58, Tryd.ntmps58
      go_wp2_with fail
      refine (Tryd.strings_HasPrefix s ⟨#[35, 120]⟩ _).mono ?_
      rintro e w1 ⟨rfl, rfl⟩
      rw [show (⟨#[35, 120]⟩ : ByteArray).data.toList = [35, 120] from rfl, hx]
      go_wp2_with fail
      refine (Ha.out _).mono ?_
      rintro e w1 ⟨rfl, rfl⟩
      go_wp2_with fail
      refine (implNumbered _ _ HT.out).mono ?_
      rintro e w1 ⟨rfl, rfl⟩
      go_wp2_with fail
      refine (Hw.out _).mono ?_
      rintro e w1 ⟨rfl, rfl⟩
      go_wp2
      go_ret2
      exact ⟨congrArg (fun x => Ending.returned (pairV x)) Hn.out.symm, rfl⟩

set_option maxHeartbeats 2000000 in
theorem implBars (s : ByteArray) (w : World) :
    Calls Tryd.prog 82 #[.string s] w fun e w' => e = .returned (.bool (barsB s.data.toList)) ∧ Below w.heap.size w w' := by
  by_cases h0 : 0 < s.size
  · have hst : s.data.toList = s[0] :: tailL s 1 := tailL_step s 0 h0
    have Hb : Hid (barsB s.data.toList = (decide ((s[0]'h0).toNat = 61) || (letterB ((s[0]'h0).toNat : Int) || decide (digV (s[0]'h0).toNat < 10)))) := by
      show _ = _
      rw [hst]
      rfl
    have g0 : (s.toList == []) = false := by
      rw [ByteArray.toList_eq, hst]
      rfl
    have g0' : s.toList.isEmpty = false := by
      rw [ByteArray.toList_eq, hst]
      rfl
    have hb256 : (s[0]'h0).toNat < 256 := UInt8.toNat_lt _
    clear hst
    by_cases h61 : (s[0]'h0).toNat = 61
    · have Hn : Hid (barsB s.data.toList = true) := by show _ = _; rw [Hb.out, decide_eq_true h61]; rfl
      have g1 : (((s[0]'h0).toNat : Int) == 61) = true := by simp [h61]
      clear h61 Hb
      go_enter Tryd.func82, Tryd.ntmps82
      go_wp2
      go_ret
      exact ⟨ret_bool Hn.out.symm, Below.refl _ _⟩
    · have g1 : (((s[0]'h0).toNat : Int) == 61) = false := by simp; omega
      have Hl := fun w : World => implIsLetter ((s[0]'h0).toNat : Int) w
      cases hlt : letterB ((s[0]'h0).toNat : Int)
      · rw [hlt] at Hl
        have Hn : Hid (barsB s.data.toList = decide (digV (s[0]'h0).toNat < 10)) := by show _ = _; rw [Hb.out, decide_eq_false h61, hlt]; rfl
        have Hd := fun w : World => implDigitOf (s[0]'h0).toNat w (UInt8.toNat_lt _)
        generalize digV (s[0]'h0).toNat = dv at *
        clear h61 Hb hlt
        go_enter Tryd.func82, Tryd.ntmps82
        go_wp2_with fail
        refine (Hl _).mono ?_
        rintro e w1 ⟨rfl, b1⟩
        go_wp2_with fail
        refine (Hd _).mono ?_
        rintro e w2 ⟨rfl, rfl⟩
        go_wp2
        go_ret
        exact ⟨ret_bool (Eq.trans (by simp; omega) Hn.out.symm), b1⟩
      · rw [hlt] at Hl
        have Hn : Hid (barsB s.data.toList = true) := by show _ = _; rw [Hb.out, hlt]; simp
        clear h61 Hb hlt
        go_enter Tryd.func82, Tryd.ntmps82
        go_wp2_with fail
        refine (Hl _).mono ?_
        rintro e w1 ⟨rfl, b1⟩
        go_wp2
        go_ret
        exact ⟨ret_bool Hn.out.symm, b1⟩
  · have hst : s.data.toList = [] := tailL_end s 0 h0
    have Hn : Hid (barsB s.data.toList = false) := by show _ = _; rw [hst]; rfl
    have g0 : s.toList = [] := by rw [ByteArray.toList_eq, hst]
    clear hst
    go_enter Tryd.func82, Tryd.ntmps82
    go_wp2
    go_ret
    exact ⟨ret_bool Hn.out.symm, Below.refl _ _⟩

end Go.Proofs.YtlaidaghmhmgbaaDoor.Sg
