/- Contracts of the model's NoteOk and NoteOf. -/
import Derived.Test.YtbmmghkieolpkaaGreatDoorMR2113
import Derived.Test.YtbmmghkieolpkaaGreatDoorMR2110
namespace Go.Proofs.YtbmmghkieolpkaaGreatDoor.Sg
open Go.ChangeShapes Go.WideShapes Go.ChangeAt Go.RowKit

theorem st_find_list (b : UInt8) (l : List UInt8) : (findL b l).isNone = l.all fun x => x != b := by
  induction l with
  | nil => rfl
  | cons x l ih =>
    rw [findL, List.all_cons, ← ih]
    by_cases h : x = b
    · simp [h]
    · simp [h]
theorem tail_all (s : ByteArray) : tailL s 0 = s.data.toList := by
  simp [tailL]
theorem st_find (s : ByteArray) (b : UInt8) : (findE s 0 b).isNone = s.data.toList.all fun x => x != b := by
  unfold findE
  rw [Option.isNone_map, st_find_list, tail_all]
theorem st_stands (s : ByteArray) (k : Nat) (h : k + 1 < s.size) : standsB s k ⟨#[45, 45]⟩ = (s[k]'(by omega) == 45 && s[k + 1]'h == 45) := by
  have h2 : (⟨#[45, 45]⟩ : ByteArray).size = 2 := rfl
  unfold standsB
  rw [h2, decide_eq_true (by omega), Bool.true_and]
  have e1 : (⟨#[45, 45]⟩ : ByteArray).toList = [45, 45] := ByteArray.toList_mk _
  have e2 : (s.extract k (k + 2)).toList = [s[k]'(by omega), s[k + 1]'h] := by
    rw [ByteArray.toList_eq, ByteArray.data_extract, Array.toList_extract]
    have h3 : (s.data.toList.drop k) = s[k]'(by omega) :: s[k + 1]'h :: s.data.toList.drop (k + 2) := by
      have a := tailL_step s k (by omega)
      have b := tailL_step s (k + 1) h
      rw [b] at a
      exact a
    show (s.data.toList.drop k).take (k + 2 - k) = _
    rw [show k + 2 - k = 2 by omega, h3]
    rfl
  rw [e1, e2]
  simp
theorem st_search (s : ByteArray) : ∀ (d k : Nat), s.size - k ≤ d → (searchE s k ⟨#[45, 45]⟩).isNone = noTwo (tailL s k) := by
  have h2 : (⟨#[45, 45]⟩ : ByteArray).size = 2 := rfl
  intro d
  induction d with
  | zero =>
    intro k hd
    rw [searchE_end (by rw [h2]; omega), tailL_end s k (by omega)]
    rfl
  | succ d ih =>
    intro k hd
    by_cases h : k + 1 < s.size
    · rw [tailL_step s k (by omega), tailL_step s (k + 1) h]
      have hs := st_stands s k h
      cases hc : standsB s k ⟨#[45, 45]⟩
      · rw [searchE_no (by rw [h2]; omega) hc, ih (k + 1) (by omega), tailL_step s (k + 1) h]
        conv => rhs; unfold noTwo
        rw [List.head?_cons]
        rw [hc] at hs
        rw [show (s[k]'(by omega) == 45 && some (s[k + 1]'h) == some 45) = false from hs.symm]
        rfl
      · rw [searchE_yes hc]
        rw [hc] at hs
        unfold noTwo
        rw [List.head?_cons]
        rw [show (s[k]'(by omega) == 45 && some (s[k + 1]'h) == some 45) = true from hs.symm]
        rfl
    · rw [searchE_end (by rw [h2]; omega)]
      by_cases h1 : k < s.size
      · rw [tailL_step s k h1, tailL_end s (k + 1) h]
        unfold noTwo
        simp [noTwo]
      · rw [tailL_end s k h1]
        rfl
theorem st_last (s : ByteArray) (m : Nat) (h : s.size = m + 1) : lastOk s.data.toList = (s[m]'(by omega) != 45) := by
  unfold lastOk
  have h2 : s.data.toList.length = s.size := Array.length_toList
  rw [List.getLast?_eq_getElem?, show s.data.toList.length - 1 = m by omega, List.getElem?_eq_getElem (by omega)]
  have e : s.data.toList[m]'(by omega) = s[m]'(by omega) := by
    simp [ByteArray.getElem_eq_getElem_data]
  rw [e]
  rfl

set_option maxHeartbeats 2000000 in
theorem specNoteOk (s : ByteArray) (w : World) (hs : s.size ≤ 1099511627776) :
    Calls Tryz.prog 52 #[.string s] w fun e w' => e = .returned (.bool (stNoteB s)) ∧ Below w.heap.size w w' := by
  have Hn : Hid (stNoteB s = (stTextB s && (findE s 0 13).isNone && (searchE s 0 ⟨#[45, 45]⟩).isNone && lastOk s.data.toList)) := by
    show _ = _
    rw [st_find, st_search s s.size 0 (by omega), tail_all]
    rfl
  have e0 : (⟨#[]⟩ : ByteArray).toList = [] := ByteArray.toList_mk _
  have Ht := fun W => specTextOk s W (by omega)
  have Hf := fun W => specFind s 0 13 W (Nat.zero_le _) (by omega)
  have Hq := fun W => specSearch s 0 ⟨#[45, 45]⟩ W (by omega) (by omega) (by decide)
  go_enter Tryz.func52, Tryz.ntmps52
  go_wp2_with fail
  refine (Ht _).mono ?_
  rintro e w1 ⟨rfl, b1⟩
  clear Ht
  cases ht : stTextB s
  · have Hno : Hid (stNoteB s = false) := by show _ = _; rw [Hn.out, ht]; rfl
    clear ht Hn Hf Hq
    go_wp2_with fail
    go_ret
    exact ⟨ret_bool Hno.out.symm, b1⟩
  rw [ht] at Hn
  clear ht
  go_wp2_with fail
  refine (Hf _).mono ?_
  rintro e w2 ⟨rfl, rfl⟩
  clear Hf
  cases hf : findE s 0 13
  case some m =>
    have Hno : Hid (stNoteB s = false) := by show _ = _; rw [Hn.out, hf]; rfl
    clear hf Hn Hq
    simp only [findV]
    go_wp2_with fail
    go_ret
    exact ⟨ret_bool Hno.out.symm, b1⟩
  rw [hf] at Hn
  clear hf
  simp only [findV]
  go_wp2_with fail
  refine (Hq _).mono ?_
  rintro e w2 ⟨rfl, rfl⟩
  clear Hq
  cases hq : searchE s 0 ⟨#[45, 45]⟩
  case some m =>
    have Hno : Hid (stNoteB s = false) := by show _ = _; rw [Hn.out, hq]; rfl
    clear hq Hn
    simp only [findV]
    go_wp2_with fail
    go_ret
    exact ⟨ret_bool Hno.out.symm, b1⟩
  rw [hq] at Hn
  clear hq
  simp only [findV]
  by_cases hz : s.size = 0
  · have := empty_of hz
    subst this
    go_wp2_with fail
    go_ret
    exact ⟨ret_bool (by rw [Hn.out]; rfl), b1⟩
  · have g2 := not_empty hz
    obtain ⟨m, hm⟩ : ∃ m, s.size = m + 1 := ⟨s.size - 1, by omega⟩
    have hlt : m < s.size := by omega
    have hl : lastOk s.data.toList = (s[m]'hlt != 45) := st_last s m hm
    rw [hl] at Hn
    clear hl
    have q1 : (s.size : Int) - 1 = (m : Int) := by omega
    clear hm hz
    cases hb : (s[m]'hlt != 45)
    · have Hno : Hid (stNoteB s = false) := by show _ = _; rw [Hn.out, hb]; rfl
      have g3 : ((s[m]'hlt).toNat : Int) = 45 := by
        rw [bne_eq_false_iff_eq] at hb
        rw [hb]
        rfl
      clear hb Hn
      go_wp2_with fail
      go_ret
      exact ⟨ret_bool Hno.out.symm, b1⟩
    · have Hno : Hid (stNoteB s = true) := by show _ = _; rw [Hn.out, hb]; rfl
      have g3 : (((s[m]'hlt).toNat : Int) != 45) = true := by
        rw [bne_iff_ne] at hb ⊢
        intro e
        exact hb (UInt8.toNat_inj.1 (by show _ = 45; omega))
      have g4 : (((s[m]'hlt).toNat : Int) == 45) = false := by
        rw [bne_iff_ne] at g3
        rw [beq_eq_false_iff_ne]
        exact g3
      clear hb Hn
      go_wp2_with fail
      go_ret
      exact ⟨ret_bool Hno.out.symm, b1⟩

end Go.Proofs.YtbmmghkieolpkaaGreatDoor.Sg
