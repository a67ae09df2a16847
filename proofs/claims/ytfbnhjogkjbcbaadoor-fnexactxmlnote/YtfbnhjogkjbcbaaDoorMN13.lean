/- Contracts of the model's NoteOk and NoteOf. Contract of the model's XmlNote. What the model's XmlNote hands back, at any place; its contract. -/
import Derived.Test.YtfbnhjogkjbcbaaDoorMN01
import Derived.Test.YtfbnhjogkjbcbaaDoorScStM
import Derived.Test.YtfbnhjogkjbcbaaDoorXmName
namespace Go.Proofs.YtfbnhjogkjbcbaaDoor.Sg
open Go.ChangeShapes Go.WideShapes Go.ChangeAt Go.RowKit

theorem st_find_list (b : UInt8) (l : List UInt8) : (findL b l).isNone = l.all fun x => x != b := by
  induction l with
  | nil => rfl
  | cons x l ih =>
    rw [findL, List.all_cons, ← ih]
    by_cases h : x = b
    · simp [h]
    · simp [h]
theorem tail_all (s : ByteArray) : tailL s 0 = s.data.toList := by
  simp [tailL]
theorem st_find (s : ByteArray) (b : UInt8) : (findE s 0 b).isNone = s.data.toList.all fun x => x != b := by
  unfold findE
  rw [Option.isNone_map, st_find_list, tail_all]
theorem st_stands (s : ByteArray) (k : Nat) (h : k + 1 < s.size) : standsB s k ⟨#[45, 45]⟩ = (s[k]'(by omega) == 45 && s[k + 1]'h == 45) := by
  have h2 : (⟨#[45, 45]⟩ : ByteArray).size = 2 := rfl
  unfold standsB
  rw [h2, decide_eq_true (by omega), Bool.true_and]
  have e1 : (⟨#[45, 45]⟩ : ByteArray).toList = [45, 45] := ByteArray.toList_mk _
  have e2 : (s.extract k (k + 2)).toList = [s[k]'(by omega), s[k + 1]'h] := by
    rw [ByteArray.toList_eq, ByteArray.data_extract, Array.toList_extract]
    have h3 : (s.data.toList.drop k) = s[k]'(by omega) :: s[k + 1]'h :: s.data.toList.drop (k + 2) := by
      have a := tailL_step s k (by omega)
      have b := tailL_step s (k + 1) h
      rw [b] at a
      exact a
    show (s.data.toList.drop k).take (k + 2 - k) = _
    rw [show k + 2 - k = 2 by omega, h3]
    rfl
  rw [e1, e2]
  simp
theorem st_search (s : ByteArray) : ∀ (d k : Nat), s.size - k ≤ d → (searchE s k ⟨#[45, 45]⟩).isNone = noTwo (tailL s k) := by
  have h2 : (⟨#[45, 45]⟩ : ByteArray).size = 2 := rfl
  intro d
  induction d with
  | zero =>
    intro k hd
    rw [searchE_end (by rw [h2]; omega), tailL_end s k (by omega)]
    rfl
  | succ d ih =>
    intro k hd
    by_cases h : k + 1 < s.size
    · rw [tailL_step s k (by omega), tailL_step s (k + 1) h]
      have hs := st_stands s k h
      cases hc : standsB s k ⟨#[45, 45]⟩
      · rw [searchE_no (by rw [h2]; omega) hc, ih (k + 1) (by omega), tailL_step s (k + 1) h]
        conv => rhs; unfold noTwo
        rw [List.head?_cons]
        rw [hc] at hs
        rw [show (s[k]'(by omega) == 45 && some (s[k + 1]'h) == some 45) = false from hs.symm]
        rfl
      · rw [searchE_yes hc]
        rw [hc] at hs
        unfold noTwo
        rw [List.head?_cons]
        rw [show (s[k]'(by omega) == 45 && some (s[k + 1]'h) == some 45) = true from hs.symm]
        rfl
    · rw [searchE_end (by rw [h2]; omega)]
      by_cases h1 : k < s.size
      · rw [tailL_step s k h1, tailL_end s (k + 1) h]
        unfold noTwo
        simp [noTwo]
      · rw [tailL_end s k h1]
        rfl
theorem st_last (s : ByteArray) (m : Nat) (h : s.size = m + 1) : lastOk s.data.toList = (s[m]'(by omega) != 45) := by
  unfold lastOk
  have h2 : s.data.toList.length = s.size := Array.length_toList
  rw [List.getLast?_eq_getElem?, show s.data.toList.length - 1 = m by omega, List.getElem?_eq_getElem (by omega)]
  have e : s.data.toList[m]'(by omega) = s[m]'(by omega) := by
    simp [ByteArray.getElem_eq_getElem_data]
  rw [e]
  rfl

set_option maxHeartbeats 2000000 in
theorem specNoteOk (s : ByteArray) (w : World) (hs : s.size ≤ 1099511627776) :
    Calls Tryd.prog 36 #[.string s] w fun e w' => e = .returned (.bool (stNoteB s)) ∧ Below w.heap.size w w' := by
  have Hn : Hid (stNoteB s = (stTextB s && (findE s 0 13).isNone && (searchE s 0 ⟨#[45, 45]⟩).isNone && lastOk s.data.toList)) := by
    show _ = _
    rw [st_find, st_search s s.size 0 (by omega), tail_all]
    rfl
  have e0 : (⟨#[]⟩ : ByteArray).toList = [] := ByteArray.toList_mk _
  have Ht := fun W => specTextOk s W (by omega)
  have Hf := fun W => specFind s 0 13 W (Nat.zero_le _) (by omega)
  have Hq := fun W => specSearch s 0 ⟨#[45, 45]⟩ W (by omega) (by omega) (by decide)
  go_enter Tryd.func36, Tryd.ntmps36
  go_wp2_with fail
  refine (Ht _).mono ?_
  rintro e w1 ⟨rfl, b1⟩
  clear Ht
  cases ht : stTextB s
  · have Hno : Hid (stNoteB s = false) := by show _ = _; rw [Hn.out, ht]; rfl
    clear ht Hn Hf Hq
    go_wp2_with fail
    go_ret
    exact ⟨ret_bool Hno.out.symm, b1⟩
  rw [ht] at Hn
  clear ht
  go_wp2_with fail
  refine (Hf _).mono ?_
  rintro e w2 ⟨rfl, rfl⟩
  clear Hf
  cases hf : findE s 0 13
  case some m =>
    have Hno : Hid (stNoteB s = false) := by show _ = _; rw [Hn.out, hf]; rfl
    clear hf Hn Hq
    simp only [findV]
    go_wp2_with fail
    go_ret
    exact ⟨ret_bool Hno.out.symm, b1⟩
  rw [hf] at Hn
  clear hf
  simp only [findV]
  go_wp2_with fail
  refine (Hq _).mono ?_
  rintro e w2 ⟨rfl, rfl⟩
  clear Hq
  cases hq : searchE s 0 ⟨#[45, 45]⟩
  case some m =>
    have Hno : Hid (stNoteB s = false) := by show _ = _; rw [Hn.out, hq]; rfl
    clear hq Hn
    simp only [findV]
    go_wp2_with fail
    go_ret
    exact ⟨ret_bool Hno.out.symm, b1⟩
  rw [hq] at Hn
  clear hq
  simp only [findV]
  by_cases hz : s.size = 0
  · have := empty_of hz
    subst this
    go_wp2_with fail
    go_ret
    exact ⟨ret_bool (by rw [Hn.out]; rfl), b1⟩
  · have g2 := not_empty hz
    obtain ⟨m, hm⟩ : ∃ m, s.size = m + 1 := ⟨s.size - 1, by omega⟩
    have hlt : m < s.size := by omega
    have hl : lastOk s.data.toList = (s[m]'hlt != 45) := st_last s m hm
    rw [hl] at Hn
    clear hl
    have q1 : (s.size : Int) - 1 = (m : Int) := by omega
    clear hm hz
    cases hb : (s[m]'hlt != 45)
    · have Hno : Hid (stNoteB s = false) := by show _ = _; rw [Hn.out, hb]; rfl
      have g3 : ((s[m]'hlt).toNat : Int) = 45 := by
        rw [bne_eq_false_iff_eq] at hb
        rw [hb]
        rfl
      clear hb Hn
      go_wp2_with fail
      go_ret
      exact ⟨ret_bool Hno.out.symm, b1⟩
    · have Hno : Hid (stNoteB s = true) := by show _ = _; rw [Hn.out, hb]; rfl
      have g3 : (((s[m]'hlt).toNat : Int) != 45) = true := by
        rw [bne_iff_ne] at hb ⊢
        intro e
        exact hb (UInt8.toNat_inj.1 (by show _ = 45; omega))
      have g4 : (((s[m]'hlt).toNat : Int) == 45) = false := by
        rw [bne_iff_ne] at g3
        rw [beq_eq_false_iff_ne]
        exact g3
      clear hb Hn
      go_wp2_with fail
      go_ret
      exact ⟨ret_bool Hno.out.symm, b1⟩

end Go.Proofs.YtfbnhjogkjbcbaaDoor.Sg

namespace Go.Proofs.YtfbnhjogkjbcbaaDoor.Sg
open Go.ChangeShapes Go.WideShapes Go.ChangeAt Go.RowKit

/-- What the model's XmlNote hands back. -/
def noteV (s : ByteArray) (k : Nat) : Option Nat → Value
  | none => .tuple #[.string ⟨#[]⟩, .int .i64 (-1)]
  | some m => .tuple #[.string (s.extract (k + 4) m), .int .i64 ((m + 3 : Nat) : Int)]

set_option maxHeartbeats 1000000 in
theorem specXmlNote_out (s : ByteArray) (at' : Int) (w : World) (h : at' < 0 ∨ (s.size : Int) ≤ at') :
    Calls Tryd.prog 17 #[.string s, .int .i64 at'] w fun e w' => e = .returned (.tuple #[.string ⟨#[]⟩, .int .i64 (-1)]) ∧ w' = w := by
  by_cases h0 : at' < 0
  · have g0 : decide (at' < 0) = true := decide_eq_true h0
    clear h
    go_enter Tryd.func17, Tryd.ntmps17
    go_wp2_with fail
    go_ret2
    exact ⟨rfl, rfl⟩
  · have g0 : decide (at' < 0) = false := decide_eq_false h0
    have g1 : decide ((s.size : Int) ≤ at') = true := decide_eq_true (by omega)
    clear h
    go_enter Tryd.func17, Tryd.ntmps17
    go_wp2_with fail
    go_ret2
    exact ⟨rfl, rfl⟩

set_option maxRecDepth 20000 in
set_option maxHeartbeats 4000000 in
theorem specXmlNote_in (s : ByteArray) (k : Nat) (w : World) (hk : k < s.size) (hs : s.size ≤ 1099511627776) :
    Calls Tryd.prog 17 #[.string s, .int .i64 (k : Int)] w fun e w' => e = .returned (noteV s k (xnoteR s k)) ∧ Below w.heap.size w w' := by
  have g0 : decide ((k : Int) < 0) = false := decide_eq_false (by omega)
  have g1 : decide ((s.size : Int) ≤ (k : Int)) = false := decide_eq_false (by omega)
  have q1 : IntKind.i64.wrap ((k : Int) + 4) = (k : Int) + 4 := IntWalk.i64_in _ (by omega)
  have Hd : Hid (xnoteR s k = if standsB s k openNoteB = true then (match searchE s (k + 4) twoB with | none => none | some m => if (standsB s m shutNoteB && stNoteB (s.extract (k + 4) m)) = true then some m else none) else none) := rfl
  have H1 := fun W => specStands s k openNoteB W (by omega) (by omega) (by decide)
  cases h1 : standsB s k openNoteB
  · have Hx : Hid (xnoteR s k = none) := by show _ = _; rw [Hd.out, h1]; rfl
    rw [h1] at H1
    clear h1 Hd
    go_enter Tryd.func17, Tryd.ntmps17
    go_wp2_with fail
    refine (H1 _).mono ?_
    rintro e w1 ⟨rfl, rfl⟩
    go_wp2_with fail
    go_ret2
    rw [Hx.out]
    exact ⟨rfl, Below.refl _ _⟩
  · have hl := stands_le h1
    have hl4 : k + 4 ≤ s.size := hl
    have H2 : ∀ W, Calls Tryd.prog 35 #[.string s, .int .i64 ((k : Int) + 4), .string ⟨#[45, 45]⟩] W fun e w' => e = .returned (.int .i64 (findV (searchE s (k + 4) twoB))) ∧ w' = W := fun W => specSearch s (k + 4) twoB W (by omega) (by omega) (by decide)
    rw [h1] at H1
    have Hd2 : Hid (xnoteR s k = (match searchE s (k + 4) twoB with | none => none | some m => if (standsB s m shutNoteB && stNoteB (s.extract (k + 4) m)) = true then some m else none)) := by show _ = _; rw [Hd.out, h1]; rfl
    clear h1 Hd
    cases h2 : searchE s (k + 4) twoB with
    | none =>
      have Hx : Hid (xnoteR s k = none) := by show _ = _; rw [Hd2.out, h2]
      rw [h2] at H2
      clear h2 Hd2
      go_enter Tryd.func17, Tryd.ntmps17
      go_wp2_with fail
      refine (H1 _).mono ?_
      rintro e w1 ⟨rfl, rfl⟩
      go_wp2_with fail
      refine (H2 _).mono ?_
      rintro e w1 ⟨rfl, rfl⟩
      simp only [findV]
      go_wp2_with fail
      go_ret2
      rw [Hx.out]
      exact ⟨rfl, Below.refl _ _⟩
    | some m =>
      have hm := searchE_le s twoB _ (k + 4) m (Nat.le_refl _) h2
      have hm2 : m + 2 ≤ s.size := hm.2
      have H3 := fun W => specStands s m shutNoteB W (by omega) (by omega) (by decide)
      have hz : (s.extract (k + 4) m).size ≤ 1099511627776 := by rw [ByteArray.size_extract]; omega
      have H4 := fun W => specNoteOk (s.extract (k + 4) m) W hz
      have Hd3 : Hid (xnoteR s k = if (standsB s m shutNoteB && stNoteB (s.extract (k + 4) m)) = true then some m else none) := by show _ = _; rw [Hd2.out, h2]
      rw [h2] at H2
      clear h2 Hd2 hz
      have gm : decide ((m : Int) < 0) = false := decide_eq_false (by omega)
      have p1 : (0 : Int) ≤ (k : Int) + 4 := by omega
      have p2 : (k : Int) + 4 ≤ (m : Int) := by omega
      have p3 : (m : Int) ≤ (s.size : Int) := by omega
      have p4 : ((k : Int) + 4).toNat = k + 4 := by omega
      have p5 : IntKind.i64.wrap ((m : Int) + 3) = (m : Int) + 3 := IntWalk.i64_in _ (by omega)
      have p6 : (0 : Int) ≤ (m : Int) := by omega
      cases h3 : standsB s m shutNoteB
      · have Hx : Hid (xnoteR s k = none) := by show _ = _; rw [Hd3.out, h3]; rfl
        rw [h3] at H3
        clear h3 Hd3 H4
        go_enter Tryd.func17, Tryd.ntmps17
        go_wp2_with fail
        refine (H1 _).mono ?_
        rintro e w1 ⟨rfl, rfl⟩
        go_wp2_with fail
        refine (H2 _).mono ?_
        rintro e w1 ⟨rfl, rfl⟩
        simp only [findV]
        go_wp2_with fail
        refine (H3 _).mono ?_
        rintro e w1 ⟨rfl, rfl⟩
        go_wp2_with fail
        go_ret2
        rw [Hx.out]
        exact ⟨rfl, Below.refl _ _⟩
      · rw [h3] at H3
        cases h4 : stNoteB (s.extract (k + 4) m)
        · have Hx : Hid (xnoteR s k = none) := by show _ = _; rw [Hd3.out, h3, h4]; rfl
          rw [h4] at H4
          clear h3 h4 Hd3
          go_enter Tryd.func17, Tryd.ntmps17
          go_wp2_with fail
          refine (H1 _).mono ?_
          rintro e w1 ⟨rfl, rfl⟩
          go_wp2_with fail
          refine (H2 _).mono ?_
          rintro e w1 ⟨rfl, rfl⟩
          simp only [findV]
          go_wp2_with fail
          refine (H3 _).mono ?_
          rintro e w1 ⟨rfl, rfl⟩
          go_wp2_with fail
          refine (H4 _).mono ?_
          rintro e w2 ⟨rfl, b2⟩
          go_wp2_with fail
          go_ret2
          rw [Hx.out]
          exact ⟨rfl, b2⟩
        · have Hx : Hid (xnoteR s k = some m) := by show _ = _; rw [Hd3.out, h3, h4]; rfl
          rw [h4] at H4
          clear h3 h4 Hd3
          go_enter Tryd.func17, Tryd.ntmps17
          go_wp2_with fail
          refine (H1 _).mono ?_
          rintro e w1 ⟨rfl, rfl⟩
          go_wp2_with fail
          refine (H2 _).mono ?_
          rintro e w1 ⟨rfl, rfl⟩
          simp only [findV]
          go_wp2_with fail
          refine (H3 _).mono ?_
          rintro e w1 ⟨rfl, rfl⟩
          go_wp2_with fail
          refine (H4 _).mono ?_
          rintro e w2 ⟨rfl, b2⟩
          go_wp2_with fail
          go_ret2
          rw [Hx.out]
          exact ⟨rfl, b2⟩

end Go.Proofs.YtfbnhjogkjbcbaaDoor.Sg

namespace Go.Proofs.YtfbnhjogkjbcbaaDoor.Sg
open Go.ChangeShapes Go.WideShapes Go.ChangeAt Go.RowKit

def xoO (s : ByteArray) (i : Int) : Option Nat := if 0 ≤ i ∧ i < s.size then xnoteR s i.toNat else none
def xoS (s : ByteArray) (i : Int) : ByteArray := ((xoO s i).map fun m => s.extract (i.toNat + 4) m).getD ⟨#[]⟩
def xoI (s : ByteArray) (i : Int) : Int := ((xoO s i).map fun m => ((m + 3 : Nat) : Int)).getD (-1)

theorem specXmlNote (s : ByteArray) (i : Int) (w : World) (hs : s.size ≤ 1073741824) :
    Calls Tryd.prog 17 #[.string s, .int .i64 i] w fun e w' => e = .returned (.tuple #[.string (xoS s i), .int .i64 (xoI s i)]) ∧ Below w.heap.size w w' := by
  by_cases h : 0 ≤ i ∧ i < s.size
  · unfold xoS xoI xoO
    rw [if_pos h]
    have C := specXmlNote_in s i.toNat w (by omega) (by omega)
    rw [show ((i.toNat : Nat) : Int) = i by omega] at C
    refine C.mono fun e w' h => ⟨h.1.trans ?_, h.2⟩
    cases xnoteR s i.toNat <;> rfl
  · unfold xoS xoI xoO
    rw [if_neg h]
    exact (specXmlNote_out s i w (by omega)).mono fun e w' h => ⟨h.1, h.2 ▸ Below.refl _ _⟩

end Go.Proofs.YtfbnhjogkjbcbaaDoor.Sg
