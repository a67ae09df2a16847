/- What the model's XmlName hands back, at any place; its contract. What the model's XmlText hands back, at any place; its contract. Contracts of the model's NoteOk and NoteOf. Contract of the model's XmlNote. What the model's XmlNote hands back, at any place; its contract. Plain: an element is read. Contract of the model's l19Take. Contracts of the model's Escape and SpaceName. Contract of the model's l19Space. -/
import Derived.Test.YthipdkagkdnaiaaGreatDoorXmName
import Derived.Test.YthipdkagkdnaiaaGreatDoorXmText
import Derived.Test.YthipdkagkdnaiaaGreatDoorMRD07
import Derived.Test.YthipdkagkdnaiaaGreatDoorMRD09
import Derived.Test.YthipdkagkdnaiaaGreatDoorMRD01
import Derived.Test.YthipdkagkdnaiaaGreatDoorRdWork
import Derived.BigQuiet
import Derived.Deep.QuietTactic
import Derived.Test.YthipdkagkdnaiaaGreatDoorMRD02
namespace Go.Proofs.YthipdkagkdnaiaaGreatDoor.Sg
open Go.ChangeShapes Go.WideShapes Go.ChangeAt Go.RowKit

def xnS (s : ByteArray) (i : Int) : ByteArray := if 0 ≤ i ∧ i ≤ s.size then s.extract i.toNat (xnameE s true i.toNat) else ⟨#[]⟩
def xnI (s : ByteArray) (i : Int) : Int := if 0 ≤ i ∧ i ≤ s.size then (xnameE s true i.toNat : Int) else i

theorem specXmlName (s : ByteArray) (i : Int) (w : World) (hs : s.size ≤ 1073741824) :
    Calls Tryz.prog 37 #[.string s, .int .i64 i] w fun e w' => e = .returned (.tuple #[.string (xnS s i), .int .i64 (xnI s i)]) ∧ Below w.heap.size w w' := by
  by_cases h : 0 ≤ i ∧ i ≤ s.size
  · unfold xnS xnI
    rw [if_pos h, if_pos h]
    have C := specXmlName_in s i.toNat w (by omega) (by omega)
    rw [show ((i.toNat : Nat) : Int) = i by omega] at C
    exact C
  · unfold xnS xnI
    rw [if_neg h, if_neg h]
    exact (specXmlName_out s i w (by omega)).mono fun e w' h => ⟨h.1, h.2 ▸ Below.refl _ _⟩

end Go.Proofs.YthipdkagkdnaiaaGreatDoor.Sg

namespace Go.Proofs.YthipdkagkdnaiaaGreatDoor.Sg
open Go.ChangeShapes Go.WideShapes Go.ChangeAt Go.RowKit

def xtO (s : ByteArray) (i : Int) (e : ByteArray) : Option (List UInt8 × Nat) := if 0 ≤ i ∧ i ≤ s.size then xtextR s e.data.toList i.toNat else none
def xtS (s : ByteArray) (i : Int) (e : ByteArray) : ByteArray := ((xtO s i e).map fun r => strB r.1).getD ⟨#[]⟩
def xtI (s : ByteArray) (i : Int) (e : ByteArray) : Int := ((xtO s i e).map fun r => (r.2 : Int)).getD (-1)

theorem specXmlText (s : ByteArray) (i : Int) (e0 : ByteArray) (w : World) (hs : s.size ≤ 1073741824) (he : e0.size ≤ 1073741824) :
    Calls Tryz.prog 70 #[.string s, .int .i64 i, .string e0] w fun e w' => e = .returned (.tuple #[.string (xtS s i e0), .int .i64 (xtI s i e0)]) ∧ Below w.heap.size w w' := by
  by_cases h : 0 ≤ i ∧ i ≤ s.size
  · unfold xtS xtI xtO
    rw [if_pos h]
    have C := specXmlText_in s i.toNat e0 w (by omega) (by omega) (by omega)
    rw [show ((i.toNat : Nat) : Int) = i by omega] at C
    refine C.mono fun e w' h => ⟨h.1.trans ?_, h.2⟩
    cases xtextR s e0.data.toList i.toNat <;> rfl
  · unfold xtS xtI xtO
    rw [if_neg h]
    exact (specXmlText_out s i e0 w (by omega)).mono fun e w' h => ⟨h.1, h.2 ▸ Below.refl _ _⟩

end Go.Proofs.YthipdkagkdnaiaaGreatDoor.Sg

namespace Go.Proofs.YthipdkagkdnaiaaGreatDoor.Sg
open Go.ChangeShapes Go.WideShapes Go.ChangeAt Go.RowKit

theorem st_find_list (b : UInt8) (l : List UInt8) : (findL b l).isNone = l.all fun x => x != b := by
  induction l with
  | nil => rfl
  | cons x l ih =>
    rw [findL, List.all_cons, ← ih]
    by_cases h : x = b
    · simp [h]
    · simp [h]
theorem tail_all (s : ByteArray) : tailL s 0 = s.data.toList := by
  simp [tailL]
theorem st_find (s : ByteArray) (b : UInt8) : (findE s 0 b).isNone = s.data.toList.all fun x => x != b := by
  unfold findE
  rw [Option.isNone_map, st_find_list, tail_all]
theorem st_stands (s : ByteArray) (k : Nat) (h : k + 1 < s.size) : standsB s k ⟨#[45, 45]⟩ = (s[k]'(by omega) == 45 && s[k + 1]'h == 45) := by
  have h2 : (⟨#[45, 45]⟩ : ByteArray).size = 2 := rfl
  unfold standsB
  rw [h2, decide_eq_true (by omega), Bool.true_and]
  have e1 : (⟨#[45, 45]⟩ : ByteArray).toList = [45, 45] := ByteArray.toList_mk _
  have e2 : (s.extract k (k + 2)).toList = [s[k]'(by omega), s[k + 1]'h] := by
    rw [ByteArray.toList_eq, ByteArray.data_extract, Array.toList_extract]
    have h3 : (s.data.toList.drop k) = s[k]'(by omega) :: s[k + 1]'h :: s.data.toList.drop (k + 2) := by
      have a := tailL_step s k (by omega)
      have b := tailL_step s (k + 1) h
      rw [b] at a
      exact a
    show (s.data.toList.drop k).take (k + 2 - k) = _
    rw [show k + 2 - k = 2 by omega, h3]
    rfl
  rw [e1, e2]
  simp
theorem st_search (s : ByteArray) : ∀ (d k : Nat), s.size - k ≤ d → (searchE s k ⟨#[45, 45]⟩).isNone = noTwo (tailL s k) := by
  have h2 : (⟨#[45, 45]⟩ : ByteArray).size = 2 := rfl
  intro d
  induction d with
  | zero =>
    intro k hd
    rw [searchE_end (by rw [h2]; omega), tailL_end s k (by omega)]
    rfl
  | succ d ih =>
    intro k hd
    by_cases h : k + 1 < s.size
    · rw [tailL_step s k (by omega), tailL_step s (k + 1) h]
      have hs := st_stands s k h
      cases hc : standsB s k ⟨#[45, 45]⟩
      · rw [searchE_no (by rw [h2]; omega) hc, ih (k + 1) (by omega), tailL_step s (k + 1) h]
        conv => rhs; unfold noTwo
        rw [List.head?_cons]
        rw [hc] at hs
        rw [show (s[k]'(by omega) == 45 && some (s[k + 1]'h) == some 45) = false from hs.symm]
        rfl
      · rw [searchE_yes hc]
        rw [hc] at hs
        unfold noTwo
        rw [List.head?_cons]
        rw [show (s[k]'(by omega) == 45 && some (s[k + 1]'h) == some 45) = true from hs.symm]
        rfl
    · rw [searchE_end (by rw [h2]; omega)]
      by_cases h1 : k < s.size
      · rw [tailL_step s k h1, tailL_end s (k + 1) h]
        unfold noTwo
        simp [noTwo]
      · rw [tailL_end s k h1]
        rfl
theorem st_last (s : ByteArray) (m : Nat) (h : s.size = m + 1) : lastOk s.data.toList = (s[m]'(by omega) != 45) := by
  unfold lastOk
  have h2 : s.data.toList.length = s.size := Array.length_toList
  rw [List.getLast?_eq_getElem?, show s.data.toList.length - 1 = m by omega, List.getElem?_eq_getElem (by omega)]
  have e : s.data.toList[m]'(by omega) = s[m]'(by omega) := by
    simp [ByteArray.getElem_eq_getElem_data]
  rw [e]
  rfl

set_option maxHeartbeats 2000000 in
theorem specNoteOk (s : ByteArray) (w : World) (hs : s.size ≤ 1099511627776) :
    Calls Tryz.prog 52 #[.string s] w fun e w' => e = .returned (.bool (stNoteB s)) ∧ Below w.heap.size w w' := by
  have Hn : Hid (stNoteB s = (stTextB s && (findE s 0 13).isNone && (searchE s 0 ⟨#[45, 45]⟩).isNone && lastOk s.data.toList)) := by
    show _ = _
    rw [st_find, st_search s s.size 0 (by omega), tail_all]
    rfl
  have e0 : (⟨#[]⟩ : ByteArray).toList = [] := ByteArray.toList_mk _
  have Ht := fun W => specTextOk s W (by omega)
  have Hf := fun W => specFind s 0 13 W (Nat.zero_le _) (by omega)
  have Hq := fun W => specSearch s 0 ⟨#[45, 45]⟩ W (by omega) (by omega) (by decide)
  go_enter Tryz.func52, Tryz.ntmps52
  go_wp2_with fail
  refine (Ht _).mono ?_
  rintro e w1 ⟨rfl, b1⟩
  clear Ht
  cases ht : stTextB s
  · have Hno : Hid (stNoteB s = false) := by show _ = _; rw [Hn.out, ht]; rfl
    clear ht Hn Hf Hq
    go_wp2_with fail
    go_ret
    exact ⟨ret_bool Hno.out.symm, b1⟩
  rw [ht] at Hn
  clear ht
  go_wp2_with fail
  refine (Hf _).mono ?_
  rintro e w2 ⟨rfl, rfl⟩
  clear Hf
  cases hf : findE s 0 13
  case some m =>
    have Hno : Hid (stNoteB s = false) := by show _ = _; rw [Hn.out, hf]; rfl
    clear hf Hn Hq
    simp only [findV]
    go_wp2_with fail
    go_ret
    exact ⟨ret_bool Hno.out.symm, b1⟩
  rw [hf] at Hn
  clear hf
  simp only [findV]
  go_wp2_with fail
  refine (Hq _).mono ?_
  rintro e w2 ⟨rfl, rfl⟩
  clear Hq
  cases hq : searchE s 0 ⟨#[45, 45]⟩
  case some m =>
    have Hno : Hid (stNoteB s = false) := by show _ = _; rw [Hn.out, hq]; rfl
    clear hq Hn
    simp only [findV]
    go_wp2_with fail
    go_ret
    exact ⟨ret_bool Hno.out.symm, b1⟩
  rw [hq] at Hn
  clear hq
  simp only [findV]
  by_cases hz : s.size = 0
  · have := empty_of hz
    subst this
    go_wp2_with fail
    go_ret
    exact ⟨ret_bool (by rw [Hn.out]; rfl), b1⟩
  · have g2 := not_empty hz
    obtain ⟨m, hm⟩ : ∃ m, s.size = m + 1 := ⟨s.size - 1, by omega⟩
    have hlt : m < s.size := by omega
    have hl : lastOk s.data.toList = (s[m]'hlt != 45) := st_last s m hm
    rw [hl] at Hn
    clear hl
    have q1 : (s.size : Int) - 1 = (m : Int) := by omega
    clear hm hz
    cases hb : (s[m]'hlt != 45)
    · have Hno : Hid (stNoteB s = false) := by show _ = _; rw [Hn.out, hb]; rfl
      have g3 : ((s[m]'hlt).toNat : Int) = 45 := by
        rw [bne_eq_false_iff_eq] at hb
        rw [hb]
        rfl
      clear hb Hn
      go_wp2_with fail
      go_ret
      exact ⟨ret_bool Hno.out.symm, b1⟩
    · have Hno : Hid (stNoteB s = true) := by show _ = _; rw [Hn.out, hb]; rfl
      have g3 : (((s[m]'hlt).toNat : Int) != 45) = true := by
        rw [bne_iff_ne] at hb ⊢
        intro e
        exact hb (UInt8.toNat_inj.1 (by show _ = 45; omega))
      have g4 : (((s[m]'hlt).toNat : Int) == 45) = false := by
        rw [bne_iff_ne] at g3
        rw [beq_eq_false_iff_ne]
        exact g3
      clear hb Hn
      go_wp2_with fail
      go_ret
      exact ⟨ret_bool Hno.out.symm, b1⟩

end Go.Proofs.YthipdkagkdnaiaaGreatDoor.Sg

namespace Go.Proofs.YthipdkagkdnaiaaGreatDoor.Sg
open Go.ChangeShapes Go.WideShapes Go.ChangeAt Go.RowKit

/-- What the model's XmlNote hands back. -/
def noteV (s : ByteArray) (k : Nat) : Option Nat → Value
  | none => .tuple #[.string ⟨#[]⟩, .int .i64 (-1)]
  | some m => .tuple #[.string (s.extract (k + 4) m), .int .i64 ((m + 3 : Nat) : Int)]

set_option maxHeartbeats 1000000 in
theorem specXmlNote_out (s : ByteArray) (at' : Int) (w : World) (h : at' < 0 ∨ (s.size : Int) ≤ at') :
    Calls Tryz.prog 29 #[.string s, .int .i64 at'] w fun e w' => e = .returned (.tuple #[.string ⟨#[]⟩, .int .i64 (-1)]) ∧ w' = w := by
  by_cases h0 : at' < 0
  · have g0 : decide (at' < 0) = true := decide_eq_true h0
    clear h
    go_enter Tryz.func29, Tryz.ntmps29
    go_wp2_with fail
    go_ret2
    exact ⟨rfl, rfl⟩
  · have g0 : decide (at' < 0) = false := decide_eq_false h0
    have g1 : decide ((s.size : Int) ≤ at') = true := decide_eq_true (by omega)
    clear h
    go_enter Tryz.func29, Tryz.ntmps29
    go_wp2_with fail
    go_ret2
    exact ⟨rfl, rfl⟩

set_option maxRecDepth 20000 in
set_option maxHeartbeats 4000000 in
theorem specXmlNote_in (s : ByteArray) (k : Nat) (w : World) (hk : k < s.size) (hs : s.size ≤ 1099511627776) :
    Calls Tryz.prog 29 #[.string s, .int .i64 (k : Int)] w fun e w' => e = .returned (noteV s k (xnoteR s k)) ∧ Below w.heap.size w w' := by
  have g0 : decide ((k : Int) < 0) = false := decide_eq_false (by omega)
  have g1 : decide ((s.size : Int) ≤ (k : Int)) = false := decide_eq_false (by omega)
  have q1 : IntKind.i64.wrap ((k : Int) + 4) = (k : Int) + 4 := IntWalk.i64_in _ (by omega)
  have Hd : Hid (xnoteR s k = if standsB s k openNoteB = true then (match searchE s (k + 4) twoB with | none => none | some m => if (standsB s m shutNoteB && stNoteB (s.extract (k + 4) m)) = true then some m else none) else none) := rfl
  have H1 := fun W => specStands s k openNoteB W (by omega) (by omega) (by decide)
  cases h1 : standsB s k openNoteB
  · have Hx : Hid (xnoteR s k = none) := by show _ = _; rw [Hd.out, h1]; rfl
    rw [h1] at H1
    clear h1 Hd
    go_enter Tryz.func29, Tryz.ntmps29
    go_wp2_with fail
    refine (H1 _).mono ?_
    rintro e w1 ⟨rfl, rfl⟩
    go_wp2_with fail
    go_ret2
    rw [Hx.out]
    exact ⟨rfl, Below.refl _ _⟩
  · have hl := stands_le h1
    have hl4 : k + 4 ≤ s.size := hl
    have H2 : ∀ W, Calls Tryz.prog 51 #[.string s, .int .i64 ((k : Int) + 4), .string ⟨#[45, 45]⟩] W fun e w' => e = .returned (.int .i64 (findV (searchE s (k + 4) twoB))) ∧ w' = W := fun W => specSearch s (k + 4) twoB W (by omega) (by omega) (by decide)
    rw [h1] at H1
    have Hd2 : Hid (xnoteR s k = (match searchE s (k + 4) twoB with | none => none | some m => if (standsB s m shutNoteB && stNoteB (s.extract (k + 4) m)) = true then some m else none)) := by show _ = _; rw [Hd.out, h1]; rfl
    clear h1 Hd
    cases h2 : searchE s (k + 4) twoB with
    | none =>
      have Hx : Hid (xnoteR s k = none) := by show _ = _; rw [Hd2.out, h2]
      rw [h2] at H2
      clear h2 Hd2
      go_enter Tryz.func29, Tryz.ntmps29
      go_wp2_with fail
      refine (H1 _).mono ?_
      rintro e w1 ⟨rfl, rfl⟩
      go_wp2_with fail
      refine (H2 _).mono ?_
      rintro e w1 ⟨rfl, rfl⟩
      simp only [findV]
      go_wp2_with fail
      go_ret2
      rw [Hx.out]
      exact ⟨rfl, Below.refl _ _⟩
    | some m =>
      have hm := searchE_le s twoB _ (k + 4) m (Nat.le_refl _) h2
      have hm2 : m + 2 ≤ s.size := hm.2
      have H3 := fun W => specStands s m shutNoteB W (by omega) (by omega) (by decide)
      have hz : (s.extract (k + 4) m).size ≤ 1099511627776 := by rw [ByteArray.size_extract]; omega
      have H4 := fun W => specNoteOk (s.extract (k + 4) m) W hz
      have Hd3 : Hid (xnoteR s k = if (standsB s m shutNoteB && stNoteB (s.extract (k + 4) m)) = true then some m else none) := by show _ = _; rw [Hd2.out, h2]
      rw [h2] at H2
      clear h2 Hd2 hz
      have gm : decide ((m : Int) < 0) = false := decide_eq_false (by omega)
      have p1 : (0 : Int) ≤ (k : Int) + 4 := by omega
      have p2 : (k : Int) + 4 ≤ (m : Int) := by omega
      have p3 : (m : Int) ≤ (s.size : Int) := by omega
      have p4 : ((k : Int) + 4).toNat = k + 4 := by omega
      have p5 : IntKind.i64.wrap ((m : Int) + 3) = (m : Int) + 3 := IntWalk.i64_in _ (by omega)
      have p6 : (0 : Int) ≤ (m : Int) := by omega
      cases h3 : standsB s m shutNoteB
      · have Hx : Hid (xnoteR s k = none) := by show _ = _; rw [Hd3.out, h3]; rfl
        rw [h3] at H3
        clear h3 Hd3 H4
        go_enter Tryz.func29, Tryz.ntmps29
        go_wp2_with fail
        refine (H1 _).mono ?_
        rintro e w1 ⟨rfl, rfl⟩
        go_wp2_with fail
        refine (H2 _).mono ?_
        rintro e w1 ⟨rfl, rfl⟩
        simp only [findV]
        go_wp2_with fail
        refine (H3 _).mono ?_
        rintro e w1 ⟨rfl, rfl⟩
        go_wp2_with fail
        go_ret2
        rw [Hx.out]
        exact ⟨rfl, Below.refl _ _⟩
      · rw [h3] at H3
        cases h4 : stNoteB (s.extract (k + 4) m)
        · have Hx : Hid (xnoteR s k = none) := by show _ = _; rw [Hd3.out, h3, h4]; rfl
          rw [h4] at H4
          clear h3 h4 Hd3
          go_enter Tryz.func29, Tryz.ntmps29
          go_wp2_with fail
          refine (H1 _).mono ?_
          rintro e w1 ⟨rfl, rfl⟩
          go_wp2_with fail
          refine (H2 _).mono ?_
          rintro e w1 ⟨rfl, rfl⟩
          simp only [findV]
          go_wp2_with fail
          refine (H3 _).mono ?_
          rintro e w1 ⟨rfl, rfl⟩
          go_wp2_with fail
          refine (H4 _).mono ?_
          rintro e w2 ⟨rfl, b2⟩
          go_wp2_with fail
          go_ret2
          rw [Hx.out]
          exact ⟨rfl, b2⟩
        · have Hx : Hid (xnoteR s k = some m) := by show _ = _; rw [Hd3.out, h3, h4]; rfl
          rw [h4] at H4
          clear h3 h4 Hd3
          go_enter Tryz.func29, Tryz.ntmps29
          go_wp2_with fail
          refine (H1 _).mono ?_
          rintro e w1 ⟨rfl, rfl⟩
          go_wp2_with fail
          refine (H2 _).mono ?_
          rintro e w1 ⟨rfl, rfl⟩
          simp only [findV]
          go_wp2_with fail
          refine (H3 _).mono ?_
          rintro e w1 ⟨rfl, rfl⟩
          go_wp2_with fail
          refine (H4 _).mono ?_
          rintro e w2 ⟨rfl, b2⟩
          go_wp2_with fail
          go_ret2
          rw [Hx.out]
          exact ⟨rfl, b2⟩

end Go.Proofs.YthipdkagkdnaiaaGreatDoor.Sg

namespace Go.Proofs.YthipdkagkdnaiaaGreatDoor.Sg
open Go.ChangeShapes Go.WideShapes Go.ChangeAt Go.RowKit

def xoO (s : ByteArray) (i : Int) : Option Nat := if 0 ≤ i ∧ i < s.size then xnoteR s i.toNat else none
def xoS (s : ByteArray) (i : Int) : ByteArray := ((xoO s i).map fun m => s.extract (i.toNat + 4) m).getD ⟨#[]⟩
def xoI (s : ByteArray) (i : Int) : Int := ((xoO s i).map fun m => ((m + 3 : Nat) : Int)).getD (-1)

theorem specXmlNote (s : ByteArray) (i : Int) (w : World) (hs : s.size ≤ 1073741824) :
    Calls Tryz.prog 29 #[.string s, .int .i64 i] w fun e w' => e = .returned (.tuple #[.string (xoS s i), .int .i64 (xoI s i)]) ∧ Below w.heap.size w w' := by
  by_cases h : 0 ≤ i ∧ i < s.size
  · unfold xoS xoI xoO
    rw [if_pos h]
    have C := specXmlNote_in s i.toNat w (by omega) (by omega)
    rw [show ((i.toNat : Nat) : Int) = i by omega] at C
    refine C.mono fun e w' h => ⟨h.1.trans ?_, h.2⟩
    cases xnoteR s i.toNat <;> rfl
  · unfold xoS xoI xoO
    rw [if_neg h]
    exact (specXmlNote_out s i w (by omega)).mono fun e w' h => ⟨h.1, h.2 ▸ Below.refl _ _⟩

end Go.Proofs.YthipdkagkdnaiaaGreatDoor.Sg

namespace Go.Proofs.YthipdkagkdnaiaaGreatDoor.Sg
open Go.ChangeShapes Go.WideShapes Go.ChangeAt Go.RowKit

def ltS : ByteArray := ⟨#[60]⟩
def gtS : ByteArray := ⟨#[62]⟩
def slashGt : ByteArray := ⟨#[47, 62]⟩
def ltSlash : ByteArray := ⟨#[60, 47]⟩

theorem xoI_le {s : ByteArray} {i : Nat} (h : ¬ xoI s (i : Int) < 0) : ∃ j : Nat, xoI s (i : Int) = (j : Int) ∧ i + 7 ≤ j ∧ j ≤ s.size ∧ (xoS s (i : Int)).size + 7 ≤ j - i := by
  unfold xoI xoS at *
  unfold xoO at *
  by_cases h1 : 0 ≤ (i : Int) ∧ (i : Int) < s.size
  · rw [if_pos h1] at h ⊢
    have e : ((i : Int)).toNat = i := by omega
    rw [e] at h ⊢
    cases hx : xnoteR s i with
    | none =>
      rw [hx] at h
      exact absurd (by decide) h
    | some m =>
      unfold xnoteR at hx
      split at hx
      · rename_i h2
        split at hx
        · cases hx
        · rename_i q hq
          split at hx
          · rename_i h3
            injection hx with hx
            subst hx
            have h4 := searchE_le s twoB (s.size + 1 - (i + 4)) (i + 4) q (Nat.le_refl _) hq
            simp only [Bool.and_eq_true] at h3
            have h5 := stands_le h3.1
            have h6 : shutNoteB.size = 3 := rfl
            refine ⟨q + 3, rfl, by omega, by omega, ?_⟩
            show (s.extract (i + 4) q).size + 7 ≤ _
            rw [ByteArray.size_extract]
            omega
          · cases hx
      · cases hx
  · rw [if_neg h1] at h
    exact absurd (by decide) h
theorem xtI_lt {s : ByteArray} {i : Nat} (hi : i < s.size) (h60 : s.data[i]? ≠ some 60) (h : ¬ xtI s (i : Int) ltS < 0) : ∃ j : Nat, xtI s (i : Int) ltS = (j : Int) ∧ i < j ∧ j ≤ s.size ∧ (xtS s (i : Int) ltS).size ≤ 4 * (j - i) := by
  unfold xtI xtS at *
  unfold xtO at *
  have h1 : 0 ≤ (i : Int) ∧ (i : Int) ≤ s.size := by omega
  rw [if_pos h1] at h ⊢
  have e : ((i : Int)).toNat = i := by omega
  rw [e] at h ⊢
  have eL : ltS.data.toList = [60] := rfl
  rw [eL] at h ⊢
  cases hx : xtextR s [60] i with
  | none =>
    rw [hx] at h
    exact absurd (by decide) h
  | some r =>
    have h2 := xtextR_le s [60] (s.size - i) i r (Nat.le_refl _) (by omega) hx
    have ed : s.data[i]? = some (s[i]'hi) := by
      show s.data[i]? = some (s.data[i]'hi)
      exact Array.getElem?_eq_getElem hi
    have hc : ([60] : List UInt8).contains (s[i]'hi) = false := by
      cases hcc : ([60] : List UInt8).contains (s[i]'hi)
      · rfl
      · exfalso
        apply h60
        rw [ed]
        have : s[i]'hi = 60 := by simpa using hcc
        rw [this]
    have h3 : i < r.2 := by
      by_cases h38 : s[i]'hi = 38
      · cases hr : xrefR s i with
        | none =>
          rw [xtextR_none hi hc h38 hr] at hx
          cases hx
        | some q =>
          obtain ⟨t, j⟩ := q
          rw [xtextR_ref hi hc h38 hr] at hx
          have hj := xrefR_le hr
          obtain ⟨r', hr', rfl⟩ := Option.map_eq_some_iff.1 hx
          have := xtextR_le s [60] (s.size - j) j r' (Nat.le_refl _) hj.2.1 hr'
          show i < r'.2
          omega
      · cases hs : xsignB s i
        · rw [xtextR_bad hi hc h38 hs] at hx
          cases hx
        · rw [xtextR_sign hi hc h38 hs] at hx
          have hm := getS_many s i hi
          obtain ⟨r', hr', rfl⟩ := Option.map_eq_some_iff.1 hx
          have := xtextR_le s [60] (s.size - (i + (getS s i).2)) (i + (getS s i).2) r' (Nat.le_refl _) hm.2 hr'
          show i < r'.2
          omega
    refine ⟨r.2, rfl, h3, h2.2.1, ?_⟩
    show (strB r.1).size ≤ _
    rw [strB_size]
    exact h2.2.2

/-- Kids from place i on, up to a closing tag, and where it is; el reads one; none: refused. -/
def kidsL (s : ByteArray) (el : Nat → Option (ElB × Nat)) : Nat → Nat → Option (List ElB × Nat)
  | 0, _ => none
  | f + 1, i =>
    if standsB s i ltSlash = true then some ([], i)
    else if ¬ i < s.size then none
    else if standsB s i openNoteB = true then
      if xoI s (i : Int) < 0 then none else (kidsL s el f (xoI s (i : Int)).toNat).map fun r => (.mk 3 0 ⟨#[]⟩ [] (xoS s (i : Int)) [] :: r.1, r.2)
    else if s.data[i]? = some 60 then
      match el i with
      | none => none
      | some x => (kidsL s el f x.2).map fun r => (x.1 :: r.1, r.2)
    else if xtI s (i : Int) ltS < 0 then none else (kidsL s el f (xtI s (i : Int) ltS).toNat).map fun r => (.mk 2 0 ⟨#[]⟩ [] (xtS s (i : Int) ltS) [] :: r.1, r.2)

/-- An element from place i on, so deep at most, and where it ends; none: refused. -/
def elM (s : ByteArray) : Nat → Nat → Nat → Int → Option (ElB × Nat)
  | 0, _, _, _ => none
  | m + 1, deep, i, about =>
    if standsB s i ltS = false ∨ deep = 0 then none
    else if (xnS s ((i + 1 : Nat) : Int)).size = 0 then none
    else match attrsR s about (s.size + 1) (xnI s ((i + 1 : Nat) : Int)).toNat [] about false with
      | none => none
      | some r =>
        if standsB s r.2.2 slashGt = true then some (.mk 1 r.2.1 (xnS s ((i + 1 : Nat) : Int)) r.1 ⟨#[]⟩ [], r.2.2 + 2)
        else if standsB s r.2.2 gtS = false then none
        else match kidsL s (fun q => elM s m (deep - 1) q r.2.1) (s.size + 1) (r.2.2 + 1) with
          | none => none
          | some k => if standsB s k.2 (ltSlash ++ xnS s ((i + 1 : Nat) : Int) ++ gtS) = true then some (.mk 1 r.2.1 (xnS s ((i + 1 : Nat) : Int)) r.1 ⟨#[]⟩ k.1, k.2 + (ltSlash ++ xnS s ((i + 1 : Nat) : Int) ++ gtS).size) else none

end Go.Proofs.YthipdkagkdnaiaaGreatDoor.Sg

namespace Go.Proofs.YthipdkagkdnaiaaGreatDoor.Sg
open Go.ChangeShapes Go.WideShapes Go.ChangeAt Go.RowKit

set_option maxRecDepth 20000 in
set_option maxHeartbeats 4000000 in
theorem take_off (s t : ByteArray) (i : Int) (p : Nat) (w : World) (h : RdAt w p s i false) :
    Calls Tryz.prog 27 #[.pointer (some ⟨p, 0, none⟩), .string t] w fun r w' => r = .returned (.tuple #[]) ∧ RdAt w' p s i false ∧ Fr p w w' := by
  have c2 := h.c2
  have z2 := h.fz 2
  have H : Hid (RdAt w p s i false) := h
  clear h
  go_enter Tryz.func27, Tryz.ntmps27
  go_wp2_with fail
  go_quiet (fail)
  have bn := drew_kd (Below.refl w.heap.size w) nq
  have HR : Hid (RdAt (w.drewN nq) p s i false) := H.out.keep bn
  have HF : Hid (Fr p w (w.drewN nq)) := Fr.of_below bn
  clear bn
  go_wp2_with fail
  refine bodyPost_ret (results_none rfl _ _ _) rfl ?_
  exact ⟨rfl, HR.out.set2 false, HF.out.trans (Fr.set _ _ _)⟩

set_option maxRecDepth 20000 in
set_option maxHeartbeats 4000000 in
theorem take_no (s t : ByteArray) (i : Nat) (p : Nat) (w : World) (h : RdAt w p s i true) (hs : s.size ≤ 17592186044416) (hi : i ≤ 17592186044416) (ht : t.size ≤ 17592186044416) (hst : standsB s i t = false) :
    Calls Tryz.prog 27 #[.pointer (some ⟨p, 0, none⟩), .string t] w fun r w' => r = .returned (.tuple #[]) ∧ RdAt w' p s i false ∧ Fr p w w' := by
  have c0 := h.c0
  have c1 := h.c1
  have c2 := h.c2
  have z2 := h.fz 2
  have H : Hid (RdAt w p s i true) := h
  have HS := fun W => specStands s i t W hs hi ht
  rw [hst] at HS
  clear h
  go_enter Tryz.func27, Tryz.ntmps27
  go_wp2_with fail
  go_quiet ((go_at_call 28; exact Calls.quiet_of_same (HS _)))
  have bn := drew_kd (Below.refl w.heap.size w) nq
  have HR : Hid (RdAt (w.drewN nq) p s i true) := H.out.keep bn
  have HF : Hid (Fr p w (w.drewN nq)) := Fr.of_below bn
  clear bn
  go_wp2_with fail
  refine bodyPost_ret (results_none rfl _ _ _) rfl ?_
  exact ⟨rfl, HR.out.set2 false, HF.out.trans (Fr.set _ _ _)⟩

set_option maxRecDepth 20000 in
set_option maxHeartbeats 4000000 in
theorem take_yes (s t : ByteArray) (i : Nat) (p : Nat) (w : World) (h : RdAt w p s i true) (hs : s.size ≤ 17592186044416) (hi : i ≤ 17592186044416) (ht : t.size ≤ 17592186044416) (hst : standsB s i t = true) :
    Calls Tryz.prog 27 #[.pointer (some ⟨p, 0, none⟩), .string t] w fun r w' => r = .returned (.tuple #[]) ∧ RdAt w' p s ((i + t.size : Nat) : Int) true ∧ Fr p w w' := by
  have c0 := h.c0
  have c1 := h.c1
  have c2 := h.c2
  have z1 := h.fz 1
  have H : Hid (RdAt w p s i true) := h
  have HS := fun W => specStands s i t W hs hi ht
  rw [hst] at HS
  have q1 : IntKind.i64.wrap ((i : Int) + (t.size : Int)) = (i : Int) + (t.size : Int) := IntWalk.i64_in _ (by omega)
  have q2 : Hid (((i + t.size : Nat) : Int) = (i : Int) + (t.size : Int)) := by show _ = _; omega
  clear h
  go_enter Tryz.func27, Tryz.ntmps27
  go_wp2_with fail
  go_quiet ((go_at_call 28; exact Calls.quiet_of_same (HS _)))
  have bn := drew_kd (Below.refl w.heap.size w) nq
  have HR : Hid (RdAt (w.drewN nq) p s i true) := H.out.keep bn
  have HF : Hid (Fr p w (w.drewN nq)) := Fr.of_below bn
  clear bn
  go_wp2_with fail
  go_end0
  rw [q2.out]
  exact ⟨rfl, HR.out.set1 _, HF.out.trans (Fr.set _ _ _)⟩

end Go.Proofs.YthipdkagkdnaiaaGreatDoor.Sg

namespace Go.Proofs.YthipdkagkdnaiaaGreatDoor.Sg
open Go.ChangeShapes Go.WideShapes Go.ChangeAt Go.RowKit

set_option maxHeartbeats 1000000 in
theorem specSpaceName (n : Int) (w : World) :
    Calls Tryz.prog 92 #[.int .i64 n] w fun e w' => e = .returned (.string (spaceS n)) ∧ w' = w := by
  by_cases h0 : n = 0
  · subst h0
    go_enter Tryz.func92, Tryz.ntmps92
    go_wp2_with fail
    go_ret
    exact ⟨rfl, rfl⟩
  by_cases h1 : n = 1
  · subst h1
    go_enter Tryz.func92, Tryz.ntmps92
    go_wp2_with fail
    go_ret
    exact ⟨rfl, rfl⟩
  by_cases h2 : n = 2
  · subst h2
    go_enter Tryz.func92, Tryz.ntmps92
    go_wp2_with fail
    go_ret
    exact ⟨rfl, rfl⟩
  have g0 : (n == 0) = false := by rw [beq_eq_false_iff_ne]; exact h0
  have g1 : (n == 1) = false := by rw [beq_eq_false_iff_ne]; exact h1
  have g2 : (n == 2) = false := by rw [beq_eq_false_iff_ne]; exact h2
  have Hx : Hid (spaceS n = ⟨#[]⟩) := by
    show _ = _
    unfold spaceS
    rw [if_neg h0, if_neg h1, if_neg h2]
  clear h0 h1 h2
  go_enter Tryz.func92, Tryz.ntmps92
  go_wp2_with fail
  go_ret
  rw [Hx.out]
  exact ⟨rfl, rfl⟩

end Go.Proofs.YthipdkagkdnaiaaGreatDoor.Sg

namespace Go.Proofs.YthipdkagkdnaiaaGreatDoor.Sg
open Go.ChangeShapes Go.WideShapes Go.ChangeAt Go.RowKit

theorem ret_in {a b : Int} (h : a = b) : Ending.returned (.int .i64 a) = .returned (.int .i64 b) := by rw [h]

set_option maxRecDepth 20000 in
set_option maxHeartbeats 2000000 in
theorem specSpaceOf (v : ByteArray) (w : World) : Calls Tryz.prog 68 #[.string v] w fun r w' => r = .returned (.int .i64 (spaceI v)) ∧ w' = w := by
  obtain ⟨R, HR⟩ : ∃ R, Hid (spaceI v = R) := ⟨_, rfl⟩
  rw [HR.out]
  have HR0 : Hid (spaceG v 3 0 = R) := HR.out
  clear HR
  go_enter Tryz.func68, Tryz.ntmps68
  go_wp2_with fail
  go_loopw [3] (fun nv wr => ∃ k f : Nat, f + k = 3 ∧ nv = .int .i64 (k : Int) ∧ Hid (spaceG v f k = R) ∧ wr = w) (fun nv _ => 3 - (intOf nv).toNat)
  case atStart => exact ⟨0, 3, rfl, rfl, HR0, rfl⟩
  case round =>
    clear HR0
    obtain ⟨k, f, hk, rfl, HRk, rfl⟩ := hrel
    by_cases hle : k ≤ 2
    · obtain ⟨f', rfl⟩ : ∃ f', f = f' + 1 := ⟨f - 1, by omega⟩
      have g1 : (k : Int) ≤ 2 := by omega
      have hR := HRk.out
      rw [spaceG] at hR
      have HS := specSpaceName (k : Int) wr
      generalize spaceS (k : Int) = y at *
      cases he : (y.toList == v.toList)
      · rw [he, if_neg (by decide)] at hR
        have HR2 : Hid (spaceG v f' (k + 1) = R) := hR
        clear hR HRk
        go_wp2_with fail
        refine HS.mono ?_
        rintro r wr ⟨rfl, rfl⟩
        go_wp2_with fail
        go_roundw
        case rel => exact ⟨k + 1, f', by omega, by go_num, HR2, by first | trivial | rfl⟩
        case measure => simp [intOf]; omega
      · rw [he, if_pos rfl] at hR
        have HRe : Hid ((k : Int) = R) := hR
        clear HRk hR
        go_wp2_with fail
        refine HS.mono ?_
        rintro r wr ⟨rfl, rfl⟩
        clear HS
        go_wp2_with fail
        go_ret
        exact ⟨ret_in HRe.out, rfl⟩
    · have hf : f = 0 := by omega
      subst hf
      have g1 : ¬ (k : Int) ≤ 2 := by omega
      have g1' : decide ((k : Int) ≤ 2) = false := decide_eq_false g1
      have HRe : Hid ((-1 : Int) = R) := HRk.out
      clear HRk
      go_wp2_with fail
      go_ret
      exact ⟨ret_in HRe.out, rfl⟩

end Go.Proofs.YthipdkagkdnaiaaGreatDoor.Sg
