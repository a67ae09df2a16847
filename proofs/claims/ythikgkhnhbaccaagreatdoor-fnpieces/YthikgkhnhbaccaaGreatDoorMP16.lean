/- The program's XmlAttr answers as the model's. Contracts of the model's TextOk and TextOf. Contracts of the model's NoteOk and NoteOf. -/
import Derived.Test.YthikgkhnhbaccaaGreatDoorMP18
import Derived.Test.YthikgkhnhbaccaaGreatDoorMP03
import Derived.Test.YthikgkhnhbaccaaGreatDoorMP19
namespace Go.Proofs.YthikgkhnhbaccaaGreatDoor.Sg
open Go.ChangeShapes Go.WideShapes Go.ChangeAt Go.RowKit

set_option maxHeartbeats 2000000 in
theorem implXmlAttr (s : ByteArray) (i : Int) (a : Addr) (w : World) (hs : s.size ≤ 1073741824) (hX : PcX a w) :
    Calls Tryz.prog 21 #[.string s, .int .i64 i] w fun e w' => e = .returned (.tuple #[.agg #[.string (xaN s i), .string (xaV s i)], .int .i64 (xaI s i)]) ∧ Below w.heap.size w w' := by
  have HX : Hid (PcX a w) := hX
  have HX1 : Hid (PcX a (w.alloc (.cells #[.string ⟨#[]⟩, .string ⟨#[]⟩] 36))) := hX.below ((Below.refl _ _).alloc (Nat.le_refl _) _)
  have hg := err_place hX.1.2
  have HC : ∃ o, Hid ((xaN s i = match o with | none => ⟨#[]⟩ | some r => r.1) ∧ (xaV s i = match o with | none => ⟨#[]⟩ | some (r : ByteArray × ByteArray × Nat) => r.2.1) ∧ (xaI s i = match o with | none => -1 | some r => (r.2.2 : Int))) ∧
      ∀ W, PcX a W → Calls Tryz.prog 53 #[.string s, .int .i64 i] W fun e w' => (∃ x y j, e = .returned (pattrV a x y j o)) ∧ Below W.heap.size W w' := by
    by_cases h : 0 ≤ i ∧ i ≤ s.size
    · refine ⟨attrO s i.toNat, ?_, fun W hW => ?_⟩
      · show _ ∧ _ ∧ _
        unfold xaN xaV xaI xaO attrO
        rw [if_pos h]
        cases xattrR s i.toNat <;> exact ⟨rfl, rfl, rfl⟩
      · have C := strictAttr_in s i.toNat a W (by omega) hs hW
        rw [show ((i.toNat : Nat) : Int) = i by omega] at C
        exact C
    · refine ⟨none, ?_, fun W hW => strictAttr_out s i a W (by omega) hW⟩
      show _ ∧ _ ∧ _
      unfold xaN xaV xaI xaO
      rw [if_neg h]
      exact ⟨rfl, rfl, rfl⟩
  obtain ⟨o, HO, HC⟩ := HC
  generalize xaN s i = N0 at *
  generalize xaV s i = V0 at *
  generalize xaI s i = I0 at *
  clear hX
  cases o with
  | none =>
    obtain ⟨rfl, rfl, rfl⟩ := HO.out
    clear HO
    go_enter Tryz.func21, Tryz.ntmps21
    go_wp2_with fail
    refine (HC _ HX1.out).mono ?_
    rintro e w1 ⟨⟨x, y, j, rfl⟩, b1⟩
    rw [show pattrV a x y j none = .tuple #[.agg #[.string x, .string y], .int .i64 j, errV a] from rfl]
    have B0 := below_box b1
    go_wp2_with fail
    refine (toldA_no x y j a _ (HX.out.below B0).1.2).mono ?_
    rintro e w2 ⟨rfl, b2⟩
    have b4 := b1.trans (b2.mono b1.size)
    have X : Hid (Box2 _ w.heap.size) := Box2.of b4
    have B : Hid (Below w.heap.size w _) := below_box b4
    clear b1 b2 b4 B0 HC
    obtain ⟨hx, hy, hf, hg', hs0, hs1⟩ := X.out
    go_wp2_with fail
    refine bodyPost_ret (v := .tuple #[.agg #[.string ⟨#[]⟩, .string ⟨#[]⟩], .int .i64 (-1)]) ?_ rfl ⟨rfl, (B.out.setCell (Nat.le_refl _) _).setCell (Nat.le_refl _) _⟩
    have t0 := hs0 (.string ⟨#[]⟩) (.string ⟨#[]⟩)
    have t1 := hs1 (.string ⟨#[]⟩) (.string ⟨#[]⟩)
    simp [results, Tryz.results21, go_sem, t0, t1]
  | some r =>
    obtain ⟨nm, v, q⟩ := r
    obtain ⟨rfl, rfl, rfl⟩ := HO.out
    clear HO
    go_enter Tryz.func21, Tryz.ntmps21
    go_wp2_with fail
    refine (HC _ HX1.out).mono ?_
    rintro e w1 ⟨⟨x, y, j, rfl⟩, b1⟩
    rw [show pattrV a x y j (some (N0, V0, q)) = .tuple #[.agg #[.string N0, .string V0], .int .i64 (q : Int), .nilIface] from rfl]
    have B0 := below_box b1
    go_wp2_with fail
    refine (toldA_yes N0 V0 (q : Int) a _ (HX.out.below B0).1.2).mono ?_
    rintro e w2 ⟨rfl, b2⟩
    have b4 := b1.trans (b2.mono b1.size)
    have X : Hid (Box2 _ w.heap.size) := Box2.of b4
    have B : Hid (Below w.heap.size w _) := below_box b4
    clear b1 b2 b4 B0 HC
    obtain ⟨hx, hy, hf, hg', hs0, hs1⟩ := X.out
    go_wp2_with fail
    refine bodyPost_ret (v := .tuple #[.agg #[.string N0, .string V0], .int .i64 (q : Int)]) ?_ rfl ⟨rfl, (B.out.setCell (Nat.le_refl _) _).setCell (Nat.le_refl _) _⟩
    have t0 := hs0 (.string N0) (.string V0)
    have t1 := hs1 (.string N0) (.string V0)
    simp [results, Tryz.results21, go_sem, t0, t1]
end Go.Proofs.YthikgkhnhbaccaaGreatDoor.Sg

namespace Go.Proofs.YthikgkhnhbaccaaGreatDoor.Sg
open Go.ChangeShapes Go.WideShapes Go.ChangeAt Go.RowKit

theorem all_drop {p : Int → Bool} (zs : List Int) (k : Nat) (h : k < zs.length) : (zs.drop k).all p = (p (zs.getD k 0) && (zs.drop (k + 1)).all p) := by
  rw [List.drop_eq_getElem_cons h, List.all_cons]
  simp [h]

set_option maxHeartbeats 2000000 in
theorem specTextOk (s : ByteArray) (w : World) (hs : s.size ≤ 17592186044416) :
    Calls Tryz.prog 87 #[.string s] w fun e w' => e = .returned (.bool (stTextB s)) ∧ Below w.heap.size w w' := by
  have Hn : Hid (stTextB s = ((signsL s).all textB && cleanB s)) := rfl
  have hl := signsL_length s
  go_enter Tryz.func87, Tryz.ntmps87
  go_wp2_with fail
  refine (specSigns s _ hs).mono ?_
  rintro e w1 ⟨a, cap, rfl, o1, b1⟩
  have I1 : Hid (Ints w1 a (signsL s)) := o1.ints
  clear o1
  have Hc := fun W => specCleanOk s W hs
  generalize signsL s = zs at *
  generalize hlen : zs.length = n at *
  have Hlen : Hid (zs.length = n) := hlen
  clear hlen
  generalize cleanB s = cb at *
  go_wp2_with fail
  go_loopw [4] (fun i wr => ∃ k : Nat, k ≤ n ∧ i = .int .i64 k ∧ Hid (zs.all textB = (zs.drop k).all textB) ∧ Below w1.heap.size w1 wr) (fun i _ => n - (intOf i).toNat)
  case atStart => exact ⟨0, Nat.zero_le _, rfl, rfl, Below.refl _ _⟩
  case round =>
    obtain ⟨k, hk, rfl, Hk, hbel⟩ := hrel
    by_cases hlt : k < n
    · obtain ⟨b, o, rfl, hb, hc⟩ := I1.out.cell hbel (by rw [Hlen.out]; exact hlt)
      have hst := all_drop (p := textB) zs k (by rw [Hlen.out]; exact hlt)
      generalize hz : zs.getD k 0 = z at *
      clear hz
      have Hst : Hid (zs.all textB = (textB z && (zs.drop (k + 1)).all textB)) := Hk.out.trans hst
      clear hst Hk Hc
      have Hf := fun W => specIsText z W
      cases hf : textB z
      · have Hno : Hid (stTextB s = false) := by
          show _ = _
          rw [Hn.out, Hst.out, hf]
          rfl
        rw [hf] at Hf
        clear hf Hst Hn
        go_wp2_with fail
        refine (Hf _).mono ?_
        rintro e w2 ⟨rfl, rfl⟩
        go_wp2_with fail
        go_ret
        exact ⟨ret_bool Hno.out.symm, b1.trans (hbel.mono b1.size)⟩
      · have Hnx : Hid (zs.all textB = (zs.drop (k + 1)).all textB) := by
          show _ = _
          rw [Hst.out, hf]
          rfl
        rw [hf] at Hf
        clear hf Hst Hn
        go_wp2_with fail
        refine (Hf _).mono ?_
        rintro e w2 ⟨rfl, rfl⟩
        go_wp2_with fail
        go_roundw
        case rel => exact ⟨k + 1, by omega, by go_num, Hnx, hbel⟩
        case measure => simp [intOf]; omega
    · have Hall : Hid (stTextB s = cb) := by
        show _ = _
        have hd : zs.drop k = [] := List.drop_eq_nil_of_le (by have := Hlen.out; omega)
        rw [Hn.out, Hk.out, hd]
        rfl
      have g1 : decide ((k : Int) < (n : Int)) = false := decide_eq_false (by omega)
      clear Hn Hk I1
      go_wp2_with fail
      refine (Hc _).mono ?_
      rintro e w3 ⟨rfl, b3⟩
      go_wp2_with fail
      go_ret
      exact ⟨ret_bool Hall.out.symm, b1.trans ((hbel.trans (b3.mono hbel.size)).mono b1.size)⟩

/-- Numbers that a row holds. -/
theorem Ints.of_rowIs {w : World} {g cap : Nat} {t : TypeId} {f : Nat → Value} {ys : List Int} (h : w.rowIs g t cap f) (hn : ys.length ≤ cap) (hf : ∀ i, i < ys.length → f i = .int .i64 (ys.getD i 0)) : Ints w (some ⟨g, 0, none⟩) ys :=
  .inr ⟨g, 0, rfl, h.lt, fun i hi => by rw [Nat.zero_add, h.cell (by omega), hf i hi]⟩

end Go.Proofs.YthikgkhnhbaccaaGreatDoor.Sg

namespace Go.Proofs.YthikgkhnhbaccaaGreatDoor.Sg
open Go.ChangeShapes Go.WideShapes Go.ChangeAt Go.RowKit

theorem st_find_list (b : UInt8) (l : List UInt8) : (findL b l).isNone = l.all fun x => x != b := by
  induction l with
  | nil => rfl
  | cons x l ih =>
    rw [findL, List.all_cons, ← ih]
    by_cases h : x = b
    · simp [h]
    · simp [h]
theorem tail_all (s : ByteArray) : tailL s 0 = s.data.toList := by
  simp [tailL]
theorem st_find (s : ByteArray) (b : UInt8) : (findE s 0 b).isNone = s.data.toList.all fun x => x != b := by
  unfold findE
  rw [Option.isNone_map, st_find_list, tail_all]
theorem st_stands (s : ByteArray) (k : Nat) (h : k + 1 < s.size) : standsB s k ⟨#[45, 45]⟩ = (s[k]'(by omega) == 45 && s[k + 1]'h == 45) := by
  have h2 : (⟨#[45, 45]⟩ : ByteArray).size = 2 := rfl
  unfold standsB
  rw [h2, decide_eq_true (by omega), Bool.true_and]
  have e1 : (⟨#[45, 45]⟩ : ByteArray).toList = [45, 45] := ByteArray.toList_mk _
  have e2 : (s.extract k (k + 2)).toList = [s[k]'(by omega), s[k + 1]'h] := by
    rw [ByteArray.toList_eq, ByteArray.data_extract, Array.toList_extract]
    have h3 : (s.data.toList.drop k) = s[k]'(by omega) :: s[k + 1]'h :: s.data.toList.drop (k + 2) := by
      have a := tailL_step s k (by omega)
      have b := tailL_step s (k + 1) h
      rw [b] at a
      exact a
    show (s.data.toList.drop k).take (k + 2 - k) = _
    rw [show k + 2 - k = 2 by omega, h3]
    rfl
  rw [e1, e2]
  simp
theorem st_search (s : ByteArray) : ∀ (d k : Nat), s.size - k ≤ d → (searchE s k ⟨#[45, 45]⟩).isNone = noTwo (tailL s k) := by
  have h2 : (⟨#[45, 45]⟩ : ByteArray).size = 2 := rfl
  intro d
  induction d with
  | zero =>
    intro k hd
    rw [searchE_end (by rw [h2]; omega), tailL_end s k (by omega)]
    rfl
  | succ d ih =>
    intro k hd
    by_cases h : k + 1 < s.size
    · rw [tailL_step s k (by omega), tailL_step s (k + 1) h]
      have hs := st_stands s k h
      cases hc : standsB s k ⟨#[45, 45]⟩
      · rw [searchE_no (by rw [h2]; omega) hc, ih (k + 1) (by omega), tailL_step s (k + 1) h]
        conv => rhs; unfold noTwo
        rw [List.head?_cons]
        rw [hc] at hs
        rw [show (s[k]'(by omega) == 45 && some (s[k + 1]'h) == some 45) = false from hs.symm]
        rfl
      · rw [searchE_yes hc]
        rw [hc] at hs
        unfold noTwo
        rw [List.head?_cons]
        rw [show (s[k]'(by omega) == 45 && some (s[k + 1]'h) == some 45) = true from hs.symm]
        rfl
    · rw [searchE_end (by rw [h2]; omega)]
      by_cases h1 : k < s.size
      · rw [tailL_step s k h1, tailL_end s (k + 1) h]
        unfold noTwo
        simp [noTwo]
      · rw [tailL_end s k h1]
        rfl
theorem st_last (s : ByteArray) (m : Nat) (h : s.size = m + 1) : lastOk s.data.toList = (s[m]'(by omega) != 45) := by
  unfold lastOk
  have h2 : s.data.toList.length = s.size := Array.length_toList
  rw [List.getLast?_eq_getElem?, show s.data.toList.length - 1 = m by omega, List.getElem?_eq_getElem (by omega)]
  have e : s.data.toList[m]'(by omega) = s[m]'(by omega) := by
    simp [ByteArray.getElem_eq_getElem_data]
  rw [e]
  rfl

set_option maxHeartbeats 2000000 in
theorem specNoteOk (s : ByteArray) (w : World) (hs : s.size ≤ 1099511627776) :
    Calls Tryz.prog 56 #[.string s] w fun e w' => e = .returned (.bool (stNoteB s)) ∧ Below w.heap.size w w' := by
  have Hn : Hid (stNoteB s = (stTextB s && (findE s 0 13).isNone && (searchE s 0 ⟨#[45, 45]⟩).isNone && lastOk s.data.toList)) := by
    show _ = _
    rw [st_find, st_search s s.size 0 (by omega), tail_all]
    rfl
  have e0 : (⟨#[]⟩ : ByteArray).toList = [] := ByteArray.toList_mk _
  have Ht := fun W => specTextOk s W (by omega)
  have Hf := fun W => specFind s 0 13 W (Nat.zero_le _) (by omega)
  have Hq := fun W => specSearch s 0 ⟨#[45, 45]⟩ W (by omega) (by omega) (by decide)
  go_enter Tryz.func56, Tryz.ntmps56
  go_wp2_with fail
  refine (Ht _).mono ?_
  rintro e w1 ⟨rfl, b1⟩
  clear Ht
  cases ht : stTextB s
  · have Hno : Hid (stNoteB s = false) := by show _ = _; rw [Hn.out, ht]; rfl
    clear ht Hn Hf Hq
    go_wp2_with fail
    go_ret
    exact ⟨ret_bool Hno.out.symm, b1⟩
  rw [ht] at Hn
  clear ht
  go_wp2_with fail
  refine (Hf _).mono ?_
  rintro e w2 ⟨rfl, rfl⟩
  clear Hf
  cases hf : findE s 0 13
  case some m =>
    have Hno : Hid (stNoteB s = false) := by show _ = _; rw [Hn.out, hf]; rfl
    clear hf Hn Hq
    simp only [findV]
    go_wp2_with fail
    go_ret
    exact ⟨ret_bool Hno.out.symm, b1⟩
  rw [hf] at Hn
  clear hf
  simp only [findV]
  go_wp2_with fail
  refine (Hq _).mono ?_
  rintro e w2 ⟨rfl, rfl⟩
  clear Hq
  cases hq : searchE s 0 ⟨#[45, 45]⟩
  case some m =>
    have Hno : Hid (stNoteB s = false) := by show _ = _; rw [Hn.out, hq]; rfl
    clear hq Hn
    simp only [findV]
    go_wp2_with fail
    go_ret
    exact ⟨ret_bool Hno.out.symm, b1⟩
  rw [hq] at Hn
  clear hq
  simp only [findV]
  by_cases hz : s.size = 0
  · have := empty_of hz
    subst this
    go_wp2_with fail
    go_ret
    exact ⟨ret_bool (by rw [Hn.out]; rfl), b1⟩
  · have g2 := not_empty hz
    obtain ⟨m, hm⟩ : ∃ m, s.size = m + 1 := ⟨s.size - 1, by omega⟩
    have hlt : m < s.size := by omega
    have hl : lastOk s.data.toList = (s[m]'hlt != 45) := st_last s m hm
    rw [hl] at Hn
    clear hl
    have q1 : (s.size : Int) - 1 = (m : Int) := by omega
    clear hm hz
    cases hb : (s[m]'hlt != 45)
    · have Hno : Hid (stNoteB s = false) := by show _ = _; rw [Hn.out, hb]; rfl
      have g3 : ((s[m]'hlt).toNat : Int) = 45 := by
        rw [bne_eq_false_iff_eq] at hb
        rw [hb]
        rfl
      clear hb Hn
      go_wp2_with fail
      go_ret
      exact ⟨ret_bool Hno.out.symm, b1⟩
    · have Hno : Hid (stNoteB s = true) := by show _ = _; rw [Hn.out, hb]; rfl
      have g3 : (((s[m]'hlt).toNat : Int) != 45) = true := by
        rw [bne_iff_ne] at hb ⊢
        intro e
        exact hb (UInt8.toNat_inj.1 (by show _ = 45; omega))
      have g4 : (((s[m]'hlt).toNat : Int) == 45) = false := by
        rw [bne_iff_ne] at g3
        rw [beq_eq_false_iff_ne]
        exact g3
      clear hb Hn
      go_wp2_with fail
      go_ret
      exact ⟨ret_bool Hno.out.symm, b1⟩

end Go.Proofs.YthikgkhnhbaccaaGreatDoor.Sg
