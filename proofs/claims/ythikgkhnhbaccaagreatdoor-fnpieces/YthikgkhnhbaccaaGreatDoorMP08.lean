/- What the model's XmlNote hands back, at any place; its contract. A note, by what stands up to the next two bytes 45. Plain. The program's isNoText, slices.ContainsFunc over numbers, and TextOk. -/
import Derived.Test.YthikgkhnhbaccaaGreatDoorXmNote
import Derived.Test.YthikgkhnhbaccaaGreatDoorMP11
import Derived.Test.YthikgkhnhbaccaaGreatDoorPcRefI
import Derived.Test.YthikgkhnhbaccaaGreatDoorMP16
import Derived.Shelf.Abstract
namespace Go.Proofs.YthikgkhnhbaccaaGreatDoor.Sg
open Go.ChangeShapes Go.WideShapes Go.ChangeAt Go.RowKit

def xoO (s : ByteArray) (i : Int) : Option Nat := if 0 ≤ i ∧ i < s.size then xnoteR s i.toNat else none
def xoS (s : ByteArray) (i : Int) : ByteArray := ((xoO s i).map fun m => s.extract (i.toNat + 4) m).getD ⟨#[]⟩
def xoI (s : ByteArray) (i : Int) : Int := ((xoO s i).map fun m => ((m + 3 : Nat) : Int)).getD (-1)

theorem specXmlNote (s : ByteArray) (i : Int) (w : World) (hs : s.size ≤ 1073741824) :
    Calls Tryz.prog 25 #[.string s, .int .i64 i] w fun e w' => e = .returned (.tuple #[.string (xoS s i), .int .i64 (xoI s i)]) ∧ Below w.heap.size w w' := by
  by_cases h : 0 ≤ i ∧ i < s.size
  · unfold xoS xoI xoO
    rw [if_pos h]
    have C := specXmlNote_in s i.toNat w (by omega) (by omega)
    rw [show ((i.toNat : Nat) : Int) = i by omega] at C
    refine C.mono fun e w' h => ⟨h.1.trans ?_, h.2⟩
    cases xnoteR s i.toNat <;> rfl
  · unfold xoS xoI xoO
    rw [if_neg h]
    exact (specXmlNote_out s i w (by omega)).mono fun e w' h => ⟨h.1, h.2 ▸ Below.refl _ _⟩

end Go.Proofs.YthikgkhnhbaccaaGreatDoor.Sg

namespace Go.Proofs.YthikgkhnhbaccaaGreatDoor.Sg

theorem stands_gen {s : ByteArray} {p : Nat} (t : List UInt8) (h : p ≤ s.size) : standsB s p (strB t) = t.isPrefixOf (tailL s p) := by
  obtain ⟨e, hl⟩ := ptail_all s p h
  have h1 := stands_pre (s.data.toList.take p) (tailL s p) t
  rw [hl, ← e] at h1
  exact h1
theorem search_none {s t : ByteArray} : ∀ (d k : Nat), s.size + 1 - k ≤ d → (∀ p, k ≤ p → standsB s p t = false) → searchE s k t = none := by
  intro d
  induction d with
  | zero =>
    intro k hd _
    exact searchE_end (by omega)
  | succ d ih =>
    intro k hd h
    by_cases h1 : k + t.size ≤ s.size
    · rw [searchE_no h1 (h k (Nat.le_refl _))]
      exact ih (k + 1) (by omega) fun p hp => h p (by omega)
    · exact searchE_end h1
theorem search_hit {s t : ByteArray} {m : Nat} (hm : standsB s m t = true) : ∀ (d k : Nat), m - k ≤ d → k ≤ m → (∀ p, k ≤ p → p < m → standsB s p t = false) → searchE s k t = some m := by
  have hle := stands_le hm
  intro d
  induction d with
  | zero =>
    intro k hd hk _
    obtain rfl : k = m := by omega
    exact searchE_yes hm
  | succ d ih =>
    intro k hd hk h
    by_cases hkm : k = m
    · subst hkm
      exact searchE_yes hm
    · rw [searchE_no (by omega) (h k (Nat.le_refl _) (by omega))]
      exact ih (k + 1) (by omega) (by omega) fun p h1 h2 => h p (by omega) h2
theorem search_two {s : ByteArray} {k : Nat} (hk : k ≤ s.size) : searchE s k twoB = if 0 ≤ Lib.index (tailL s k) [45, 45] then some (k + (Lib.index (tailL s k) [45, 45]).toNat) else none := by
  have hlen := tailL_length s k
  have hocc : ∀ j, k + j ≤ s.size → Lib.occAt (tailL s k) [45, 45] j = standsB s (k + j) twoB := by
    intro j hj
    unfold Lib.occAt
    rw [tailL_drop]
    exact (stands_gen [45, 45] hj).symm
  rcases Lib.index_spec (tailL s k) [45, 45] with ⟨e1, e2⟩ | ⟨i, e1, e2, e3, e4⟩
  · rw [e1, if_neg (by decide)]
    refine search_none (s.size + 1) k (by omega) fun p hp => ?_
    by_cases hps : p ≤ s.size
    · have h1 := hocc (p - k) (by omega)
      rw [show k + (p - k) = p by omega, e2 (p - k) (by omega)] at h1
      exact h1.symm
    · unfold standsB
      rw [decide_eq_false (by omega), Bool.false_and]
  · rw [e1, if_pos (by omega), show ((i : Nat) : Int).toNat = i from rfl]
    have h3 := hocc i (by omega)
    rw [e3] at h3
    refine search_hit h3.symm i k (by omega) (by omega) fun p h1 h2 => ?_
    have h4 := hocc (p - k) (by omega)
    rw [show k + (p - k) = p by omega, e4 (p - k) (by omega)] at h4
    exact h4.symm
/-- What the program tells of a note: where it ends. -/
def noteP (s : ByteArray) (k : Nat) : Option Nat :=
  if Lib.hasPrefix (tailL s k) [60, 33, 45, 45] then
    if 0 ≤ Lib.index (tailL s (k + 4)) [45, 45] then
      let m := k + 4 + (Lib.index (tailL s (k + 4)) [45, 45]).toNat
      if stNoteB (s.extract (k + 4) m) && Lib.hasPrefix (tailL s (m + 2)) [62] then some m else none
    else none
  else none
theorem noteP_eq {s : ByteArray} {k : Nat} (hk : k ≤ s.size) : xnoteR s k = noteP s k := by
  have ho : standsB s k openNoteB = Lib.hasPrefix (tailL s k) [60, 33, 45, 45] := stands_gen [60, 33, 45, 45] hk
  unfold xnoteR noteP
  rw [ho]
  cases hp : Lib.hasPrefix (tailL s k) [60, 33, 45, 45]
  · rfl
  · rw [hp] at ho
    have h4 : k + 4 ≤ s.size := stands_le ho
    rw [if_pos rfl, if_pos rfl, search_two h4]
    rcases Lib.index_spec (tailL s (k + 4)) [45, 45] with ⟨e1, e2⟩ | ⟨i, e1, e2, e3, e4⟩
    · rw [e1, if_neg (by decide), if_neg (by decide)]
    · rw [e1, if_pos (by omega), if_pos (by omega), show ((i : Nat) : Int).toNat = i from rfl]
      have hroom := Lib.index_room (tailL s (k + 4)) [45, 45] (by omega)
      have hlen := tailL_length s (k + 4)
      rw [e1] at hroom
      simp only [List.length_cons, List.length_nil] at hroom
      have hs : standsB s (k + 4 + i) shutNoteB = Lib.hasPrefix (tailL s (k + 4 + i + 2)) [62] := by
        rw [show shutNoteB = strB [45, 45, 62] from rfl, stands_gen [45, 45, 62] (by omega)]
        unfold Lib.occAt at e3
        rw [tailL_drop, List.isPrefixOf_iff_prefix] at e3
        obtain ⟨r, hr⟩ := e3
        have hr2 : tailL s (k + 4 + i + 2) = r := by
          rw [← tailL_drop s (k + 4 + i) 2, ← hr]
          rfl
        rw [hr2, ← hr]
        rfl
      simp only
      rw [hs, Bool.and_comm]

end Go.Proofs.YthikgkhnhbaccaaGreatDoor.Sg

namespace Go.Proofs.YthikgkhnhbaccaaGreatDoor.Sg
open Go.ChangeShapes Go.WideShapes Go.ChangeAt Go.RowKit Go.Shelf

theorem implIsNoText (z : Int) (w : World) :
    Calls Tryz.prog 60 #[.int .i64 z] w fun e w' => e = .returned (.bool (!textB z)) ∧ w' = w := by
  go_enter Tryz.func60, Tryz.ntmps60
  go_wp2_with fail
  refine (implIsText z _).mono ?_
  rintro e w1 ⟨rfl, rfl⟩
  go_wp2_with fail
  go_ret
  exact ⟨rfl, rfl⟩

set_option maxHeartbeats 2000000 in
theorem implIndexFunc (zs : List Int) (n : Nat) (hn : zs.length = n) (q : Int → Bool) (g : Nat) (eg : ∀ args w, (callFunc g args).run Tryz.prog w = .ok (.enter g args) w) (hq : ∀ x W, Calls Tryz.prog g #[.int .i64 x] W fun e W' => e = .returned (.bool (q x)) ∧ W' = W)
    (a : Option Addr) (ca : Nat) (w : World) (ha : Ints w a zs) (hl : n ≤ 17592186044416) :
    Calls Tryz.prog 89 #[.slice a n ca, .func (.func g) #[] #[]] w fun e w' => (∃ m : Int, e = .returned (.int .i64 m) ∧ decide (0 ≤ m) = zs.any q) ∧ w' = w := by
  have I1 : Hid (Ints w a zs) := ha
  have Hlen : Hid (zs.length = n) := hn
  have Hq : Hid (∀ x W, Calls Tryz.prog g #[.int .i64 x] W fun e W' => e = .returned (.bool (q x)) ∧ W' = W) := hq
  clear ha hn hq
  go_enter Tryz.func89, Tryz.ntmps89
  go_wp2_with fail
  go_loopw [5, 8] (fun _ i wr => ∃ k : Nat, k ≤ n ∧ i = .int .i64 k ∧ wr = w ∧ Hid (zs.any q = (zs.drop k).any q)) (fun _ i _ => n - (intOf i).toNat)
  case atStart => exact ⟨0, Nat.zero_le _, rfl, rfl, rfl⟩
  case round =>
    obtain ⟨k, hk, rfl, rfl, Hk⟩ := hrel
    by_cases hlt : k < n
    · obtain ⟨b, o, rfl, hb, hc⟩ := I1.out.cell (Below.refl _ _) (by rw [Hlen.out]; exact hlt)
      have hst : (zs.drop k).any q = (q (zs.getD k 0) || (zs.drop (k + 1)).any q) := by
        rw [List.drop_eq_getElem_cons (by rw [Hlen.out]; exact hlt), List.any_cons]
        simp [Hlen.out, hlt]
      generalize hz : zs.getD k 0 = z at *
      clear hz
      have Hst : Hid (zs.any q = (q z || (zs.drop (k + 1)).any q)) := Hk.out.trans hst
      clear hst Hk
      have g1 : (k : Int) < (n : Int) := by omega
      have Hf := fun W => Hq.out z W
      cases hf : q z
      · rw [hf] at Hf
        have Hnx : Hid (zs.any q = (zs.drop (k + 1)).any q) := by
          show _ = _
          rw [Hst.out, hf]
          rfl
        clear hf Hst
        go_wp2_with (go_at_fn g; refine (Hf _).mono ?_; rintro e w' ⟨rfl, rfl⟩)
        go_roundw
        case rel => exact ⟨k + 1, by omega, by go_num, trivial, Hnx⟩
        case measure => simp [intOf]; omega
      · rw [hf] at Hf
        have Hv : Hid (zs.any q = true) := by
          show _ = _
          rw [Hst.out, hf]
          rfl
        clear hf Hst
        go_wp2_with (go_at_fn g; refine (Hf _).mono ?_; rintro e w' ⟨rfl, rfl⟩)
        go_ret
        exact ⟨⟨k, rfl, by rw [Hv.out]; exact decide_eq_true (Int.natCast_nonneg _)⟩, rfl⟩
    · have Hv : Hid (zs.any q = false) := by
        show _ = _
        rw [Hk.out, List.drop_eq_nil_of_le (by have := Hlen.out; omega)]
        rfl
      have g1 : ¬ (k : Int) < (n : Int) := by omega
      clear Hk
      go_wp2_with fail
      go_ret
      exact ⟨⟨-1, rfl, by rw [Hv.out]; rfl⟩, rfl⟩

set_option maxHeartbeats 1000000 in
theorem implContainsFunc (zs : List Int) (n : Nat) (hn : zs.length = n) (q : Int → Bool) (g : Nat) (eg : ∀ args w, (callFunc g args).run Tryz.prog w = .ok (.enter g args) w) (hq : ∀ x W, Calls Tryz.prog g #[.int .i64 x] W fun e W' => e = .returned (.bool (q x)) ∧ W' = W)
    (a : Option Addr) (ca : Nat) (w : World) (ha : Ints w a zs) (hl : n ≤ 17592186044416) :
    Calls Tryz.prog 58 #[.slice a n ca, .func (.func g) #[] #[]] w fun e w' => e = .returned (.bool (zs.any q)) ∧ w' = w := by
  have H := implIndexFunc zs n hn q g eg hq a ca w ha hl
  clear ha hq eg
  go_enter Tryz.func58, Tryz.ntmps58
  go_wp2_with fail
  refine H.mono ?_
  rintro e w1 ⟨⟨m, rfl, hm⟩, rfl⟩
  have Hm : Hid (decide (0 ≤ m) = zs.any q) := hm
  clear H hm
  go_wp2_with fail
  go_ret
  exact ⟨ret_bool Hm.out, rfl⟩

theorem any_not_text (zs : List Int) : (!(zs.any fun z => !textB z)) = zs.all textB := by
  rw [List.not_any_eq_all_not]
  congr 1
  funext z
  exact Bool.not_not _

set_option maxHeartbeats 2000000 in
theorem implTextOk (s : ByteArray) (w : World) (hs : s.size ≤ 17592186044416) (hT : Lib.Utf8Tabs 1 2 w) :
    Calls Tryz.prog 26 #[.string s] w fun e w' => e = .returned (.bool (stTextB s)) ∧ Below w.heap.size w w' := by
  have Hn : Hid (stTextB s = ((!((signsL s).any fun z => !textB z)) && cleanB s)) := by
    show _ = _
    rw [any_not_text]
    rfl
  have HT : Hid (Lib.Utf8Tabs 1 2 w) := hT
  clear hT
  have hl := signsL_length s
  have Hc := fun W h => implCleanOk s W hs h
  cases hcb : cleanB s
  · have Hno : Hid (stTextB s = false) := by show _ = _; rw [Hn.out, hcb, Bool.and_false]
    rw [hcb] at Hc
    clear hcb Hn
    go_enter Tryz.func26, Tryz.ntmps26
    go_wp2_with fail
    refine (Hc _ HT.out).mono ?_
    rintro e w1 ⟨rfl, b1⟩
    go_wp2_with fail
    go_ret
    exact ⟨ret_bool Hno.out.symm, b1⟩
  · have Hy : Hid (stTextB s = !((signsL s).any fun z => !textB z)) := by show _ = _; rw [Hn.out, hcb, Bool.and_true]
    rw [hcb] at Hc
    clear hcb Hn
    go_enter Tryz.func26, Tryz.ntmps26
    go_wp2_with fail
    refine (Hc _ HT.out).mono ?_
    rintro e w1 ⟨rfl, b1⟩
    have HT1 : Hid (Lib.Utf8Tabs 1 2 w1) := Utf8Tabs_below HT.out b1
    clear Hc
    go_wp2_with fail
    refine (implSigns s _ hs HT1.out).mono ?_
    rintro e w2 ⟨a, cap, rfl, o1, b2⟩
    have I1 := implContainsFunc (signsL s) (signsL s).length rfl (fun z => !textB z) 60 (enters_of Tryz.func60 (by kernel_rfl) rfl) implIsNoText a cap w2 o1.ints (by omega)
    clear o1
    generalize (signsL s).length = n at *
    generalize ((signsL s).any fun z => !textB z) = v at *
    go_wp2_with fail
    refine I1.mono ?_
    rintro e w3 ⟨rfl, rfl⟩
    clear I1
    go_wp2_with fail
    go_ret
    exact ⟨ret_bool Hy.out.symm, b1.trans (b2.mono b1.size)⟩

end Go.Proofs.YthikgkhnhbaccaaGreatDoor.Sg
