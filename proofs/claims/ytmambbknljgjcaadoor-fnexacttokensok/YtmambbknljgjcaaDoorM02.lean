/- Contracts of the program's carried, partNameOk, isLetterAt, tagNameOk, noteOk, kindOk. Contract of the program's attrsOk. Contracts of the program's wordOk and rawOk. Contract of the program's TokensOk. -/
import Derived.Test.YtmambbknljgjcaaDoorM01
import Derived.Test.YtmambbknljgjcaaDoorM05
import Derived.Test.YtmambbknljgjcaaDoorM06
import Derived.Test.YtmambbknljgjcaaDoorGMaxLen
import Derived.Test.YtmambbknljgjcaaDoorM07
import Derived.Test.YtmambbknljgjcaaDoorM08
import Derived.Test.YtmambbknljgjcaaDoorTkImplCQ
import Derived.Deep.Cut
namespace Go.Proofs.YtmambbknljgjcaaDoor.Sg
open Go.ChangeShapes Go.WideShapes Go.ChangeAt Go.RowKit

/-- What the library's own variables hold. -/
def Lib2 (w : World) : Prop := Lib.Utf8Tabs 1 2 w ∧ MaxLen w
theorem Lib2.below {w w' : World} (h : Lib2 w) (hb : Below w.heap.size w w') : Lib2 w' := ⟨Utf8Tabs_below h.1 hb, h.2.below hb⟩

theorem find_contains (b : UInt8) : ∀ l : List UInt8, (findL b l).isNone = !(l.contains b)
  | [] => rfl
  | x :: l => by
    rw [findL]
    by_cases h : x = b
    · subst h
      simp
    · have h2 : (b == x) = false := by simp [Ne.symm h]
      rw [if_neg h, Option.isNone_map, find_contains b l, List.contains_cons, h2, Bool.false_or]
theorem findE_none (s : ByteArray) (k : Nat) (b : UInt8) : (findE s k b).isNone = !((tailL s k).contains b) := by
  unfold findE
  rw [Option.isNone_map, find_contains]

theorem implContains1 (s : ByteArray) (b : UInt8) (w : World) :
    Calls Tryd.prog 63 #[.string s, .string ⟨#[b]⟩] w fun e w' => e = .returned (.bool (!(findE s 0 b).isNone)) ∧ w' = w := by
  have h := Tryd.strings_Contains_one s b w
  rw [indexByte_one] at h
  have e : (!(findE s 0 b).isNone) = s.data.toList.contains b := by
    rw [findE_none, Bool.not_not]
    unfold tailL
    rw [List.drop_zero]
  rw [e]
  exact h

set_option maxHeartbeats 1000000 in
theorem implCarried (s : ByteArray) (w : World) (hs : s.size ≤ 17592186044416) (hT : Lib2 w) :
    Calls Tryd.prog 46 #[.string s] w fun e w' => e = .returned (.bool (lineB s)) ∧ Below w.heap.size w w' := by
  have Hc := implCleanOk s w hs hT.1
  have Hf := fun W => implContains1 s 13 W
  have Hn : Hid (lineB s = (cleanB s && (findE s 0 13).isNone)) := rfl
  clear hT
  generalize (findE s 0 13).isNone = fb at *
  cases hc : cleanB s
  · rw [hc] at Hc Hn
    go_enter Tryd.func46, Tryd.ntmps46
    go_wp2_with fail
    refine Hc.mono ?_
    rintro e w1 ⟨rfl, b1⟩
    clear Hc Hf
    go_wp2_with fail
    go_ret
    exact ⟨ret_b (by rw [Hn.out]; rfl), b1⟩
  · rw [hc, Bool.true_and] at Hn
    rw [hc] at Hc
    go_enter Tryd.func46, Tryd.ntmps46
    go_wp2_with fail
    refine Hc.mono ?_
    rintro e w1 ⟨rfl, b1⟩
    go_wp2_with fail
    refine (Hf _).mono ?_
    rintro e w2 ⟨rfl, rfl⟩
    clear Hc Hf
    go_wp2_with fail
    go_ret
    exact ⟨ret_b (by rw [Hn.out]), b1⟩

set_option maxHeartbeats 1000000 in
theorem implPartName (s : ByteArray) (w : World) (hs : s.size ≤ 4294967280) (hT : Lib2 w) :
    Calls Tryd.prog 65 #[.string s] w fun e w' => e = .returned (.bool (partB s)) ∧ Below w.heap.size w w' := by
  have Hc := implCleanOk s w (by omega) hT.1
  have Hm := fun W => implSmall s W (by omega)
  have Ha := fun W => implContainsAny s W hs
  have Hn : Hid (partB s = (cleanB s && ((smallS s).toList == s.toList && s.data.toList.all tagU))) := rfl
  clear hT
  generalize s.data.toList.all tagU = tb at *
  generalize smallS s = S at *
  cases hc : cleanB s
  · rw [hc] at Hc Hn
    go_enter Tryd.func65, Tryd.ntmps65
    go_wp2_with fail
    refine Hc.mono ?_
    rintro e w1 ⟨rfl, b1⟩
    clear Hc Hm Ha
    go_wp2_with fail
    go_ret
    exact ⟨ret_b (by rw [Hn.out]; rfl), b1⟩
  · rw [hc, Bool.true_and] at Hn
    rw [hc] at Hc
    cases hm : S.toList == s.toList
    · rw [hm] at Hn
      go_enter Tryd.func65, Tryd.ntmps65
      go_wp2_with fail
      refine Hc.mono ?_
      rintro e w1 ⟨rfl, b1⟩
      go_wp2_with fail
      refine (Hm _).mono ?_
      rintro e w2 ⟨rfl, b2⟩
      clear Hc Hm Ha
      go_wp2_with fail
      go_ret
      exact ⟨ret_b (by rw [Hn.out]; rfl), below_chain b1 b2⟩
    · rw [hm, Bool.true_and] at Hn
      go_enter Tryd.func65, Tryd.ntmps65
      go_wp2_with fail
      refine Hc.mono ?_
      rintro e w1 ⟨rfl, b1⟩
      go_wp2_with fail
      refine (Hm _).mono ?_
      rintro e w2 ⟨rfl, b2⟩
      go_wp2_with fail
      refine (Ha _).mono ?_
      rintro e w3 ⟨rfl, b3⟩
      clear Hc Hm Ha
      go_wp2_with fail
      go_ret
      exact ⟨ret_b (by rw [Hn.out]), below_chain (below_chain b1 b2) b3⟩

set_option maxHeartbeats 1000000 in
theorem implLetterAt (s : ByteArray) (w : World) :
    Calls Tryd.prog 64 #[.string s, .int .i64 0] w fun e w' => e = .returned (.bool (letter0 s)) ∧ Below w.heap.size w w' := by
  by_cases h : 0 < s.size
  · rw [letter0_get h]
    have Hl := fun W => implIsLetter (((s[0]'h).toNat : Nat) : Int) W
    have hwr : wrap64 (((s[0]'h).toNat : Nat) : Int) = (((s[0]'h).toNat : Nat) : Int) := wrap_byte _
    have h' : (0 : Int) < (s.size : Int) := by omega
    go_enter Tryd.func64, Tryd.ntmps64
    go_wp2_with fail
    refine (Hl _).mono ?_
    rintro e w1 ⟨rfl, b1⟩
    clear Hl
    go_wp2_with fail
    go_ret
    exact ⟨rfl, b1⟩
  · have e : letter0 s = false := by unfold letter0; rw [decide_eq_false h]; rfl
    rw [e]
    have h' : decide ((0 : Int) < (s.size : Int)) = false := decide_eq_false (by omega)
    go_enter Tryd.func64, Tryd.ntmps64
    go_wp2_with fail
    go_ret
    exact ⟨rfl, Below.refl _ _⟩

theorem tagB_eq (s : ByteArray) : tagB s = (letter0 s && partB s) := by
  unfold tagB nameOkB
  cases h : letter0 s
  · simp
  · have : emptyB s = false := by
      rw [empty_size]
      unfold letter0 at h
      rw [Bool.and_eq_true, decide_eq_true_eq] at h
      exact decide_eq_false (by omega)
    rw [this]
    simp

set_option maxHeartbeats 1000000 in
theorem implTagName (s : ByteArray) (w : World) (hs : s.size ≤ 4294967280) (hT : Lib2 w) :
    Calls Tryd.prog 47 #[.string s] w fun e w' => e = .returned (.bool (tagB s)) ∧ Below w.heap.size w w' := by
  have HL := implLetterAt s w
  have HP := fun W (h : Lib2 W) => implPartName s W hs h
  rw [tagB_eq]
  cases h : letter0 s
  · rw [h] at HL
    clear HP
    go_enter Tryd.func47, Tryd.ntmps47
    go_wp2_with fail
    refine HL.mono ?_
    rintro e w1 ⟨rfl, b1⟩
    clear HL
    go_wp2_with fail
    go_ret
    exact ⟨rfl, b1⟩
  · rw [h] at HL
    have HT : Hid (Lib2 w) := hT
    clear hT
    go_enter Tryd.func47, Tryd.ntmps47
    go_wp2_with fail
    refine HL.mono ?_
    rintro e w1 ⟨rfl, b1⟩
    go_wp2_with fail
    refine (HP _ (HT.out.below b1)).mono ?_
    rintro e w2 ⟨rfl, b2⟩
    clear HL HP
    go_wp2_with fail
    go_ret
    exact ⟨ret_b (by simp), below_chain b1 b2⟩

/-- The library's search and the model's. -/
theorem stands_prefix (s : ByteArray) (k : Nat) (t : ByteArray) (hk : k ≤ s.size) : standsB s k t = t.data.toList.isPrefixOf (tailL s k) := by
  unfold standsB
  have hl : (tailL s k).length = s.size - k := by unfold tailL; rw [List.length_drop, bytes_len]
  have e : (s.extract k (k + t.size)).toList = (tailL s k).take t.size := by
    rw [ByteArray.toList_eq, ByteArray.data_extract]
    unfold tailL
    simp [List.extract_eq_take_drop]
  rw [e, ByteArray.toList_eq]
  by_cases h : k + t.size ≤ s.size
  · rw [decide_eq_true h, Bool.true_and]
    apply Bool.eq_iff_iff.2
    rw [beq_iff_eq, List.isPrefixOf_iff_prefix]
    constructor
    · intro hh
      rw [← hh]
      exact List.take_prefix _ _
    · intro hh
      obtain ⟨r, hr⟩ := hh
      rw [← hr, ← bytes_len t, List.take_left']
      rfl
  · rw [decide_eq_false h, Bool.false_and]
    symm
    apply Bool.eq_false_iff.2
    intro hh
    have := (List.isPrefixOf_iff_prefix.1 hh).length_le
    rw [bytes_len, hl] at this
    omega
theorem search_index (s t : ByteArray) (ht : 0 < t.size) : ∀ (d k : Nat), s.size - k ≤ d → k ≤ s.size → decide (0 ≤ Lib.index (tailL s k) t.data.toList) = !(searchE s k t).isNone := by
  have htl : t.data.toList ≠ [] := fun h => by
    have := bytes_len t
    rw [h] at this
    simp at this
    omega
  have hend : ∀ k, ¬ k < s.size → k ≤ s.size → decide (0 ≤ Lib.index (tailL s k) t.data.toList) = !(searchE s k t).isNone := fun k h hk => by
    have e : tailL s k = [] := tailL_end s k h
    rw [e, searchE_end (by omega)]
    have : t.data.toList.isEmpty = false := by
      cases hh : t.data.toList with
      | nil => exact absurd hh htl
      | cons _ _ => rfl
    rw [Lib.index, this]
    rfl
  intro d
  induction d with
  | zero => exact fun k h1 h2 => hend k (by omega) h2
  | succ d ih =>
    intro k h1 h2
    by_cases hk : k < s.size
    · have hst := stands_prefix s k t h2
      rw [tailL_step s k hk] at hst ⊢
      cases hs : standsB s k t
      · rw [hs] at hst
        have hg := Lib.index_ge (tailL s (k + 1)) t.data.toList
        have ih' := ih (k + 1) (by omega) (by omega)
        have e2 : searchE s k t = searchE s (k + 1) t := by
          by_cases hf : k + t.size ≤ s.size
          · exact searchE_no hf hs
          · rw [searchE_end hf, searchE_end (by omega)]
        rw [Lib.index, ← hst, e2, ← ih']
        generalize Lib.index (tailL s (k + 1)) t.data.toList = z at *
        by_cases hz : z = -1
        · subst hz
          rfl
        · have hz2 : (z == -1) = false := by simp [hz]
          simp only [Bool.false_eq_true, if_false, hz2]
          rw [decide_eq_true (show (0 : Int) ≤ z + 1 by omega), decide_eq_true (show (0 : Int) ≤ z by omega)]
      · rw [hs] at hst
        rw [Lib.index, ← hst, searchE_yes hs]
        rfl
    · exact hend k hk h2
theorem contains_search (s t : ByteArray) (ht : 0 < t.size) : Lib.contains s.data.toList t.data.toList = !(searchE s 0 t).isNone := by
  have h := search_index s t ht s.size 0 (by omega) (Nat.zero_le _)
  unfold tailL at h
  rw [List.drop_zero] at h
  exact h
theorem prefix_stands (s t : ByteArray) : Lib.hasPrefix s.data.toList t.data.toList = standsB s 0 t := by
  rw [stands_prefix s 0 t (Nat.zero_le _)]
  unfold tailL
  rw [List.drop_zero]
  rfl

set_option maxHeartbeats 1000000 in
theorem implNoteOk (s : ByteArray) (w : World) (hs : s.size ≤ 4294967280) (hM : MaxLen w) :
    Calls Tryd.prog 49 #[.string s] w fun e w' => e = .returned (.bool (noteB s)) ∧ w' = w := by
  obtain ⟨m, hm⟩ := hM
  have Hc := Tryd.strings_Contains s ⟨#[45, 45, 62]⟩ m w (by omega) hm
  have H1 := Tryd.strings_HasPrefix s ⟨#[62]⟩ w
  have H2 := Tryd.strings_HasPrefix s ⟨#[45, 62]⟩ w
  rw [contains_search s _ (by decide)] at Hc
  rw [prefix_stands] at H1 H2
  have Hn : Hid (noteB s = ((searchE s 0 ⟨#[45, 45, 62]⟩).isNone && (!standsB s 0 ⟨#[62]⟩ && !standsB s 0 ⟨#[45, 62]⟩))) := rfl
  generalize (searchE s 0 ⟨#[45, 45, 62]⟩).isNone = sb at *
  generalize standsB s 0 ⟨#[62]⟩ = s1 at *
  generalize standsB s 0 ⟨#[45, 62]⟩ = s2 at *
  clear hm
  cases sb
  · go_enter Tryd.func49, Tryd.ntmps49
    go_wp2_with fail
    refine Hc.mono ?_
    rintro e w1 ⟨rfl, rfl⟩
    clear Hc H1 H2
    go_wp2_with fail
    go_ret
    exact ⟨ret_b (by rw [Hn.out]; rfl), rfl⟩
  · cases s1
    · go_enter Tryd.func49, Tryd.ntmps49
      go_wp2_with fail
      refine Hc.mono ?_
      rintro e w1 ⟨rfl, rfl⟩
      go_wp2_with fail
      refine H1.mono ?_
      rintro e w2 ⟨rfl, rfl⟩
      go_wp2_with fail
      refine H2.mono ?_
      rintro e w3 ⟨rfl, rfl⟩
      clear Hc H1 H2
      go_wp2_with fail
      go_ret
      exact ⟨ret_b (by rw [Hn.out]; rfl), rfl⟩
    · go_enter Tryd.func49, Tryd.ntmps49
      go_wp2_with fail
      refine Hc.mono ?_
      rintro e w1 ⟨rfl, rfl⟩
      go_wp2_with fail
      refine H1.mono ?_
      rintro e w2 ⟨rfl, rfl⟩
      clear Hc H1 H2
      go_wp2_with fail
      go_ret
      exact ⟨ret_b (by rw [Hn.out]; rfl), rfl⟩

set_option maxHeartbeats 1000000 in
theorem implKindOk (s : ByteArray) (w : World) (hs : s.size ≤ 4294967280) :
    Calls Tryd.prog 50 #[.string s] w fun e w' => e = .returned (.bool (kindB s)) ∧ Below w.heap.size w w' := by
  have Hm := implSmall s w (by omega)
  have Hp := fun W => implPast s 0 ⟨#[9, 10, 12, 13, 32]⟩ W (by omega)
  rw [one_blank] at Hp
  have Hf := fun W => implContains1 s 62 W
  have Hn : Hid (kindB s = ((smallS s).toList == s.toList && ((findE s 0 62).isNone && decide (runE blankU s 0 = 0)))) := rfl
  generalize (findE s 0 62).isNone = fb at *
  generalize runE blankU s 0 = rr at *
  generalize smallS s = S at *
  have hrr : decide (rr = 0) = ((rr : Int) == 0) := by
    by_cases h : rr = 0
    · subst h; rfl
    · have : ((rr : Int) == 0) = false := by simp [h]
      rw [this, decide_eq_false h]
  rw [hrr] at Hn
  clear hrr
  cases hm : S.toList == s.toList
  · rw [hm] at Hn
    go_enter Tryd.func50, Tryd.ntmps50
    go_wp2_with fail
    refine Hm.mono ?_
    rintro e w1 ⟨rfl, b1⟩
    clear Hm Hp Hf
    go_wp2_with fail
    go_ret
    exact ⟨ret_b (by rw [Hn.out]; rfl), b1⟩
  · rw [hm, Bool.true_and] at Hn
    cases hr : ((rr : Int) == 0)
    · rw [hr, Bool.and_false] at Hn
      go_enter Tryd.func50, Tryd.ntmps50
      go_wp2_with fail
      refine Hm.mono ?_
      rintro e w1 ⟨rfl, b1⟩
      go_wp2_with fail
      refine (Hp _).mono ?_
      rintro e w2 ⟨rfl, rfl⟩
      clear Hm Hp Hf
      go_wp2_with fail
      go_ret
      exact ⟨ret_b (by rw [Hn.out]), b1⟩
    · rw [hr, Bool.and_true] at Hn
      go_enter Tryd.func50, Tryd.ntmps50
      go_wp2_with fail
      refine Hm.mono ?_
      rintro e w1 ⟨rfl, b1⟩
      go_wp2_with fail
      refine (Hp _).mono ?_
      rintro e w2 ⟨rfl, rfl⟩
      go_wp2_with fail
      refine (Hf _).mono ?_
      rintro e w3 ⟨rfl, rfl⟩
      clear Hm Hp Hf
      go_wp2_with fail
      go_ret
      exact ⟨ret_b (by rw [Hn.out]), b1⟩

end Go.Proofs.YtmambbknljgjcaaDoor.Sg

namespace Go.Proofs.YtmambbknljgjcaaDoor.Sg
open Go.ChangeShapes Go.WideShapes Go.ChangeAt Go.RowKit

theorem find_cut (x : ByteArray) (b : UInt8) : (findE (x.extract 1 x.size) 0 b).isNone = (findE x 1 b).isNone := by
  rw [findE_none, findE_none]
  congr 1
  unfold tailL
  rw [List.drop_zero, ByteArray.data_extract]
  have : x.data.toList.length = x.size := bytes_len x
  simp [List.extract_eq_take_drop]
  rw [List.take_of_length_le (by rw [List.length_tail, this]; exact Nat.le_refl _)]
theorem attrs_find {l : List AttrB} {x : ByteArray} (hx : x.toList ≠ []) (w : World) : ∃ y z, findA l x = (y, z) ∧ (Op.equalIn 10000 59 (.agg #[.string y, .string z]) (.agg #[.string ⟨#[]⟩, .string ⟨#[]⟩])).run Tryd.prog w = .ok (!hasA l x) w := by
  cases h : hasA l x
  · refine ⟨⟨#[]⟩, ⟨#[]⟩, findA_none l x h, eq_zero_yes w⟩
  · refine ⟨(findA l x).1, (findA l x).2, rfl, eq_zero_no _ _ (by rw [findA_some l x h]; exact hx) w⟩

set_option maxRecDepth 20000 in
set_option maxHeartbeats 8000000 in
theorem implAttrsOk (l : List AttrB) (a : Option Addr) (n cap : Nat) (w : World) (ha : AttrsAt w a l) (hl : l.length = n) (hcap : n ≤ cap) (hw : attrsW l ≤ 1048576) (hT : Lib2 w) :
    Calls Tryd.prog 48 #[.slice a n cap] w fun e w' => e = .returned (.bool (attrsB l)) ∧ Below w.heap.size w w' := by
  have HA : Hid (AttrsAt w a l) := ha
  have Hl : Hid (l.length = n) := hl
  have HT : Hid (Lib2 w) := hT
  have hn : n ≤ 1048576 := by unfold attrsW at hw; omega
  have HW : Hid (∀ p ∈ l, p.1.size + p.2.size ≤ 1048576) := fun p hp => Nat.le_trans (attrW_le hp) hw
  have HR : Hid (attrsB l = attrsOkB l l.length 0) := rfl
  have e0 : (⟨#[]⟩ : ByteArray).toList = [] := ByteArray.toList_mk _
  generalize attrsB l = R at *
  clear ha hl hw hT
  go_enter Tryd.func48, Tryd.ntmps48
  go_wp2
  go_loopw [7] (fun i wr => ∃ k f : Nat, k ≤ n ∧ i = .int .i64 k ∧ Hid (l.length ≤ k + f) ∧ Hid (R = attrsOkB l f k) ∧ Below w.heap.size w wr) (fun i _ => n - (intOf i).toNat)
  case atStart => exact ⟨0, l.length, Nat.zero_le _, rfl, Nat.le_of_eq (Nat.zero_add _).symm, HR, Below.refl _ _⟩
  case round =>
    clear HR
    obtain ⟨k, f, hk, rfl, Hf, HR, hbel⟩ := hrel
    by_cases hlt : k < n
    · have hkl : k < l.length := by rw [Hl.out]; exact hlt
      have HAr : Hid (AttrsAt wr a l) := HA.out.below hbel
      obtain ⟨b, rfl, c0, c1⟩ := HAr.out.get k hkl
      have hp := HW.out _ (List.getElem_mem hkl)
      obtain ⟨g, rfl, hst⟩ := attrsOkB_step l f k hkl Hf.out
      generalize l[k]'hkl = p at *
      clear hkl
      obtain ⟨x, v⟩ := p
      simp only at c0 c1 hp
      have Hok : Hid (attrOkB l k (x, v) = ((!emptyB x && partB x) && ((findE x 1 61).isNone && (lineB v && !hasA (l.take k) x)))) := rfl
      generalize attrOkB l k (x, v) = okb at *
      rw [Hok.out] at hst
      clear Hok
      have EB : emptyB x = (x.toList == []) := rfl
      have k0 : (0 : Int) ≤ (k : Int) := by omega
      have k1 : (k : Int) < (n : Int) := by omega
      have k2 : (k : Int) ≤ (cap : Int) := by omega
      have bx : Below wr.heap.size wr (wr.alloc (.cells #[.string x, .string v] 59)) := (Below.refl _ _).alloc (Nat.le_refl _) _
      have hx0 : (wr.alloc (.cells #[.string x, .string v] 59)).cell? ⟨wr.heap.size, 0, none⟩ = some (.string x) := by simp
      have hx1 : (wr.alloc (.cells #[.string x, .string v] 59)).cell? ⟨wr.heap.size, 1, none⟩ = some (.string v) := by simp
      have HTx := HT.out.below (hbel.trans (bx.mono hbel.size))
      have HB : Hid (∀ wx : World, Below (wr.alloc (.cells #[.string x, .string v] 59)).heap.size (wr.alloc (.cells #[.string x, .string v] 59)) wx → Below w.heap.size w wx) := fun wx h => hbel.trans ((below_chain bx h).mono hbel.size)
      have HP := implPartName x (wr.alloc (.cells #[.string x, .string v] 59)) (by omega) HTx
      cases hE : x.toList == []
      · rw [EB, hE] at hst
        cases hP : partB x
        · rw [hP] at HP hst
          have Hno : Hid (R = false) := by show _ = _; rw [HR.out, hst]; rfl
          clear HR hst
          go_wp2_with fail
          refine HP.mono ?_
          rintro e w1 ⟨rfl, b1⟩
          have bf := HB.out _ b1
          clear HP b1
          go_wp2_with fail
          go_ret
          exact ⟨ret_b Hno.out.symm, bf⟩
        · rw [hP] at HP hst
          have hxs : 1 ≤ x.size := by
            rcases Nat.eq_zero_or_pos x.size with h0 | h0
            · have h := empty_size (s := x)
              rw [EB, hE, decide_eq_true h0] at h
              cases h
            · exact h0
          have hxs' : (1 : Int) ≤ (x.size : Int) := by omega
          have HF := fun W => implContains1 (x.extract 1 x.size) 61 W
          rw [find_cut] at HF
          cases hF : (findE x 1 61).isNone
          · rw [hF] at HF hst
            have Hno : Hid (R = false) := by show _ = _; rw [HR.out, hst]; rfl
            clear HR hst
            go_wp2_with fail
            refine HP.mono ?_
            rintro e w1 ⟨rfl, b1⟩
            have bf := HB.out _ b1
            have y0 := keep_cell b1 hx0
            clear HP b1
            go_wp2_with fail
            refine (HF _).mono ?_
            rintro e w2 ⟨rfl, rfl⟩
            go_wp2_with fail
            go_ret
            exact ⟨ret_b Hno.out.symm, bf⟩
          · rw [hF] at HF hst
            have hxl : x.toList ≠ [] := fun h => by rw [h] at hE; cases hE
            have HC : ∀ W, Below (wr.alloc (.cells #[.string x, .string v] 59)).heap.size (wr.alloc (.cells #[.string x, .string v] 59)) W → Calls Tryd.prog 46 #[.string v] W fun e w' => e = .returned (.bool (lineB v)) ∧ Below W.heap.size W w' := fun W h => implCarried v W (by omega) (HTx.below h)
            obtain ⟨y, z, hyz, _⟩ := attrs_find (l := l.take k) hxl w
            have heq : ∀ W : World, (Op.equalIn 10000 59 (.agg #[.string y, .string z]) (.agg #[.string ⟨#[]⟩, .string ⟨#[]⟩])).run Tryd.prog W = .ok (!hasA (l.take k) x) W := fun W => by
              obtain ⟨y', z', h1, h2⟩ := attrs_find (l := l.take k) hxl W
              rw [hyz] at h1
              cases h1
              exact h2
            have HNm : ∀ W, Below (wr.alloc (.cells #[.string x, .string v] 59)).heap.size (wr.alloc (.cells #[.string x, .string v] 59)) W → Calls Tryd.prog 66 #[.slice (some ⟨b, 0, none⟩) k cap, .string x] W fun e w' => e = .returned (.agg #[.string y, .string z]) ∧ Below W.heap.size W w' := fun W h => implAttrNamed (l.take k) x (some ⟨b, 0, none⟩) k cap W ((HAr.out.below (below_chain bx h)).take k) (by rw [List.length_take, Hl.out]; omega) (by omega) y z hyz
            generalize hasA (l.take k) x = hb at *
            clear hyz HAr
            cases hL : lineB v
            · rw [hL] at HC hst
              have Hno : Hid (R = false) := by show _ = _; rw [HR.out, hst]; rfl
              clear HR hst HNm heq
              go_wp2_with fail
              refine HP.mono ?_
              rintro e w1 ⟨rfl, b1⟩
              have y0 := keep_cell b1 hx0
              have y1 := keep_cell b1 hx1
              clear HP
              go_wp2_with fail
              refine (HF _).mono ?_
              rintro e w2 ⟨rfl, rfl⟩
              have cC := fun d os => Calls.regrown_of (w := w2) (HC (Sort.grow (redrawn w2 d) os) (below_chain b1 (below_regrown w2 d os)))
              have z0 := cell_regrown y0
              have z1 := cell_regrown y1
              go_upto_region 6 with fail
              refine wp_region_quiet_below (by kernel_rfl) (by kernel_rfl) ?_
              repeat (go_big_quiet_step (first | exact cC _ _))
              refine wpQuiet_nil ?_
              intro _ hw'
              obtain ⟨⟨dq, osq⟩, hw''⟩ := hw'
              subst hw''
              have bf := HB.out _ (below_chain b1 (below_regrown w2 dq osq))
              generalize Sort.grow (redrawn w2 dq) osq = W at *
              clear z0 z1 cC HC
              go_wp2_with fail
              go_ret
              exact ⟨ret_b Hno.out.symm, bf⟩
            · rw [hL] at HC hst
              cases hH : hb
              · rw [hH] at hst heq
                have HR2 : Hid (R = attrsOkB l g (k + 1)) := by show _ = _; rw [HR.out, hst]; rfl
                have Hf2 : Hid (l.length ≤ k + 1 + g) := by
                  have := Hf.out
                  show _ ≤ _
                  omega
                clear HR hst
                go_wp2_with fail
                refine HP.mono ?_
                rintro e w1 ⟨rfl, b1⟩
                have y0 := keep_cell b1 hx0
                have y1 := keep_cell b1 hx1
                clear HP
                go_wp2_with fail
                refine (HF _).mono ?_
                rintro e w2 ⟨rfl, rfl⟩
                have cC := fun d os => Calls.regrown_of (w := w2) (HC (Sort.grow (redrawn w2 d) os) (below_chain b1 (below_regrown w2 d os)))
                have cN := fun d os => Calls.regrown_of (w := w2) (HNm (Sort.grow (redrawn w2 d) os) (below_chain b1 (below_regrown w2 d os)))
                have z0 := cell_regrown y0
                have z1 := cell_regrown y1
                go_upto_region 6 with fail
                refine wp_region_quiet_below (by kernel_rfl) (by kernel_rfl) ?_
                repeat (go_big_quiet_step (first | exact cC _ _ | exact cN _ _))
                refine wpQuiet_nil ?_
                intro _ hw'
                obtain ⟨⟨dq, osq⟩, hw''⟩ := hw'
                subst hw''
                have bf := HB.out _ (below_chain b1 (below_regrown w2 dq osq))
                generalize Sort.grow (redrawn w2 dq) osq = W at *
                clear z0 z1 cC cN HC HNm
                go_wp2_with fail
                go_roundw
                case rel => exact ⟨k + 1, g, by omega, by go_num, Hf2, HR2, bf⟩
                case measure => simp [intOf]; omega
              · rw [hH] at hst heq
                have Hno : Hid (R = false) := by show _ = _; rw [HR.out, hst]; rfl
                clear HR hst
                go_wp2_with fail
                refine HP.mono ?_
                rintro e w1 ⟨rfl, b1⟩
                have y0 := keep_cell b1 hx0
                have y1 := keep_cell b1 hx1
                clear HP
                go_wp2_with fail
                refine (HF _).mono ?_
                rintro e w2 ⟨rfl, rfl⟩
                have cC := fun d os => Calls.regrown_of (w := w2) (HC (Sort.grow (redrawn w2 d) os) (below_chain b1 (below_regrown w2 d os)))
                have cN := fun d os => Calls.regrown_of (w := w2) (HNm (Sort.grow (redrawn w2 d) os) (below_chain b1 (below_regrown w2 d os)))
                have z0 := cell_regrown y0
                have z1 := cell_regrown y1
                go_upto_region 6 with fail
                refine wp_region_quiet_below (by kernel_rfl) (by kernel_rfl) ?_
                repeat (go_big_quiet_step (first | exact cC _ _ | exact cN _ _))
                refine wpQuiet_nil ?_
                intro _ hw'
                obtain ⟨⟨dq, osq⟩, hw''⟩ := hw'
                subst hw''
                have bf := HB.out _ (below_chain b1 (below_regrown w2 dq osq))
                generalize Sort.grow (redrawn w2 dq) osq = W at *
                clear z0 z1 cC cN HC HNm
                go_wp2_with fail
                go_ret
                exact ⟨ret_b Hno.out.symm, bf⟩
      · rw [EB, hE] at hst
        have Hno : Hid (R = false) := by show _ = _; rw [HR.out, hst]; rfl
        have bf := HB.out _ (Below.refl _ _)
        clear HR hst HP
        go_wp2_with fail
        go_ret
        exact ⟨ret_b Hno.out.symm, bf⟩
    · have hkn : k = n := by omega
      subst hkn
      have g2 : decide ((k : Int) < (k : Int)) = false := by simp
      have Hn : Hid (R = true) := by
        show _ = _
        rw [HR.out, attrsOkB_end l f k (by rw [Hl.out]; omega)]
      clear HR
      go_wp2_with fail
      go_ret
      exact ⟨ret_b Hn.out.symm, hbel⟩

end Go.Proofs.YtmambbknljgjcaaDoor.Sg

namespace Go.Proofs.YtmambbknljgjcaaDoor.Sg
open Go.ChangeShapes Go.WideShapes Go.ChangeAt Go.RowKit

def aloneB (nm : ByteArray) (at' : List AttrB) (tx : ByteArray) (sf : Bool) : Bool := emptyB nm && (decide (at'.length = 0) && (!sf && lineB tx))
theorem al_1 (nm : ByteArray) (at' : List AttrB) (tx : ByteArray) (sf : Bool) : okT (1, nm, at', tx, sf) = (aloneB nm at' tx sf && !emptyB tx) := by
  rw [ok_1]
  unfold aloneB bareWord
  simp only
  cases emptyB nm <;> cases decide (at'.length = 0) <;> cases sf <;> cases lineB tx <;> cases emptyB tx <;> rfl
theorem al_4 (nm : ByteArray) (at' : List AttrB) (tx : ByteArray) (sf : Bool) : okT (4, nm, at', tx, sf) = (aloneB nm at' tx sf && noteB tx) := by
  rw [ok_4]
  unfold aloneB bareWord
  simp only
  cases emptyB nm <;> cases decide (at'.length = 0) <;> cases sf <;> cases lineB tx <;> cases noteB tx <;> rfl
theorem al_5 (nm : ByteArray) (at' : List AttrB) (tx : ByteArray) (sf : Bool) : okT (5, nm, at', tx, sf) = (aloneB nm at' tx sf && kindB tx) := by
  rw [ok_5]
  unfold aloneB bareWord
  simp only
  cases emptyB nm <;> cases decide (at'.length = 0) <;> cases sf <;> cases lineB tx <;> cases kindB tx <;> rfl
theorem al_2 (nm : ByteArray) (at' : List AttrB) (tx : ByteArray) (sf : Bool) : okT (2, nm, at', tx, sf) = (emptyB tx && (tagB nm && attrsB at')) := rfl
theorem al_3 (nm : ByteArray) (at' : List AttrB) (tx : ByteArray) (sf : Bool) : okT (3, nm, at', tx, sf) = (emptyB tx && ((decide (at'.length = 0) && !sf) && tagB nm)) := rfl

set_option maxRecDepth 20000 in
set_option maxHeartbeats 8000000 in
theorem implWordOk (t : TokB) (sa : Option Addr) (sc : Nat) (w : World) (hA : AttrsAt w sa t.2.2.1) (hcap : t.2.2.1.length ≤ sc) (hw : tokW t ≤ 1048576) (hT : Lib2 w) :
    Calls Tryd.prog 25 #[.agg #[.int .i64 t.1, .string t.2.1, .slice sa t.2.2.1.length sc, .string t.2.2.2.1, .bool t.2.2.2.2]] w fun e w' => e = .returned (.bool (okT t)) ∧ Below w.heap.size w w' := by
  obtain ⟨R, HR⟩ : ∃ R, Hid (okT t = R) := ⟨_, rfl⟩
  rw [HR.out]
  have HEL := ok_else (t := t)
  obtain ⟨kd, nm, at', tx, sf⟩ := t
  have hnm : nm.size ≤ 1048576 := by unfold tokW at hw; simp only at hw; omega
  have htx : tx.size ≤ 1048576 := by unfold tokW at hw; simp only at hw; omega
  have haw : attrsW at' ≤ 1048576 := by unfold tokW at hw; simp only at hw; omega
  have hal : at'.length ≤ 1048576 := by unfold attrsW at haw; omega
  simp only at hA hcap HEL ⊢
  have bb : Below w.heap.size w (w.alloc (.cells #[.int .i64 kd, .string nm, .slice sa at'.length sc, .string tx, .bool sf] 36)) := (Below.refl _ _).alloc (Nat.le_refl _) _
  have hzz : (w.alloc (.cells #[.int .i64 kd, .string nm, .slice sa at'.length sc, .string tx, .bool sf] 36)).heap.size = w.heap.size + 1 := by simp
  have keep : Hid (∀ W, Below (w.alloc (.cells #[.int .i64 kd, .string nm, .slice sa at'.length sc, .string tx, .bool sf] 36)).heap.size (w.alloc (.cells #[.int .i64 kd, .string nm, .slice sa at'.length sc, .string tx, .bool sf] 36)) W → Below w.heap.size w W ∧ W.cell? ⟨w.heap.size, 0, none⟩ = some (.int .i64 kd) ∧ W.cell? ⟨w.heap.size, 1, none⟩ = some (.string nm) ∧ W.cell? ⟨w.heap.size, 2, none⟩ = some (.slice sa at'.length sc) ∧ W.cell? ⟨w.heap.size, 3, none⟩ = some (.string tx) ∧ W.cell? ⟨w.heap.size, 4, none⟩ = some (.bool sf)) := fun W h => by
    refine ⟨bb.trans (h.mono bb.size), ?_, ?_, ?_, ?_, ?_⟩ <;> exact (h.cell (by rw [hzz]; exact Nat.lt_succ_self _)).trans (by simp)
  have HT : Hid (Lib2 w) := hT
  have HCa := implCarried tx (w.alloc (.cells #[.int .i64 kd, .string nm, .slice sa at'.length sc, .string tx, .bool sf] 36)) (by omega) (hT.below bb)
  have HTg : ∀ W, Below w.heap.size w W → Calls Tryd.prog 47 #[.string nm] W fun e w' => e = .returned (.bool (tagB nm)) ∧ Below W.heap.size W w' := fun W h => implTagName nm W (by omega) (HT.out.below h)
  have HAt : ∀ W, Below w.heap.size w W → Calls Tryd.prog 48 #[.slice sa at'.length sc] W fun e w' => e = .returned (.bool (attrsB at')) ∧ Below W.heap.size W w' := fun W h => implAttrsOk at' sa at'.length sc W (hA.below h) rfl hcap haw (HT.out.below h)
  have HNo : ∀ W, Below w.heap.size w W → Calls Tryd.prog 49 #[.string tx] W fun e w' => e = .returned (.bool (noteB tx)) ∧ Below W.heap.size W w' := fun W h => Calls.below (implNoteOk tx W (by omega) (HT.out.below h).2)
  have HKi := fun W => implKindOk tx W (by omega)
  have e0 : (⟨#[]⟩ : ByteArray).toList = [] := ByteArray.toList_mk _
  have En : Hid (emptyB nm = (nm.toList == [])) := rfl
  have Et : Hid (emptyB tx = (tx.toList == [])) := rfl
  have AL : Hid (aloneB nm at' tx sf = ((nm.toList == []) && (decide (at'.length = 0) && (!sf && lineB tx)))) := rfl
  have A1 : Hid (kd = 1 → R = (aloneB nm at' tx sf && !(tx.toList == []))) := fun h => by subst h; rw [← HR.out, al_1]; rfl
  have A2 : Hid (kd = 2 → R = ((tx.toList == []) && (tagB nm && attrsB at'))) := fun h => by subst h; rw [← HR.out, al_2]; rfl
  have A3 : Hid (kd = 3 → R = ((tx.toList == []) && ((decide (at'.length = 0) && !sf) && tagB nm))) := fun h => by subst h; rw [← HR.out, al_3]; rfl
  have A4 : Hid (kd = 4 → R = (aloneB nm at' tx sf && noteB tx)) := fun h => by subst h; rw [← HR.out, al_4]
  have A5 : Hid (kd = 5 → R = (aloneB nm at' tx sf && kindB tx)) := fun h => by subst h; rw [← HR.out, al_5]
  have A6 : Hid (kd ≠ 1 → kd ≠ 2 → kd ≠ 3 → kd ≠ 4 → kd ≠ 5 → R = false) := fun h1 h2 h3 h4 h5 => HR.out.symm.trans (HEL h1 h2 h3 h4 h5)
  have glen : Hid (decide (at'.length = 0) = ((at'.length : Int) == 0)) := by
    show _ = _
    by_cases h : at'.length = 0
    · rw [decide_eq_true h, h]; rfl
    · have : ((at'.length : Int) == 0) = false := Bool.eq_false_iff.2 fun hh => by have := beq_iff_eq.1 hh; omega
      rw [decide_eq_false h, this]
  generalize aloneB nm at' tx sf = al at *
  clear hA hcap hw hT HR HEL En Et
  go_enter Tryd.func25, Tryd.ntmps25
  go_upto_region 1 with fail
  go_cut [3] from 4 (fun v wx => v = .bool al ∧ Below (w.alloc (.cells #[.int .i64 kd, .string nm, .slice sa at'.length sc, .string tx, .bool sf] 36)).heap.size (w.alloc (.cells #[.int .i64 kd, .string nm, .slice sa at'.length sc, .string tx, .bool sf] 36)) wx)
  case first =>
    clear HTg HAt HNo HKi A1 A2 A3 A4 A5 A6
    rw [glen.out] at AL
    clear glen
    cases h1 : nm.toList == []
    · rw [h1] at AL
      have Ha : Hid (al = false) := AL
      clear AL HCa
      go_wp2_with fail
      go_meet
      case rel => exact ⟨by rw [Ha.out], Below.refl _ _⟩
    · cases h2 : ((at'.length : Int) == 0)
      · rw [h1, h2] at AL
        have Ha : Hid (al = false) := AL
        clear AL HCa
        go_wp2_with fail
        go_meet
        case rel => exact ⟨by rw [Ha.out], Below.refl _ _⟩
      · cases sf
        · rw [h1, h2] at AL
          have Ha : Hid (al = lineB tx) := AL
          clear AL
          go_wp2_with fail
          refine HCa.mono ?_
          rintro e w1 ⟨rfl, b1⟩
          clear HCa
          go_wp2_with fail
          go_meet
          case rel => exact ⟨by rw [Ha.out], b1⟩
        · rw [h1, h2] at AL
          have Ha : Hid (al = false) := AL
          clear AL HCa
          go_wp2_with fail
          go_meet
          case rel => exact ⟨by rw [Ha.out], Below.refl _ _⟩
  case rest =>
    obtain ⟨rfl, hbx⟩ := hcut
    obtain ⟨bf, d0, d1, d2, d3, d4⟩ := keep.out _ hbx
    clear keep hbx HCa AL
    by_cases h1 : kd = 1
    · subst h1
      have HR := A1.out rfl
      clear A1 A2 A3 A4 A5 A6 HTg HAt HNo HKi
      cases al
      · have Hn : Hid (R = false) := HR
        clear HR
        go_wp2_with fail
        go_ret
        exact ⟨ret_b Hn.out.symm, bf⟩
      · have Hn : Hid (R = !(tx.toList == [])) := HR
        clear HR
        cases he : tx.toList == []
        · rw [he] at Hn
          go_wp2_with fail
          go_ret
          exact ⟨ret_b Hn.out.symm, bf⟩
        · rw [he] at Hn
          go_wp2_with fail
          go_ret
          exact ⟨ret_b Hn.out.symm, bf⟩
    · have g1 : (kd == 1) = false := by simp [h1]
      by_cases h2 : kd = 2
      · subst h2
        have HR := A2.out rfl
        clear A1 A2 A3 A4 A5 A6 HNo HKi
        cases he : tx.toList == []
        · rw [he] at HR
          have Hn : Hid (R = false) := HR
          clear HR HTg HAt
          go_wp2_with fail
          go_ret
          exact ⟨ret_b Hn.out.symm, bf⟩
        · rw [he, Bool.true_and] at HR
          cases hg : tagB nm
          · rw [hg] at HR HTg
            have Hn : Hid (R = false) := HR
            clear HR HAt
            go_wp2_with fail
            refine (HTg _ bf).mono ?_
            rintro e w2 ⟨rfl, b2⟩
            have bf2 := bf.trans (b2.mono bf.size)
            clear HTg b2 d0 d1 d2 d3 d4
            go_wp2_with fail
            go_ret
            exact ⟨ret_b Hn.out.symm, bf2⟩
          · rw [hg, Bool.true_and] at HR
            rw [hg] at HTg
            have Hn : Hid (R = attrsB at') := HR
            clear HR
            generalize attrsB at' = ab at *
            go_wp2_with fail
            refine (HTg _ bf).mono ?_
            rintro e w2 ⟨rfl, b2⟩
            have bf2 := bf.trans (b2.mono bf.size)
            have f2 := keep_cell b2 d2
            clear HTg b2 d0 d1 d2 d3 d4
            go_wp2_with fail
            refine (HAt _ bf2).mono ?_
            rintro e w3 ⟨rfl, b3⟩
            have bf3 := bf2.trans (b3.mono bf2.size)
            clear HAt b3 f2
            go_wp2_with fail
            go_ret
            exact ⟨ret_b Hn.out.symm, bf3⟩
      · have g2 : (kd == 2) = false := by simp [h2]
        by_cases h3 : kd = 3
        · subst h3
          have HR := A3.out rfl
          rw [glen.out] at HR
          clear A1 A2 A3 A4 A5 A6 HAt HNo HKi
          cases he : tx.toList == []
          · rw [he] at HR
            have Hn : Hid (R = false) := HR
            clear HR HTg
            go_wp2_with fail
            go_ret
            exact ⟨ret_b Hn.out.symm, bf⟩
          · rw [he, Bool.true_and] at HR
            cases hl : ((at'.length : Int) == 0)
            · rw [hl] at HR
              have Hn : Hid (R = false) := HR
              clear HR HTg
              go_wp2_with fail
              go_ret
              exact ⟨ret_b Hn.out.symm, bf⟩
            · rw [hl, Bool.true_and] at HR
              cases sf
              · have Hn : Hid (R = tagB nm) := by rw [HR]; exact Bool.true_and _
                clear HR
                generalize tagB nm = tb at *
                go_wp2_with fail
                refine (HTg _ bf).mono ?_
                rintro e w2 ⟨rfl, b2⟩
                have bf2 := bf.trans (b2.mono bf.size)
                clear HTg b2 d0 d1 d2 d3 d4
                go_wp2_with fail
                go_ret
                exact ⟨ret_b Hn.out.symm, bf2⟩
              · have Hn : Hid (R = false) := HR
                clear HR HTg
                go_wp2_with fail
                go_ret
                exact ⟨ret_b Hn.out.symm, bf⟩
        · have g3 : (kd == 3) = false := by simp [h3]
          by_cases h4 : kd = 4
          · subst h4
            have HR := A4.out rfl
            clear A1 A2 A3 A4 A5 A6 HAt HTg HKi
            cases al
            · have Hn : Hid (R = false) := HR
              clear HR HNo
              go_wp2_with fail
              go_ret
              exact ⟨ret_b Hn.out.symm, bf⟩
            · have Hn : Hid (R = noteB tx) := HR
              clear HR
              generalize noteB tx = nb at *
              go_wp2_with fail
              refine (HNo _ bf).mono ?_
              rintro e w2 ⟨rfl, b2⟩
              have bf2 := bf.trans (b2.mono bf.size)
              clear HNo b2 d0 d1 d2 d3 d4
              go_wp2_with fail
              go_ret
              exact ⟨ret_b Hn.out.symm, bf2⟩
          · have g4 : (kd == 4) = false := by simp [h4]
            by_cases h5 : kd = 5
            · subst h5
              have HR := A5.out rfl
              clear A1 A2 A3 A4 A5 A6 HAt HTg HNo
              cases al
              · have Hn : Hid (R = false) := HR
                clear HR HKi
                go_wp2_with fail
                go_ret
                exact ⟨ret_b Hn.out.symm, bf⟩
              · have Hn : Hid (R = kindB tx) := HR
                clear HR
                generalize kindB tx = kb at *
                go_wp2_with fail
                refine (HKi _).mono ?_
                rintro e w2 ⟨rfl, b2⟩
                have bf2 := bf.trans (b2.mono bf.size)
                clear HKi b2 d0 d1 d2 d3 d4
                go_wp2_with fail
                go_ret
                exact ⟨ret_b Hn.out.symm, bf2⟩
            · have g5 : (kd == 5) = false := by simp [h5]
              have Hn : Hid (R = false) := A6.out h1 h2 h3 h4 h5
              clear A1 A2 A3 A4 A5 A6 HAt HTg HNo HKi
              go_wp2_with fail
              go_ret
              exact ⟨ret_b Hn.out.symm, bf⟩

set_option maxRecDepth 20000 in
set_option maxHeartbeats 4000000 in
theorem implRawOk (raw : ByteArray) (t : TokB) (sa : Option Addr) (sn sc : Nat) (w : World) (hr : raw.size ≤ 1048576) (hw : t.2.2.2.1.size ≤ 1048576) :
    Calls Tryd.prog 26 #[.string raw, .agg #[.int .i64 t.1, .string t.2.1, .slice sa sn sc, .string t.2.2.2.1, .bool t.2.2.2.2]] w fun e w' => e = .returned (.bool (rawOkB raw t)) ∧ Below w.heap.size w w' := by
  obtain ⟨kd, nm, at', tx, sf⟩ := t
  simp only at hw
  have RO : Hid (rawOkB raw (kd, nm, at', tx, sf) = if kd == 1 then (!scriptB raw || decide (rawEndE tx 0 raw = tx.size)) else (kd == 3 && (nm.toList == raw.toList))) := rfl
  generalize rawOkB raw (kd, nm, at', tx, sf) = R at *
  simp only
  have bb : Below w.heap.size w (w.alloc (.cells #[.int .i64 kd, .string nm, .slice sa sn sc, .string tx, .bool sf] 36)) := (Below.refl _ _).alloc (Nat.le_refl _) _
  have f3 : (w.alloc (.cells #[.int .i64 kd, .string nm, .slice sa sn sc, .string tx, .bool sf] 36)).cell? ⟨w.heap.size, 3, none⟩ = some (.string tx) := by simp
  cases h1 : kd == 1
  · rw [h1, if_neg (by simp)] at RO
    cases h3 : kd == 3
    · rw [h3] at RO
      have Hn : Hid (R = false) := RO
      go_enter Tryd.func26, Tryd.ntmps26
      go_wp2_with fail
      go_ret
      exact ⟨ret_b Hn.out.symm, bb⟩
    · rw [h3, Bool.true_and] at RO
      cases hq : nm.toList == raw.toList
      · rw [hq] at RO
        have Hn : Hid (R = false) := RO
        go_enter Tryd.func26, Tryd.ntmps26
        go_wp2_with fail
        go_ret
        exact ⟨ret_b Hn.out.symm, bb⟩
      · rw [hq] at RO
        have Hn : Hid (R = true) := RO
        go_enter Tryd.func26, Tryd.ntmps26
        go_wp2_with fail
        go_ret
        exact ⟨ret_b Hn.out.symm, bb⟩
  · rw [h1, if_pos rfl] at RO
    have cH := fun d os => Calls.regrown_of (w := w.alloc (.cells #[.int .i64 kd, .string nm, .slice sa sn sc, .string tx, .bool sf] 36)) (Calls.below (implHasNoRefs raw (Sort.grow (redrawn (w.alloc (.cells #[.int .i64 kd, .string nm, .slice sa sn sc, .string tx, .bool sf] 36)) d) os)))
    have cR := fun d os => Calls.regrown_of (w := w.alloc (.cells #[.int .i64 kd, .string nm, .slice sa sn sc, .string tx, .bool sf] 36)) (implRawEnd tx 0 raw (Sort.grow (redrawn (w.alloc (.cells #[.int .i64 kd, .string nm, .slice sa sn sc, .string tx, .bool sf] 36)) d) os) (by omega) (by omega))
    have z3 := cell_regrown f3
    generalize rawEndE tx 0 raw = z at *
    have gz : decide (z = tx.size) = ((z : Int) == (tx.size : Int)) := by
      by_cases h : z = tx.size
      · rw [decide_eq_true h, h]; simp
      · have : ((z : Int) == (tx.size : Int)) = false := by simp; omega
        rw [decide_eq_false h, this]
    rw [gz] at RO
    clear gz
    cases hs : scriptB raw
    · rw [hs] at cH RO
      have Hn : Hid (R = true) := RO
      go_enter Tryd.func26, Tryd.ntmps26
      go_upto_region 3 with fail
      refine wp_region_quiet_below (by kernel_rfl) (by kernel_rfl) ?_
      repeat (go_big_quiet_step (first | exact cH _ _ | exact cR _ _))
      refine wpQuiet_nil ?_
      intro _ hw'
      obtain ⟨⟨dq, osq⟩, hw''⟩ := hw'
      subst hw''
      have bq0 := below_regrown (w.alloc (.cells #[.int .i64 kd, .string nm, .slice sa sn sc, .string tx, .bool sf] 36)) dq osq
      generalize Sort.grow (redrawn (w.alloc (.cells #[.int .i64 kd, .string nm, .slice sa sn sc, .string tx, .bool sf] 36)) dq) osq = W at *
      have bq : Below w.heap.size w W := bb.trans (bq0.mono bb.size)
      clear cH cR z3 bq0
      go_wp2_with fail
      go_ret
      exact ⟨ret_b Hn.out.symm, bq⟩
    · rw [hs] at cH RO
      have Hn : Hid (R = ((z : Int) == (tx.size : Int))) := RO
      go_enter Tryd.func26, Tryd.ntmps26
      go_upto_region 3 with fail
      refine wp_region_quiet_below (by kernel_rfl) (by kernel_rfl) ?_
      repeat (go_big_quiet_step (first | exact cH _ _ | exact cR _ _))
      refine wpQuiet_nil ?_
      intro _ hw'
      obtain ⟨⟨dq, osq⟩, hw''⟩ := hw'
      subst hw''
      have bq0 := below_regrown (w.alloc (.cells #[.int .i64 kd, .string nm, .slice sa sn sc, .string tx, .bool sf] 36)) dq osq
      generalize Sort.grow (redrawn (w.alloc (.cells #[.int .i64 kd, .string nm, .slice sa sn sc, .string tx, .bool sf] 36)) dq) osq = W at *
      have bq : Below w.heap.size w W := bb.trans (bq0.mono bb.size)
      clear cH cR z3 bq0
      go_wp2_with fail
      go_ret
      exact ⟨ret_b Hn.out.symm, bq⟩

end Go.Proofs.YtmambbknljgjcaaDoor.Sg

namespace Go.Proofs.YtmambbknljgjcaaDoor.Sg
open Go.ChangeShapes Go.WideShapes Go.ChangeAt Go.RowKit

theorem begun_le (t : TokB) (h : tokW t ≤ 1048576) : (begunT t).size ≤ 1048576 := by
  unfold begunT
  split
  · unfold tokW at h
    omega
  · decide

set_option maxRecDepth 20000 in
set_option maxHeartbeats 16000000 in
theorem implTokensOk (l : List TokB) (a : Option Addr) (n cap : Nat) (w : World) (ha : ToksAt w a l) (hC : CapsAt w a l) (hl : l.length = n) (hw : toksW l ≤ 1048576) (hT : Lib2 w) :
    Calls Tryd.prog 11 #[.slice a n cap] w fun e w' => e = .returned (.bool (implL false ⟨#[]⟩ l)) ∧ Below w.heap.size w w' := by
  have HA : Hid (ToksAt w a l) := ha
  have HC : Hid (CapsAt w a l) := hC
  have HT : Hid (Lib2 w) := hT
  have Hl : Hid (l.length = n) := hl
  have hn : n ≤ 1048576 := by unfold toksW at hw; omega
  have HW : Hid (∀ t ∈ l, tokW t ≤ 1048576) := fun t ht => Nat.le_trans (tokW_le ht) hw
  have HR : Hid (implL false ⟨#[]⟩ l = implL (prevT l 0) ⟨#[]⟩ (l.drop 0)) := rfl
  have e0 : (⟨#[]⟩ : ByteArray).toList = [] := ByteArray.toList_mk _
  generalize implL false ⟨#[]⟩ l = R at *
  clear ha hC hl hw hT
  go_enter Tryd.func11, Tryd.ntmps11
  go_wp2
  go_loopw [3, 8] (fun r i wr => ∃ (k : Nat) (raw : ByteArray), k ≤ n ∧ i = .int .i64 k ∧ r = .string raw ∧ raw.size ≤ 1048576 ∧ Hid (R = implL (prevT l k) raw (l.drop k)) ∧ Below w.heap.size w wr) (fun _ i _ => n - (intOf i).toNat)
  case atStart => exact ⟨0, ⟨#[]⟩, Nat.zero_le _, rfl, rfl, by decide, HR, Below.refl _ _⟩
  case round =>
    clear HR
    obtain ⟨k, raw, hk, rfl, rfl, hraw, HR, hbel⟩ := hrel
    by_cases hlt : k < n
    · have hkl : k < l.length := by rw [Hl.out]; exact hlt
      have HAr := HA.out.keep hbel
      have HCr := HC.out.keep HA.out hbel
      obtain ⟨b, rfl, c0, c1, ⟨sv, c2, hS⟩, c3, c4⟩ := HAr.get k hkl
      obtain ⟨sa, sc, rfl, hSA⟩ := hS
      have hcap := HCr b rfl k hkl _ c2 sa _ sc rfl
      have hp := HW.out _ (List.getElem_mem hkl)
      have Hprev : Hid (prevT l (k + 1) = isText (l[k]'hkl)) := prevT_next l k hkl
      have Hdrop := drop_two l k hkl
      have Hw : ∀ W, Below wr.heap.size wr W → Lib2 W → Calls Tryd.prog 25 #[.agg #[.int .i64 (l[k]'hkl).1, .string (l[k]'hkl).2.1, .slice sa (l[k]'hkl).2.2.1.length sc, .string (l[k]'hkl).2.2.2.1, .bool (l[k]'hkl).2.2.2.2]] W fun e w' => e = .returned (.bool (okT (l[k]'hkl))) ∧ Below W.heap.size W w' := fun W hW hL => implWordOk (l[k]'hkl) sa sc W (hSA.below hW) hcap hp hL
      have HRk := fun W => implRawOk raw (l[k]'hkl) sa (l[k]'hkl).2.2.1.length sc W hraw (by unfold tokW at hp; omega)
      have HBg := fun W => implBegun (l[k]'hkl) sa (l[k]'hkl).2.2.1.length sc W
      have hbg := begun_le _ hp
      have HS : Hid (implL (prevT l k) raw (l[k]'hkl :: l.drop (k + 1)) = (okT (l[k]'hkl) && ((emptyB raw || rawOkB raw (l[k]'hkl)) && (!(prevT l k && isText (l[k]'hkl)) && implL (isText (l[k]'hkl)) (if isText (l[k]'hkl) then raw else begunT (l[k]'hkl)) (l.drop (k + 1)))))) := rfl
      rw [Hdrop, HS.out] at HR
      have IT : Hid (isText (l[k]'hkl) = ((l[k]'hkl).1 == 1)) := rfl
      have EB : Hid (emptyB raw = (raw.toList == [])) := rfl
      rw [EB.out] at HR
      clear Hdrop HS EB
      generalize l[k]'hkl = t at *
      generalize okT t = ok at *
      generalize rawOkB raw t = ro at *
      generalize begunT t = bg at *
      generalize isText t = it at *
      obtain ⟨kd, nm, at', tx, sf⟩ := t
      simp only at c0 c1 c2 c3 c4 Hw HRk HBg IT hSA hcap
      have k0 : (0 : Int) ≤ (k : Int) := by omega
      have k1 : (k : Int) < (n : Int) := by omega
      have bx : Below wr.heap.size wr (wr.alloc (.cells #[.int .i64 kd, .string nm, .slice sa at'.length sc, .string tx, .bool sf] 36)) := (Below.refl _ _).alloc (Nat.le_refl _) _
      have hzz : (wr.alloc (.cells #[.int .i64 kd, .string nm, .slice sa at'.length sc, .string tx, .bool sf] 36)).heap.size = wr.heap.size + 1 := by simp
      have keep : Hid (∀ W, Below (wr.alloc (.cells #[.int .i64 kd, .string nm, .slice sa at'.length sc, .string tx, .bool sf] 36)).heap.size (wr.alloc (.cells #[.int .i64 kd, .string nm, .slice sa at'.length sc, .string tx, .bool sf] 36)) W → Below w.heap.size w W ∧ W.cell? ⟨wr.heap.size, 0, none⟩ = some (.int .i64 kd) ∧ W.cell? ⟨wr.heap.size, 1, none⟩ = some (.string nm) ∧ W.cell? ⟨wr.heap.size, 2, none⟩ = some (.slice sa at'.length sc) ∧ W.cell? ⟨wr.heap.size, 3, none⟩ = some (.string tx) ∧ W.cell? ⟨wr.heap.size, 4, none⟩ = some (.bool sf) ∧ Below wr.heap.size wr W) := fun W h => by
        refine ⟨hbel.trans ((below_chain bx h).mono hbel.size), ?_, ?_, ?_, ?_, ?_, below_chain bx h⟩ <;> exact (h.cell (by rw [hzz]; exact Nat.lt_succ_self _)).trans (by simp)
      have Hw0 := Hw (wr.alloc (.cells #[.int .i64 kd, .string nm, .slice sa at'.length sc, .string tx, .bool sf] 36)) bx (HT.out.below (hbel.trans (bx.mono hbel.size)))
      clear Hw
      cases hok : ok
      · rw [hok] at Hw0 HR
        have Hn : Hid (R = false) := HR
        go_wp2_with fail
        refine Hw0.mono ?_
        rintro e w1 ⟨rfl, b1⟩
        have bf := (keep.out _ b1).1
        clear Hw0 b1 HR HRk HBg
        go_wp2_with fail
        go_ret
        exact ⟨ret_b Hn.out.symm, bf⟩
      · rw [hok] at Hw0 HR
        rw [Bool.true_and] at HR
        cases hre : raw.toList == []
        · rw [hre, Bool.false_or] at HR
          cases hro : ro
          · rw [hro] at HRk HR
            have Hn : Hid (R = false) := HR
            go_wp2_with fail
            refine Hw0.mono ?_
            rintro e w1 ⟨rfl, b1⟩
            obtain ⟨_, d0, d1, d2, d3, d4, _⟩ := keep.out _ b1
            go_wp2_with fail
            refine (HRk _).mono ?_
            rintro e w2 ⟨rfl, b2⟩
            have bf := (keep.out _ (below_chain b1 b2)).1
            clear Hw0 b1 b2 HR HRk HBg d0 d1 d2 d3 d4
            go_wp2_with fail
            go_ret
            exact ⟨ret_b Hn.out.symm, bf⟩
          · rw [hro] at HRk HR
            rw [Bool.true_and] at HR
            cases hkz : decide (0 < k)
            · have hk0 : k = 0 := by have := of_decide_eq_false hkz; omega
              subst hk0
              have hpz : prevT l 0 = false := rfl
              rw [hpz, Bool.false_and, Bool.not_false, Bool.true_and] at HR
              cases ht : kd == 1
              · have htn : (kd != 1) = true := by unfold bne; rw [ht]; rfl
                rw [IT.out, ht] at HR
                have HR2 : Hid (R = implL (prevT l (0 + 1)) bg (l.drop (0 + 1))) := by show _ = _; rw [Hprev.out, IT.out, ht]; exact HR.out
                clear HR Hprev IT
                go_wp2_with fail
                refine Hw0.mono ?_
                rintro e w1 ⟨rfl, b1⟩
                obtain ⟨_, x0, x1, x2, x3, x4, _⟩ := keep.out _ b1
                go_wp2_with fail
                refine (HRk _).mono ?_
                rintro e w2 ⟨rfl, b2⟩
                have bW := below_chain b1 b2
                clear b1 b2 x0 x1 x2 x3 x4
                obtain ⟨bf, d0, d1, d2, d3, d4, bwr⟩ := keep.out _ bW
                clear Hw0 HRk bW
                go_wp2_with fail
                refine (HBg _).mono ?_
                rintro e w3 ⟨rfl, b3⟩
                have bf3 := bf.trans (b3.mono bf.size)
                clear HBg b3 d0 d1 d2 d3 d4 bf
                go_wp2_with fail
                go_roundw
                case rel => exact ⟨0 + 1, bg, by omega, by go_num, rfl, hbg, HR2, bf3⟩
                case measure => simp [intOf]; omega
              · have htn : (kd != 1) = false := by unfold bne; rw [ht]; rfl
                rw [IT.out, ht] at HR
                have HR2 : Hid (R = implL (prevT l (0 + 1)) raw (l.drop (0 + 1))) := by show _ = _; rw [Hprev.out, IT.out, ht]; exact HR.out
                clear HR Hprev IT
                go_wp2_with fail
                refine Hw0.mono ?_
                rintro e w1 ⟨rfl, b1⟩
                obtain ⟨_, x0, x1, x2, x3, x4, _⟩ := keep.out _ b1
                go_wp2_with fail
                refine (HRk _).mono ?_
                rintro e w2 ⟨rfl, b2⟩
                have bW := below_chain b1 b2
                clear b1 b2 x0 x1 x2 x3 x4
                obtain ⟨bf, d0, d1, d2, d3, d4, bwr⟩ := keep.out _ bW
                clear Hw0 HRk bW
                clear HBg
                go_wp2_with fail
                go_roundw
                case rel => exact ⟨0 + 1, raw, by omega, by go_num, rfl, hraw, HR2, bf⟩
                case measure => simp [intOf]; omega
            · have hkp : 0 < k := of_decide_eq_true hkz
              have gk : decide ((k : Int) > 0) = true := decide_eq_true (by omega)
              have gk' : decide ((0 : Int) < (k : Int)) = true := decide_eq_true (by omega)
              obtain ⟨j, rfl⟩ : ∃ j, k = j + 1 := ⟨k - 1, by omega⟩
              have hj : j < l.length := by omega
              have Hpj : Hid (prevT l (j + 1) = isText (l[j]'hj)) := prevT_next l j hj
              have HAj := HAr.get j hj
              have ITj : Hid (isText (l[j]'hj) = ((l[j]'hj).1 == 1)) := rfl
              generalize l[j]'hj = p at *
              obtain ⟨b', hb', p0, _⟩ := HAj
              cases hb'
              obtain ⟨pkd, pnm, pat, ptx, psf⟩ := p
              simp only at p0 ITj
              have q2 : IntKind.i64.wrap (((j + 1 : Nat) : Int) - 1) = (j : Int) := IntWalk.i64_in _ (by omega) |>.trans (by omega)
              have j0 : (0 : Int) ≤ (j : Int) := by omega
              have j1 : (j : Int) < (n : Int) := by omega
              rw [Hpj.out, ITj.out] at HR
              cases ht : kd == 1
              · have htn : (kd != 1) = true := by unfold bne; rw [ht]; rfl
                rw [IT.out, ht, Bool.and_false, Bool.not_false, Bool.true_and] at HR
                have HR2 : Hid (R = implL (prevT l (j + 1 + 1)) bg (l.drop (j + 1 + 1))) := by show _ = _; rw [Hprev.out, IT.out, ht]; exact HR.out
                clear HR Hprev IT Hpj ITj
                go_wp2_with fail
                refine Hw0.mono ?_
                rintro e w1 ⟨rfl, b1⟩
                obtain ⟨_, x0, x1, x2, x3, x4, _⟩ := keep.out _ b1
                go_wp2_with fail
                refine (HRk _).mono ?_
                rintro e w2 ⟨rfl, b2⟩
                have bW := below_chain b1 b2
                clear b1 b2 x0 x1 x2 x3 x4
                obtain ⟨bf, d0, d1, d2, d3, d4, bwr⟩ := keep.out _ bW
                clear Hw0 HRk bW
                go_wp2_with fail
                refine (HBg _).mono ?_
                rintro e w3 ⟨rfl, b3⟩
                have bf3 := bf.trans (b3.mono bf.size)
                clear HBg b3 d0 d1 d2 d3 d4 bf
                go_wp2_with fail
                go_roundw
                case rel => exact ⟨j + 1 + 1, bg, by omega, by go_num, rfl, hbg, HR2, bf3⟩
                case measure => simp [intOf]; omega
              · have htn : (kd != 1) = false := by unfold bne; rw [ht]; rfl
                rw [IT.out, ht, Bool.and_true] at HR
                cases hp1 : pkd == 1
                · rw [hp1, Bool.not_false, Bool.true_and] at HR
                  have HR2 : Hid (R = implL (prevT l (j + 1 + 1)) raw (l.drop (j + 1 + 1))) := by show _ = _; rw [Hprev.out, IT.out, ht]; exact HR.out
                  clear HR Hprev IT Hpj ITj
                  go_wp2_with fail
                  refine Hw0.mono ?_
                  rintro e w1 ⟨rfl, b1⟩
                  obtain ⟨_, x0, x1, x2, x3, x4, _⟩ := keep.out _ b1
                  go_wp2_with fail
                  refine (HRk _).mono ?_
                  rintro e w2 ⟨rfl, b2⟩
                  have bW := below_chain b1 b2
                  clear b1 b2 x0 x1 x2 x3 x4
                  obtain ⟨bf, d0, d1, d2, d3, d4, bwr⟩ := keep.out _ bW
                  clear Hw0 HRk bW
                  have p0' := keep_cell bwr p0
                  clear HBg
                  go_wp2_with fail
                  go_roundw
                  case rel => exact ⟨j + 1 + 1, raw, by omega, by go_num, rfl, hraw, HR2, bf⟩
                  case measure => simp [intOf]; omega
                · rw [hp1] at HR
                  have Hn : Hid (R = false) := HR.out
                  clear HR Hprev IT Hpj ITj
                  go_wp2_with fail
                  refine Hw0.mono ?_
                  rintro e w1 ⟨rfl, b1⟩
                  obtain ⟨_, x0, x1, x2, x3, x4, _⟩ := keep.out _ b1
                  go_wp2_with fail
                  refine (HRk _).mono ?_
                  rintro e w2 ⟨rfl, b2⟩
                  have bW := below_chain b1 b2
                  clear b1 b2 x0 x1 x2 x3 x4
                  obtain ⟨bf, d0, d1, d2, d3, d4, bwr⟩ := keep.out _ bW
                  clear Hw0 HRk bW
                  have p0' := keep_cell bwr p0
                  clear HBg
                  go_wp2_with fail
                  go_ret
                  exact ⟨ret_b Hn.out.symm, bf⟩
        · rw [hre, Bool.true_or, Bool.true_and] at HR
          cases hkz : decide (0 < k)
          · have hk0 : k = 0 := by have := of_decide_eq_false hkz; omega
            subst hk0
            have hpz : prevT l 0 = false := rfl
            rw [hpz, Bool.false_and, Bool.not_false, Bool.true_and] at HR
            cases ht : kd == 1
            · have htn : (kd != 1) = true := by unfold bne; rw [ht]; rfl
              rw [IT.out, ht] at HR
              have HR2 : Hid (R = implL (prevT l (0 + 1)) bg (l.drop (0 + 1))) := by show _ = _; rw [Hprev.out, IT.out, ht]; exact HR.out
              clear HR Hprev IT
              go_wp2_with fail
              refine Hw0.mono ?_
              rintro e w1 ⟨rfl, b1⟩
              have bW := b1
              clear b1
              obtain ⟨bf, d0, d1, d2, d3, d4, bwr⟩ := keep.out _ bW
              clear Hw0 HRk bW
              go_wp2_with fail
              refine (HBg _).mono ?_
              rintro e w3 ⟨rfl, b3⟩
              have bf3 := bf.trans (b3.mono bf.size)
              clear HBg b3 d0 d1 d2 d3 d4 bf
              go_wp2_with fail
              go_roundw
              case rel => exact ⟨0 + 1, bg, by omega, by go_num, rfl, hbg, HR2, bf3⟩
              case measure => simp [intOf]; omega
            · have htn : (kd != 1) = false := by unfold bne; rw [ht]; rfl
              rw [IT.out, ht] at HR
              have HR2 : Hid (R = implL (prevT l (0 + 1)) raw (l.drop (0 + 1))) := by show _ = _; rw [Hprev.out, IT.out, ht]; exact HR.out
              clear HR Hprev IT
              go_wp2_with fail
              refine Hw0.mono ?_
              rintro e w1 ⟨rfl, b1⟩
              have bW := b1
              clear b1
              obtain ⟨bf, d0, d1, d2, d3, d4, bwr⟩ := keep.out _ bW
              clear Hw0 HRk bW
              clear HBg
              go_wp2_with fail
              go_roundw
              case rel => exact ⟨0 + 1, raw, by omega, by go_num, rfl, hraw, HR2, bf⟩
              case measure => simp [intOf]; omega
          · have hkp : 0 < k := of_decide_eq_true hkz
            have gk : decide ((k : Int) > 0) = true := decide_eq_true (by omega)
            have gk' : decide ((0 : Int) < (k : Int)) = true := decide_eq_true (by omega)
            obtain ⟨j, rfl⟩ : ∃ j, k = j + 1 := ⟨k - 1, by omega⟩
            have hj : j < l.length := by omega
            have Hpj : Hid (prevT l (j + 1) = isText (l[j]'hj)) := prevT_next l j hj
            have HAj := HAr.get j hj
            have ITj : Hid (isText (l[j]'hj) = ((l[j]'hj).1 == 1)) := rfl
            generalize l[j]'hj = p at *
            obtain ⟨b', hb', p0, _⟩ := HAj
            cases hb'
            obtain ⟨pkd, pnm, pat, ptx, psf⟩ := p
            simp only at p0 ITj
            have q2 : IntKind.i64.wrap (((j + 1 : Nat) : Int) - 1) = (j : Int) := IntWalk.i64_in _ (by omega) |>.trans (by omega)
            have j0 : (0 : Int) ≤ (j : Int) := by omega
            have j1 : (j : Int) < (n : Int) := by omega
            rw [Hpj.out, ITj.out] at HR
            cases ht : kd == 1
            · have htn : (kd != 1) = true := by unfold bne; rw [ht]; rfl
              rw [IT.out, ht, Bool.and_false, Bool.not_false, Bool.true_and] at HR
              have HR2 : Hid (R = implL (prevT l (j + 1 + 1)) bg (l.drop (j + 1 + 1))) := by show _ = _; rw [Hprev.out, IT.out, ht]; exact HR.out
              clear HR Hprev IT Hpj ITj
              go_wp2_with fail
              refine Hw0.mono ?_
              rintro e w1 ⟨rfl, b1⟩
              have bW := b1
              clear b1
              obtain ⟨bf, d0, d1, d2, d3, d4, bwr⟩ := keep.out _ bW
              clear Hw0 HRk bW
              go_wp2_with fail
              refine (HBg _).mono ?_
              rintro e w3 ⟨rfl, b3⟩
              have bf3 := bf.trans (b3.mono bf.size)
              clear HBg b3 d0 d1 d2 d3 d4 bf
              go_wp2_with fail
              go_roundw
              case rel => exact ⟨j + 1 + 1, bg, by omega, by go_num, rfl, hbg, HR2, bf3⟩
              case measure => simp [intOf]; omega
            · have htn : (kd != 1) = false := by unfold bne; rw [ht]; rfl
              rw [IT.out, ht, Bool.and_true] at HR
              cases hp1 : pkd == 1
              · rw [hp1, Bool.not_false, Bool.true_and] at HR
                have HR2 : Hid (R = implL (prevT l (j + 1 + 1)) raw (l.drop (j + 1 + 1))) := by show _ = _; rw [Hprev.out, IT.out, ht]; exact HR.out
                clear HR Hprev IT Hpj ITj
                go_wp2_with fail
                refine Hw0.mono ?_
                rintro e w1 ⟨rfl, b1⟩
                have bW := b1
                clear b1
                obtain ⟨bf, d0, d1, d2, d3, d4, bwr⟩ := keep.out _ bW
                clear Hw0 HRk bW
                have p0' := keep_cell bwr p0
                clear HBg
                go_wp2_with fail
                go_roundw
                case rel => exact ⟨j + 1 + 1, raw, by omega, by go_num, rfl, hraw, HR2, bf⟩
                case measure => simp [intOf]; omega
              · rw [hp1] at HR
                have Hn : Hid (R = false) := HR.out
                clear HR Hprev IT Hpj ITj
                go_wp2_with fail
                refine Hw0.mono ?_
                rintro e w1 ⟨rfl, b1⟩
                have bW := b1
                clear b1
                obtain ⟨bf, d0, d1, d2, d3, d4, bwr⟩ := keep.out _ bW
                clear Hw0 HRk bW
                have p0' := keep_cell bwr p0
                clear HBg
                go_wp2_with fail
                go_ret
                exact ⟨ret_b Hn.out.symm, bf⟩
    · have hkn : k = n := by omega
      subst hkn
      have g2 : decide ((k : Int) < (k : Int)) = false := by simp
      have Hn : Hid (R = true) := by
        show _ = _
        rw [HR.out, List.drop_of_length_le (by rw [Hl.out]; exact Nat.le_refl _)]
        cases prevT l k <;> rfl
      clear HR
      go_wp2_with fail
      go_ret
      exact ⟨ret_b Hn.out.symm, hbel⟩

end Go.Proofs.YtmambbknljgjcaaDoor.Sg
