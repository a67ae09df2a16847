/- Contract of the model's ReadEl. Plain: texts that are sorted, of which runs of like ones are one. The beginning of a row that is owned. Contract of the program's unlikeNames: no name of attributes stands twice. Plain: attributes are strict just where each is so by itself, and no name stands twice. A block of two cells. Attributes compared as structs. Contract of the program's attrNamed. Plain: what the program's reader reads: all attributes first, then the space that they tell; of that space nothing is asked. What it reads that the model does not is not strict. A note, by what stands up to the next two bytes 45. Plain. -/
import Derived.Test.YthipdkagkdnaiaaGreatDoorMRD15
import Derived.BigRegion
import Derived.Test.YthipdkagkdnaiaaGreatDoorSgOk
import Derived.OwnWalk
import Derived.Lib.SlicesCompact
import Derived.Sort.Walk0
import Derived.Sort.OwnSorted
import Derived.Test.YthipdkagkdnaiaaGreatDoorMRD07
import Derived.Test.YthipdkagkdnaiaaGreatDoorShelf
import Derived.Laws.AppendOwn
import Derived.Laws.MakeOwn
import Derived.Below
import Derived.ArgAppend
import Derived.Test.YthipdkagkdnaiaaGreatDoorMRD04
import Derived.Test.YthipdkagkdnaiaaGreatDoorMRD05
import Derived.Test.YthipdkagkdnaiaaGreatDoorMRD09
namespace Go.Proofs.YthipdkagkdnaiaaGreatDoor.Sg
open Go.ChangeShapes Go.WideShapes Go.ChangeAt Go.RowKit

/-- Six cells of a block. -/
def Six (w : World) (c : Nat) (v0 v1 v2 v3 v4 v5 : Value) : Prop := w.cell? ⟨c, 0, none⟩ = some v0 ∧ w.cell? ⟨c, 1, none⟩ = some v1 ∧ w.cell? ⟨c, 2, none⟩ = some v2 ∧ w.cell? ⟨c, 3, none⟩ = some v3 ∧ w.cell? ⟨c, 4, none⟩ = some v4 ∧ w.cell? ⟨c, 5, none⟩ = some v5
end Go.Proofs.YthipdkagkdnaiaaGreatDoor.Sg

namespace Go.Proofs.YthipdkagkdnaiaaGreatDoor.Sg
open Go.ChangeShapes Go.WideShapes Go.ChangeAt Go.RowKit Go.Sort

theorem le_or (a b : List UInt8) (h : a ≤ b) (hn : a ≠ b) : a < b := by
  by_cases h1 : a < b
  · exact h1
  · exact absurd (List.le_antisymm h (List.not_lt.1 h1)) hn

/-- Lists in strict order with the same members are one. -/
theorem eq_of_members : ∀ (a b : List (List UInt8)), a.Pairwise (· < ·) → b.Pairwise (· < ·) → (∀ x, x ∈ a ↔ x ∈ b) → a = b
  | [], [], _, _, _ => rfl
  | [], y :: b, _, _, h => absurd ((h y).2 List.mem_cons_self) List.not_mem_nil
  | x :: a, [], _, _, h => absurd ((h x).1 List.mem_cons_self) List.not_mem_nil
  | x :: a, y :: b, ha, hb, h => by
    rw [List.pairwise_cons] at ha hb
    have e : x = y := by
      rcases List.mem_cons.1 ((h x).1 List.mem_cons_self) with e | m1
      · exact e
      · rcases List.mem_cons.1 ((h y).2 List.mem_cons_self) with e | m2
        · exact e.symm
        · exact absurd (List.lt_trans (hb.1 x m1) (ha.1 y m2)) (List.lt_irrefl _)
    subst e
    rw [eq_of_members a b ha.2 hb.2 fun z => ?_]
    constructor
    · intro m
      rcases List.mem_cons.1 ((h z).1 (List.mem_cons_of_mem _ m)) with e | m1
      · subst e
        exact absurd (ha.1 _ m) (List.lt_irrefl _)
      · exact m1
    · intro m
      rcases List.mem_cons.1 ((h z).2 (List.mem_cons_of_mem _ m)) with e | m1
      · subst e
        exact absurd (hb.1 _ m) (List.lt_irrefl _)
      · exact m1

/-- What is kept of a sorted list is in strict order, and no member is lost. -/
theorem compact_upto (ts : List (List UInt8)) (hs : ts.Pairwise (· ≤ ·)) : ∀ m, m ≤ ts.length →
    (Lib.compactUpTo ts.toArray m).Pairwise (· < ·) ∧ ∀ x, x ∈ Lib.compactUpTo ts.toArray m ↔ ∃ j, j < m ∧ ts.toArray[j]! = x
  | 0, _ => ⟨by simp [Lib.compactUpTo], fun x => by simp [Lib.compactUpTo]⟩
  | m + 1, hm => by
    obtain ⟨h1, h2⟩ := compact_upto ts hs m (by omega)
    have le : ∀ i j, i ≤ j → j < ts.length → ts.toArray[i]! ≤ ts.toArray[j]! := fun i j hij hj => by
      have ei : ts.toArray[i]! = ts[i]'(by omega) := by simp [getElem!_pos, show i < ts.length by omega]
      have ej : ts.toArray[j]! = ts[j] := by simp [getElem!_pos, hj]
      rw [ei, ej]
      by_cases e : i = j
      · subst e
        exact List.le_refl _
      · exact List.pairwise_iff_getElem.1 hs i j (by omega) hj (by omega)
    rw [Lib.compactUpTo_succ]
    cases hk : Lib.keeps ts.toArray m with
    | true =>
      rw [if_pos rfl]
      constructor
      · rw [List.pairwise_append]
        refine ⟨h1, List.pairwise_singleton _ _, fun x hx y hy => ?_⟩
        obtain ⟨j, hj, rfl⟩ := (h2 x).1 hx
        rw [List.mem_singleton.1 hy]
        have hne : ts.toArray[m]! ≠ ts.toArray[m - 1]! := by
          rcases of_decide_eq_true hk with e | e
          · omega
          · exact e
        have l1 := le j (m - 1) (by omega) (by omega)
        have l2 := le (m - 1) m (by omega) (by omega)
        exact List.lt_of_le_of_lt l1 (le_or _ _ l2 hne.symm)
      · intro x
        rw [List.mem_append, h2 x, List.mem_singleton]
        constructor
        · rintro (⟨j, hj, e⟩ | e)
          · exact ⟨j, by omega, e⟩
          · exact ⟨m, by omega, e.symm⟩
        · rintro ⟨j, hj, e⟩
          by_cases e1 : j = m
          · subst e1
            exact .inr e.symm
          · exact .inl ⟨j, by omega, e⟩
    | false =>
      rw [if_neg (by decide), List.append_nil]
      refine ⟨h1, fun x => ?_⟩
      rw [h2 x]
      have hd := of_decide_eq_false hk
      have hm0 : m ≠ 0 := fun e => hd (.inl e)
      have he : ts.toArray[m]! = ts.toArray[m - 1]! := Decidable.byContradiction fun e => hd (.inr e)
      constructor
      · rintro ⟨j, hj, e⟩
        exact ⟨j, by omega, e⟩
      · rintro ⟨j, hj, e⟩
        by_cases e1 : j = m
        · subst e1
          exact ⟨j - 1, by omega, by rw [← he]; exact e⟩
        · exact ⟨j, by omega, e⟩
theorem compact_sorted (ts : List (List UInt8)) (hs : ts.Pairwise (· ≤ ·)) : (Lib.compact ts).Pairwise (· < ·) ∧ ∀ x, x ∈ Lib.compact ts ↔ x ∈ ts := by
  obtain ⟨h1, h2⟩ := compact_upto ts hs ts.length (Nat.le_refl _)
  refine ⟨h1, fun x => (h2 x).trans ⟨?_, fun h => ?_⟩⟩
  · rintro ⟨j, hj, rfl⟩
    rw [show ts.toArray[j]! = ts[j] by simp [getElem!_pos, hj]]
    exact List.getElem_mem hj
  · obtain ⟨j, hj, rfl⟩ := List.getElem_of_mem h
    exact ⟨j, hj, by simp [getElem!_pos, hj]⟩
def dL (s : ByteArray) : List UInt8 := s.data.toList
theorem sorted_msB (ss : List (List UInt8)) : (ss.mergeSort fun x y => decide (x ≤ y)).Pairwise (· ≤ ·) := by
  have h := List.pairwise_mergeSort (le := fun x y : List UInt8 => decide (x ≤ y)) (fun a b c h1 h2 => by simp only [decide_eq_true_eq] at *; exact List.le_trans h1 h2) (fun a b => by simp only [Bool.or_eq_true, decide_eq_true_eq]; exact List.le_total a b) ss
  exact h.imp fun {a b} h1 => of_decide_eq_true h1

theorem keeps_all {ts : List (List UInt8)} (h : (Lib.compact ts).length = ts.length) : Lib.compact ts = ts := by
  unfold Lib.compact Lib.compactUpTo at h ⊢
  rw [List.length_map] at h
  have hf : (List.range ts.length).filter (Lib.keeps ts.toArray) = List.range ts.length := by
    refine List.filter_eq_self.2 ?_
    refine List.length_filter_eq_length_iff.1 ?_
    rw [h, List.length_range]
  rw [hf]
  refine List.ext_getElem (by simp) fun k h1 h2 => ?_
  simp [h2]
/-- As many are left as there were just where none stands twice. -/
theorem compact_nodup (ss : List (List UInt8)) : (Lib.compact (ss.mergeSort fun x y => decide (x ≤ y))).length = ss.length ↔ ss.Nodup := by
  have hs := sorted_msB ss
  have hp : (ss.mergeSort fun x y => decide (x ≤ y)).Perm ss := List.mergeSort_perm _ _
  rw [← hp.nodup_iff, ← hp.length_eq]
  generalize (ss.mergeSort fun x y => decide (x ≤ y)) = ts at *
  obtain ⟨h1, h2⟩ := compact_sorted ts hs
  constructor
  · intro h
    rw [keeps_all h] at h1
    exact h1.imp fun {a b} hab e => by
      subst e
      exact List.lt_irrefl _ hab
  · intro hn
    have h3 : ts.Pairwise (· < ·) := List.Pairwise.imp₂ (fun a b hab hne => le_or a b hab hne) hs hn
    rw [eq_of_members _ _ h1 h3 h2]

end Go.Proofs.YthipdkagkdnaiaaGreatDoor.Sg

namespace Go.Proofs.YthipdkagkdnaiaaGreatDoor.Sg
open Go.ChangeShapes Go.WideShapes Go.ChangeAt Go.RowKit Go.Sort

theorem info_strU : (Tryz.prog.info? 9).map (fun i => (i.zero, i.size, i.bytes)) = some (some (.string ⟨#[]⟩), 1, 16) := by kernel_rfl
theorem one_cellU (w : World) (x : Value) (t : TypeId) (b : Nat) (hb : b = w.heap.size) : ∀ j u, ([x])[j]? = some u → (w.alloc (.cells #[x] t)).cell? ((⟨b, 0, none⟩ : Addr).add j) = some u := by
  intro j u hj
  subst hb
  match j, hj with
  | 0, hj => simp at hj; subst hj; simp [Addr.add]

/-- The names of attributes. -/
def anames (l : List AttrB) : List (List UInt8) := l.map fun p => dL p.1
/-- No name stands twice. -/
def unlikeB (l : List AttrB) : Bool := decide (anames l).Nodup
theorem anames_step (l : List AttrB) (k : Nat) (h : k < l.length) : anames (l.take (k + 1)) = anames (l.take k) ++ [dL (l[k]'h).1] := by
  unfold anames
  rw [List.take_succ_eq_append_getElem h, List.map_append]
  rfl

set_option maxRecDepth 100000 in
set_option maxHeartbeats 8000000 in
theorem implUnlike (l : List AttrB) (a : Option Addr) (n cap : Nat) (w : World) (ha : AttrsAt w a l) (hl : l.length = n) (hn : n ≤ 16777216) :
    Calls Tryz.prog 76 #[.slice a n cap] w fun e w' => e = .returned (.bool (unlikeB l)) ∧ Below w.heap.size w w' := by
  obtain ⟨i0, hi, hz0, hz1, hz2⟩ := info_parts info_strU
  have HA : Hid (AttrsAt w a l) := ha
  have Hl : Hid (l.length = n) := hl
  have HR : Hid (unlikeB l = decide ((Lib.compact ((anames l).mergeSort fun x y => decide (x ≤ y))).length = n)) := by
    show _ = _
    unfold unlikeB
    have := compact_nodup (anames l)
    rw [show (anames l).length = n by unfold anames; rw [List.length_map, hl]] at this
    exact decide_eq_decide.2 this.symm
  generalize unlikeB l = R at *
  clear ha hl
  obtain ⟨Wm, hmk, hem, gm⟩ := run_make_own (P := Tryz.prog) w w.heap.size 119 9 i0 (.string ⟨#[]⟩) 1 Tryz.underlying119 hi hz0 hz1 .i64 .i64 n (by rw [hz2]; omega) (by unfold maxLen; omega) (Nat.le_refl _)
  have HE : Hid (Wm.ownsRow w.heap.size 9 1 (.slice (some ⟨w.heap.size, 0, none⟩) 0 n) 0 []) := hem
  have HBm : Hid (Below w.heap.size w Wm) := (Below.refl _ w).grown gm (Nat.le_refl _) (fun k e => by cases e)
  clear hem gm
  go_enter Tryz.func76, Tryz.ntmps76
  go_wp2_with fail
  go_loopw [3, 5, 11] (fun ov _ iv wr => ∃ (k : Nat) (ss : List (List UInt8)), k ≤ n ∧ iv = .int .i64 k ∧ Hid (ss.length = k) ∧ Hid (ss = anames (l.take k)) ∧ Hid (wr.ownsRow w.heap.size 9 1 ov k (ss.map Go.Proofs.encStr)) ∧ Hid (ov ≠ .slice none 0 0) ∧ Hid (Below w.heap.size w wr)) (fun _ _ iv _ => n - (intOf iv).toNat)
  case atStart => exact ⟨0, [], Nat.zero_le _, rfl, rfl, by show [] = _; rfl, HE, (by intro h; cases h), HBm⟩
  case round =>
    clear HE HBm hmk
    obtain ⟨k, ss, hk, rfl, Hm, HS, HO, HNn, HB⟩ := hrel
    have k0 : (0 : Int) ≤ (k : Int) := by omega
    by_cases hlt : k < n
    · have hkl : k < l.length := by rw [Hl.out]; exact hlt
      have k1 : (k : Int) < (n : Int) := by omega
      obtain ⟨b, rfl, c0, c1⟩ := attrs_one (HA.out.below HB.out) k hkl
      have HSs : Hid (ss ++ [dL (l[k]'hkl).1] = anames (l.take (k + 1))) := by show _ = _; rw [anames_step l k hkl, ← HS.out]
      generalize l[k]'hkl = p at *
      obtain ⟨nm, vl⟩ := p
      simp only at c0 c1 HSs
      have Hmn : Hid ((ss ++ [dL nm]).length = k + 1) := by show _ = _; rw [List.length_append, Hm.out]; rfl
      have hbs := HB.out.size
      have hO := HO.out
      have hone : ∀ y ∈ [Go.Proofs.encStr (dL nm)], y.oneCell' = true := by simp [Value.oneCell', Go.Proofs.encStr]
      have h63 : k + 1 ≤ maxLen := by unfold maxLen; omega
      have hbyt : (k + 1) * 16 ≤ 140737488355328 := by omega
      go_wp2_with (first
        | (at_builtin; refine wpList_append_own _ rfl _ _ 119 rfl w.heap.size 9 i0 (.string ⟨#[]⟩) 1 16 Tryz.underlying119 hi hz0 hz1 hz2 rfl (by decide) _ _ _ rfl ((hO.alloc _).alloc _) ⟨wr.heap.size + 1, 0, none⟩ 1 1 [Go.Proofs.encStr (dL nm)] rfl rfl (one_cellU _ _ _ _ (by simp)) hone h63 hbyt (by simp; omega) ?_; intro v3 w3 o3 g3 hnil3)
        | go_in)
      have B2 : Below w.heap.size w ((wr.alloc (.cells #[.string nm, .string vl] 73)).alloc (.cells #[.string nm] 9)) := (HB.out.alloc hbs _).alloc (by simp; omega) _
      have B3 : Hid (Below w.heap.size w w3) := grown_below ((hO.alloc _).alloc _) B2 (Nat.le_refl _) g3 (by simp; omega)
      have O3 : Hid (w3.ownsRow w.heap.size 9 1 v3 (k + 1) ((ss ++ [dL nm]).map Go.Proofs.encStr)) := by show World.ownsRow _ _ _ _ _ _ _; rw [List.map_append]; exact o3
      have N3 : Hid (v3 ≠ .slice none 0 0) := fun e => absurd (hnil3.1 e).2 (by decide)
      clear o3 g3 hO B2 hone hnil3
      go_roundw
      case rel => exact ⟨k + 1, _, by omega, by go_num, Hmn, HSs, O3, N3, B3⟩
      case measure => simp [intOf]; omega
    · have hkn : k = n := by omega
      subst hkn
      have g1 : decide ((k : Int) < (k : Int)) = false := by simp
      have HSn : Hid (ss = anames l) := by show _ = _; rw [HS.out, List.take_of_length_le (by rw [Hl.out]; exact Nat.le_refl _)]
      rcases HO.out.2 with ⟨h0, _⟩ | ⟨g, oc, cur, rfl, hbase, hb, h1, h2, h3, h4⟩
      · exact absurd h0 HNn.out
      have h1' : ss.length ≤ oc := by rw [Hm.out]; exact h1
      have hH : Holds Go.Proofs.encStr wr g 0 ss.toArray := holds_of_block hb (by rw [Hm.out]; simpa using h4)
      have hgl : g < wr.heap.size := (Array.getElem?_eq_some_iff.1 hb).1
      have C1 := Tryz.slices_Sort_string g 0 oc ss wr hH hgl (by rw [Hm.out]; omega)
      rw [Hm.out] at C1
      obtain ⟨zs, HZ⟩ : ∃ zs, Hid (zs = ss.mergeSort fun x y => decide (x ≤ y)) := ⟨_, rfl⟩
      rw [← HZ.out] at C1
      have hzl : zs.length = ss.length := by rw [HZ.out]; simp
      have HR2 : Hid (R = decide ((Lib.compact zs).length = k)) := by show _ = _; rw [HR.out, HZ.out, HSn.out]
      have C2 : ∀ nn os, Calls Tryz.prog 102 #[.slice (some ⟨g, 0, none⟩) k oc] (grow (putRow Go.Proofs.encStr (Sort.ahead wr nn) g 0 zs.toArray) os) fun e w' => e = .returned (.slice (some ⟨g, 0, none⟩) (Lib.compact zs).length oc) ∧ Below w.heap.size w w' := by
        intro nn os
        have hrow := ownsRow_sorted (n := nn) (os := os) hzl hbase hb h1' h2 h3
        have hbel : Below w.heap.size w (grow (putRow Go.Proofs.encStr (Sort.ahead wr nn) g 0 zs.toArray) os) := HB.out.grown (grownBy_sorted _) HB.out.size (fun j hj => by cases hj; exact hbase)
        generalize grow (putRow Go.Proofs.encStr (Sort.ahead wr nn) g 0 zs.toArray) os = W at *
        rcases hrow.2 with ⟨hv, _⟩ | ⟨g', oc', cur', hv, hbase', hb', e1, e2, e3, e4⟩
        · cases hv
        cases hv
        have hH' : Holds Go.Proofs.encStr W g 0 zs.toArray := holds_of_block hb' (by rw [hzl]; simpa using e4)
        have C := Tryz.slices_Compact_string g 0 oc zs W hH' (by rw [hzl, Hm.out]; omega) (by rw [hzl]; exact e1)
        rw [hzl, Hm.out] at C
        refine C.mono ?_
        rintro e w' ⟨rfl, q, rfl⟩
        have hg : W.grownBy (grow (putRow Go.Proofs.encStr (Sort.ahead W q) g 0 (Lib.compact zs ++ List.replicate (k - (Lib.compact zs).length) ([] : List UInt8)).toArray) #[]) (some g) := grownBy_sorted _
        rw [grow_empty] at hg
        exact ⟨rfl, hbel.grown hg hbel.size (fun j hj => by cases hj; exact hbase)⟩
      generalize (Lib.compact zs).length = m at *
      clear hH h1 h1' h2 h3 h4 hb hbase hgl hzl HO HR HSn HZ
      have Hv : Hid (R = ((m : Int) == (k : Int))) := by
        show _ = _
        rw [HR2.out]
        by_cases e : m = k
        · subst e; simp
        · rw [decide_eq_false e]
          symm
          rw [beq_eq_false_iff_ne]
          omega
      clear HR2
      go_wp2_with fail
      refine C1.mono ?_
      rintro e w1 ⟨rfl, nn, os, rfl⟩
      clear C1
      replace C2 := C2 nn os
      generalize grow (putRow Go.Proofs.encStr (Sort.ahead wr nn) g 0 zs.toArray) os = W at *
      go_wp2_with fail
      refine C2.mono ?_
      rintro e w2 ⟨rfl, b2⟩
      have HB2 : Hid (Below w.heap.size w w2) := b2
      clear C2 b2
      go_wp2_with fail
      go_ret
      exact ⟨ret_bo Hv.out.symm, HB2.out⟩

end Go.Proofs.YthipdkagkdnaiaaGreatDoor.Sg

namespace Go.Proofs.YthipdkagkdnaiaaGreatDoor.Sg
open Go.ChangeShapes Go.WideShapes Go.ChangeAt Go.RowKit

/-- An attribute is strict by itself. -/
def attrOk (p : AttrB) : Bool := stNameB p.1 && (!(p.1.toList == xmlnsB.toList) && stTextB p.2)

theorem attrsSt_iff (l : List AttrB) (m : Nat) : ∀ k, l.length - k = m → (attrsSt l k = true ↔ ∀ j, k ≤ j → ∀ h : j < l.length, attrSt l j (l[j]'h) = true) := by
  induction m with
  | zero =>
    intro k hk
    rw [attrsSt_end (by omega)]
    exact ⟨fun _ j h1 h2 => by omega, fun _ => rfl⟩
  | succ m ih =>
    intro k hk
    have hlt : k < l.length := by omega
    rw [attrsSt_step hlt, Bool.and_eq_true, ih (k + 1) (by omega)]
    constructor
    · rintro ⟨h1, h2⟩ j hj hjl
      by_cases e : j = k
      · subst e
        exact h1
      · exact h2 j (by omega) hjl
    · intro h
      exact ⟨h k (Nat.le_refl _) hlt, fun j hj hjl => h j (by omega) hjl⟩
theorem hasA_iff (l : List AttrB) (x : ByteArray) : hasA l x = true ↔ dL x ∈ anames l := by
  unfold hasA anames
  rw [List.any_eq_true, List.mem_map]
  constructor
  · rintro ⟨p, hp, he⟩
    rw [beq_iff_eq, ByteArray.toList_eq, ByteArray.toList_eq] at he
    exact ⟨p, hp, he⟩
  · rintro ⟨p, hp, he⟩
    refine ⟨p, hp, ?_⟩
    rw [beq_iff_eq, ByteArray.toList_eq, ByteArray.toList_eq]
    exact he
theorem unlike_iff (l : List AttrB) : unlikeB l = true ↔ ∀ j, ∀ h : j < l.length, hasA (l.take j) (l[j]'h).1 = false := by
  unfold unlikeB
  rw [decide_eq_true_iff]
  have hln : (anames l).length = l.length := by unfold anames; rw [List.length_map]
  have hat : ∀ i (h : i < l.length), (anames l)[i]'(by omega) = dL (l[i]'h).1 := fun i h => by simp [anames]
  constructor
  · intro hn j hj
    cases hh : hasA (l.take j) (l[j]'hj).1
    · rfl
    · rw [hasA_iff] at hh
      unfold anames at hh
      obtain ⟨p, hp, he⟩ := List.mem_map.1 hh
      obtain ⟨i, hi, hpi⟩ := List.getElem_of_mem hp
      rw [List.length_take] at hi
      rw [List.getElem_take] at hpi
      have h1 := List.pairwise_iff_getElem.1 hn i j (by omega) (by omega) (by omega)
      rw [hat i (by omega), hat j hj, hpi] at h1
      exact absurd he h1
  · intro h
    refine List.pairwise_iff_getElem.2 fun i j hi hj hij e => ?_
    have h1 := h j (by omega)
    rw [hat i (by omega), hat j (by omega)] at e
    have h2 : hasA (l.take j) (l[j]'(by omega)).1 = true := by
      rw [hasA_iff]
      unfold anames
      refine List.mem_map.2 ⟨l[i]'(by omega), ?_, e⟩
      exact List.mem_take_iff_getElem.2 ⟨i, by omega, rfl⟩
    rw [h1] at h2
    cases h2
theorem attrsSt_eq (l : List AttrB) : attrsSt l 0 = (unlikeB l && l.all attrOk) := by
  have h1 := attrsSt_iff l l.length 0 rfl
  have h2 := unlike_iff l
  have h3 : l.all attrOk = true ↔ ∀ j, ∀ h : j < l.length, attrOk (l[j]'h) = true := by
    rw [List.all_eq_true]
    constructor
    · exact fun h j hj => h _ (List.getElem_mem hj)
    · intro h p hp
      obtain ⟨i, hi, rfl⟩ := List.getElem_of_mem hp
      exact h i hi
  have key : ∀ j, ∀ h : j < l.length, attrSt l j (l[j]'h) = (attrOk (l[j]'h) && !hasA (l.take j) (l[j]'h).1) := fun j h => by
    unfold attrSt attrOk
    simp only [Bool.and_assoc]
  rw [Bool.eq_iff_iff, h1, Bool.and_eq_true, h2, h3]
  constructor
  · intro h
    refine ⟨fun j hj => ?_, fun j hj => ?_⟩
    · have := h j (Nat.zero_le _) hj
      rw [key j hj, Bool.and_eq_true] at this
      simpa using this.2
    · have := h j (Nat.zero_le _) hj
      rw [key j hj, Bool.and_eq_true] at this
      exact this.1
  · rintro ⟨ha, hb⟩ j _ hj
    rw [key j hj, ha j hj, hb j hj]
    rfl

end Go.Proofs.YthipdkagkdnaiaaGreatDoor.Sg

namespace Go.Proofs.YthipdkagkdnaiaaGreatDoor.Sg
open Go.ChangeShapes Go.WideShapes Go.ChangeAt Go.RowKit

/-- A block has two cells that may be written. -/
def Two (w : World) (b : Nat) (x y : Value) : Prop :=
  b < w.heap.size ∧ w.cell? ⟨b, 0, none⟩ = some x ∧ w.cell? ⟨b, 1, none⟩ = some y ∧ w.frozen? ⟨b, 0, none⟩ = false ∧ w.frozen? ⟨b, 1, none⟩ = false
theorem Two.new (w : World) (x y : Value) (t : TypeId) : Two (w.alloc (.cells #[x, y] t)) w.heap.size x y :=
  ⟨by simp, by simp, by simp, by simp, by simp⟩
theorem Two.below {w w' : World} {b : Nat} {x y : Value} (h : Two w b x y) {B : Nat} (hB : b < B) (hb : Below B w w') : Two w' b x y :=
  ⟨Nat.lt_of_lt_of_le h.1 hb.size, (hb.cell hB).trans h.2.1, (hb.cell hB).trans h.2.2.1, (hb.frozen hB).trans h.2.2.2.1, (hb.frozen hB).trans h.2.2.2.2⟩
theorem Two.alloc {w : World} {b : Nat} {x y : Value} (h : Two w b x y) (o : Obj) : Two (w.alloc o) b x y :=
  h.below h.1 ((Below.refl _ _).alloc (Nat.le_refl _) _)
theorem Two.set {w : World} {b : Nat} {x y : Value} (h : Two w b x y) (x' y' : Value) : Two ((w.setCell ⟨b, 0, none⟩ x').setCell ⟨b, 1, none⟩ y') b x' y' :=
  ⟨by simpa using h.1, (World.cell?_setCell_other _ _ _ _ (by simp)).trans (World.cell?_setCell_same _ _ _ h.2.1), World.cell?_setCell_same _ _ _ ((World.cell?_setCell_other _ _ _ _ (by simp)).trans h.2.2.1), by simpa using h.2.2.2.1, by simpa using h.2.2.2.2⟩

end Go.Proofs.YthipdkagkdnaiaaGreatDoor.Sg

namespace Go.Proofs.YthipdkagkdnaiaaGreatDoor.Sg
open Go.ChangeShapes Go.WideShapes Go.ChangeAt Go.RowKit

set_option maxHeartbeats 1000000 in
/-- Two attributes are compared name by name, value by value. -/
theorem eq_attr (a b c d : ByteArray) (w : World) : (Op.equalIn 10000 73 (.agg #[.string a, .string b]) (.agg #[.string c, .string d])).run Tryz.prog w = .ok (a.toList == c.toList && b.toList == d.toList) w := by
  have u3 := Tryz.underlying9
  have a3 := Tryz.isAgg9
  have z3 := Tryz.sizeOf9
  have hS : Tryz.prog.underlying 73 = some (.struct (Tryz.prog.fieldsOf 73)) := by kernel_rfl
  rw [show (10000 : Nat) = 9999 + 1 from rfl, run_equalIn_agg w 9999 73 _ _ hS (by kernel_rfl)]
  simp only [Program.fieldsOf, Tryz.underlying73]
  go_simp
  by_cases h1 : a.toList = c.toList <;> by_cases h2 : b.toList = d.toList <;> simp [h1, h2]

end Go.Proofs.YthipdkagkdnaiaaGreatDoor.Sg

namespace Go.Proofs.YthipdkagkdnaiaaGreatDoor.Sg
open Go.ChangeShapes Go.WideShapes Go.ChangeAt Go.RowKit

/-- The attribute of that name; the empty one where there is none. -/
def findA : List AttrB → ByteArray → AttrB
  | [], _ => (⟨#[]⟩, ⟨#[]⟩)
  | p :: l, x => if p.1.toList == x.toList then p else findA l x
theorem findA_drop (l : List AttrB) (x : ByteArray) (k : Nat) (h : k < l.length) : findA (l.drop k) x = if (l.getD k (ByteArray.empty, ByteArray.empty)).1.toList == x.toList then l.getD k (ByteArray.empty, ByteArray.empty) else findA (l.drop (k + 1)) x := by
  have e : l.getD k (ByteArray.empty, ByteArray.empty) = l[k]'h := by simp [List.getD, h]
  rw [List.drop_eq_getElem_cons h, findA, e]
theorem findA_none (l : List AttrB) (x : ByteArray) (h : hasA l x = false) : findA l x = (⟨#[]⟩, ⟨#[]⟩) := by
  induction l with
  | nil => rfl
  | cons p l ih =>
    unfold hasA at h
    rw [List.any_cons] at h
    have h1 : (p.1.toList == x.toList) = false := by
      cases hh : p.1.toList == x.toList
      · rfl
      · rw [hh] at h; cases h
    rw [h1] at h
    rw [findA, h1]
    exact ih h
theorem findA_some (l : List AttrB) (x : ByteArray) (h : hasA l x = true) : (findA l x).1.toList = x.toList := by
  induction l with
  | nil => cases h
  | cons p l ih =>
    rw [findA]
    cases hh : p.1.toList == x.toList
    · unfold hasA at h
      rw [List.any_cons, hh] at h
      exact ih h
    · exact beq_iff_eq.1 hh

set_option maxHeartbeats 2000000 in
theorem implAttrNamed (l : List AttrB) (x : ByteArray) (a : Option Addr) (n cap : Nat) (w : World) (ha : AttrsAt w a l) (hl : l.length = n) (hn : n ≤ 17592186044416) (y z : ByteArray) (Hy : Hid (findA l x = (y, z))) :
    Calls Tryz.prog 77 #[.slice a n cap, .string x] w fun e w' => e = .returned (.agg #[.string y, .string z]) ∧ Below w.heap.size w w' := by
  have Hl : Hid (l.length = n) := hl
  have Ha : Hid (AttrsAt w a l) := ha
  clear hl ha
  go_enter Tryz.func77, Tryz.ntmps77
  go_wp2
  go_loopw [9] (fun v wr => ∃ k : Nat, k ≤ n ∧ v = .int .i64 (k : Int) ∧ Hid (findA (l.drop k) x = (y, z)) ∧ Below w.heap.size w wr ∧ Hid (Two wr w.heap.size (.string ⟨#[]⟩) (.string ⟨#[]⟩))) (fun v _ => n - (intOf v).toNat)
  case atStart => exact ⟨0, Nat.zero_le _, rfl, Hy, (Below.refl _ _).alloc (Nat.le_refl _) _, Two.new _ _ _ _⟩
  case round =>
    obtain ⟨k, hk, rfl, Hsp, hbel, HT⟩ := hrel
    obtain ⟨z0, t0, t1, f0, f1⟩ := HT.out
    by_cases hlt : k < n
    · have hkl : k < l.length := by rw [Hl.out]; exact hlt
      rcases Ha.out with h | ⟨b, rfl, hb, hc⟩
      · rw [h] at hkl
        exact absurd hkl (Nat.not_lt_zero _)
      have hd := findA_drop l x k hkl
      obtain ⟨c1, c2⟩ := hc k hkl
      clear hc hkl
      have c1' := (hbel.cell (p := ⟨b, k * 2, none⟩) hb).trans c1
      have c2' := (hbel.cell (p := ⟨b, k * 2 + 1, none⟩) hb).trans c2
      clear c1 c2
      generalize l.getD k (ByteArray.empty, ByteArray.empty) = p at *
      obtain ⟨p1, p2⟩ := p
      have k0 : (0 : Int) ≤ (k : Int) := by omega
      have k1 : (k : Int) < (n : Int) := by omega
      cases hq : p1.toList == x.toList
      · have Hn : Hid (findA (l.drop (k + 1)) x = (y, z)) := by
          show _ = _
          rw [← Hsp.out, hd]
          simp only [hq]
          rfl
        clear hd Hsp
        go_wp2_with fail
        go_roundw
        case rel => exact ⟨k + 1, by omega, by go_num, Hn, hbel.alloc hbel.size _, HT.out.alloc _⟩
        case measure => simp [intOf]; omega
      · have Hn : Hid ((p1, p2) = (y, z)) := by
          show _ = _
          rw [← Hsp.out, hd]
          simp only [hq]
          rfl
        have T := HT.out.set (.string p1) (.string p2)
        clear hd Hsp
        go_wp2_with fail
        have T2 := T.alloc (.cells #[.string p1, .string p2] 73)
        refine bodyPost_ret (v := .agg #[.string p1, .string p2]) ?_ rfl ⟨congrArg (fun q : AttrB => Ending.returned (.agg #[.string q.1, .string q.2])) Hn.out, ?_⟩
        · simp [results, Tryz.results77, go_sem, T2.2.1, T2.2.2.1]
        · exact ((hbel.setCell (Nat.le_refl _) _).setCell (Nat.le_refl _) _).alloc (by simp; omega) _
    · have Hn : Hid ((⟨#[]⟩, ⟨#[]⟩) = (y, z)) := by
        show _ = _
        rw [← Hsp.out, List.drop_eq_nil_of_le (by have := Hl.out; omega)]
        rfl
      have g0 : decide ((k : Int) < (n : Int)) = false := decide_eq_false (by omega)
      have T := HT.out.set (.string ⟨#[]⟩) (.string ⟨#[]⟩)
      clear Hsp
      go_wp2_with fail
      refine bodyPost_ret (v := .agg #[.string ⟨#[]⟩, .string ⟨#[]⟩]) ?_ rfl ⟨congrArg (fun q : AttrB => Ending.returned (.agg #[.string q.1, .string q.2])) Hn.out, ?_⟩
      · simp [results, Tryz.results77, go_sem, T.2.1, T.2.2.1]
      · exact (hbel.setCell (Nat.le_refl _) _).setCell (Nat.le_refl _) _

theorem eq_zero_yes (w : World) : (Op.equalIn 10000 73 (.agg #[.string ⟨#[]⟩, .string ⟨#[]⟩]) (.agg #[.string ⟨#[]⟩, .string ⟨#[]⟩])).run Tryz.prog w = .ok true w := by
  rw [eq_attr]
  simp
theorem eq_zero_no (y z : ByteArray) (h : y.toList ≠ []) (w : World) : (Op.equalIn 10000 73 (.agg #[.string y, .string z]) (.agg #[.string ⟨#[]⟩, .string ⟨#[]⟩])).run Tryz.prog w = .ok false w := by
  have e : (y.toList == (⟨#[]⟩ : ByteArray).toList) = false := by
    apply Bool.eq_false_iff.2
    intro h2
    apply h
    rw [beq_iff_eq.1 h2]
    exact ByteArray.toList_mk _
  rw [eq_attr, e]
  rfl

end Go.Proofs.YthipdkagkdnaiaaGreatDoor.Sg

namespace Go.Proofs.YthipdkagkdnaiaaGreatDoor.Sg
open Go.ChangeShapes Go.WideShapes Go.ChangeAt Go.RowKit

/-- Attributes from place i on, as they stand, and where they end. -/
def rawA (s : ByteArray) : Nat → Nat → Option (List AttrB × Nat)
  | 0, _ => none
  | f + 1, i =>
    if s.data[i]? = some 32 then
      if xaI s ((i : Int) + 1) < 0 then none
      else (rawA s f (xaI s ((i : Int) + 1)).toNat).map fun r => ((xaN s ((i : Int) + 1), xaV s ((i : Int) + 1)) :: r.1, r.2)
    else some ([], i)
def isX (p : AttrB) : Bool := p.1.toList == xmlnsB.toList
def besideA (l : List AttrB) : List AttrB := l.filter fun p => !isX p
/-- The space that attributes tell, a nought less where they tell none. -/
def toldM (about : Int) (l : List AttrB) : Option Int := if hasA l xmlnsB = true then (if spaceI (findA l xmlnsB).2 = about then none else some (spaceI (findA l xmlnsB).2)) else some about
def toldX (about : Int) (l : List AttrB) : Option Int := if hasA l xmlnsB = true then (if spaceI (findA l xmlnsB).2 = about ∨ spaceI (findA l xmlnsB).2 < 0 then none else some (spaceI (findA l xmlnsB).2)) else some about
def attrsQ (s : ByteArray) (about : Int) (i : Nat) : Option (List AttrB × Int × Nat) :=
  match rawA s (s.size + 1) i with
  | none => none
  | some r => if unlikeB r.1 = false then none else (toldX about r.1).map fun sp => (besideA r.1, sp, r.2)

theorem hasA_app (l m : List AttrB) (x : ByteArray) : hasA (l ++ m) x = (hasA l x || hasA m x) := by unfold hasA; rw [List.any_append]
theorem beside_app (l m : List AttrB) : besideA (l ++ m) = besideA l ++ besideA m := by unfold besideA; rw [List.filter_append]
theorem findA_new (l : List AttrB) (p : AttrB) (m : List AttrB) (x : ByteArray) (h : hasA l x = false) (hp : (p.1.toList == x.toList) = true) : findA (l ++ p :: m) x = p := by
  induction l with
  | nil => rw [List.nil_append, findA, if_pos hp]
  | cons q l ih =>
    unfold hasA at h
    rw [List.any_cons, Bool.or_eq_false_iff] at h
    rw [List.cons_append, findA, h.1]
    exact ih h.2
theorem findA_old (l m : List AttrB) (x : ByteArray) (h : hasA l x = true) : findA (l ++ m) x = findA l x := by
  induction l with
  | nil => cases h
  | cons q l ih =>
    rw [List.cons_append, findA, findA]
    cases hq : q.1.toList == x.toList
    · unfold hasA at h
      rw [List.any_cons, hq, Bool.false_or] at h
      exact ih h
    · rfl
theorem hasA_alike (l : List AttrB) {x y : ByteArray} (h : x.toList = y.toList) : hasA l x = hasA l y := by unfold hasA; rw [h]
theorem unlike_snoc (l : List AttrB) (p : AttrB) : unlikeB (l ++ [p]) = (unlikeB l && !hasA l p.1) := by
  unfold unlikeB
  have e : anames (l ++ [p]) = anames l ++ [dL p.1] := by unfold anames; rw [List.map_append]; rfl
  rw [e, Bool.eq_iff_iff, Bool.and_eq_true, decide_eq_true_iff, decide_eq_true_iff, Bool.not_eq_true', List.nodup_append]
  have hh := hasA_iff l p.1
  constructor
  · rintro ⟨h1, _, h3⟩
    refine ⟨h1, ?_⟩
    cases hx : hasA l p.1
    · rfl
    · exact absurd rfl (h3 _ (hh.1 hx) _ (List.mem_singleton.2 rfl))
  · rintro ⟨h1, h2⟩
    refine ⟨h1, by simp, fun a ha b hb e => ?_⟩
    rw [List.mem_singleton] at hb
    subst hb
    subst e
    rw [hh.2 ha] at h2
    cases h2
theorem unlike_less (l m : List AttrB) (h : unlikeB l = false) : unlikeB (l ++ m) = false := by
  cases hx : unlikeB (l ++ m)
  · rfl
  · unfold unlikeB at h hx
    rw [decide_eq_true_iff] at hx
    rw [decide_eq_false_iff_not] at h
    have e : anames (l ++ m) = anames l ++ anames m := by unfold anames; rw [List.map_append]
    rw [e, List.nodup_append] at hx
    exact absurd hx.1 h
theorem hasA_beside (l : List AttrB) {x : ByteArray} (h : (x.toList == xmlnsB.toList) = false) : hasA (besideA l) x = hasA l x := by
  induction l with
  | nil => rfl
  | cons p l ih =>
    unfold besideA at ih ⊢
    unfold hasA at ih ⊢
    rw [List.filter_cons, List.any_cons]
    cases hp : isX p
    · simp only [Bool.not_false, if_true]
      rw [List.any_cons, ih]
    · rw [if_neg (by decide), ih]
      have : (p.1.toList == x.toList) = false := by
        cases hq : p.1.toList == x.toList
        · rfl
        · unfold isX at hp
          rw [beq_iff_eq.1 hq, h] at hp
          cases hp
      rw [this, Bool.false_or]
theorem hasA_beside_x (l : List AttrB) {x : ByteArray} (h : (x.toList == xmlnsB.toList) = true) : hasA (besideA l) x = false := by
  rw [hasA_alike _ (beq_iff_eq.1 h)]
  unfold hasA besideA
  rw [List.any_filter, List.any_eq_false]
  intro p _
  unfold isX
  cases p.1.toList == xmlnsB.toList <;> simp

/-- What the model makes of attributes whose first ones are read. -/
def finA (about : Int) (pre : List AttrB) : Option (List AttrB × Nat) → Option (List AttrB × Int × Nat)
  | none => none
  | some r => if unlikeB (pre ++ r.1) = false then none else match toldM about (pre ++ r.1) with
    | none => none
    | some sp => if 0 ≤ sp ∧ sp ≤ 2 then some (besideA (pre ++ r.1), sp, r.2) else none
theorem finA_some (about : Int) (pre : List AttrB) (r : List AttrB × Nat) : finA about pre (some r) = if unlikeB (pre ++ r.1) = false then none else match toldM about (pre ++ r.1) with
    | none => none
    | some sp => if 0 ≤ sp ∧ sp ≤ 2 then some (besideA (pre ++ r.1), sp, r.2) else none := rfl
theorem attrsR_raw (s : ByteArray) (about : Int) : ∀ (f i : Nat) (pre : List AttrB) (sp : Int), unlikeB pre = true → toldM about pre = some sp → attrsR s about f i (besideA pre) sp (hasA pre xmlnsB) = finA about pre (rawA s f i)
  | 0, _, _, _, _, _ => rfl
  | f + 1, i, pre, sp, hu, ht => by
    rw [attrsR, rawA]
    by_cases h32 : s.data[i]? = some 32
    · rw [if_pos h32, if_pos h32]
      by_cases h0 : xaI s ((i : Int) + 1) < 0
      · rw [if_pos h0, if_pos h0]
        rfl
      rw [if_neg h0, if_neg h0]
      generalize xaN s ((i : Int) + 1) = x
      generalize xaV s ((i : Int) + 1) = v
      generalize (xaI s ((i : Int) + 1)).toNat = j
      have hm : finA about pre ((rawA s f j).map fun r => ((x, v) :: r.1, r.2)) = finA about (pre ++ [(x, v)]) (rawA s f j) := by
        cases rawA s f j with
        | none => rfl
        | some r =>
          show finA about pre (some ((x, v) :: r.1, r.2)) = finA about (pre ++ [(x, v)]) (some r)
          rw [finA_some, finA_some]
          simp only [List.append_assoc, List.cons_append, List.nil_append]
      rw [hm]
      have hbs : besideA (pre ++ [(x, v)]) = besideA pre ++ (if (x.toList == xmlnsB.toList) = true then [] else [(x, v)]) := by
        rw [beside_app]
        congr 1
        unfold besideA
        rw [List.filter_cons, List.filter_nil]
        show (if (!(x.toList == xmlnsB.toList)) = true then [(x, v)] else []) = _
        cases x.toList == xmlnsB.toList <;> rfl
      have hdead : ∀ r, hasA pre x = true → finA about (pre ++ [(x, v)]) r = none := fun r hx => by
        cases r with
        | none => rfl
        | some r =>
          rw [finA_some]
          rw [if_pos (unlike_less _ _ (by rw [unlike_snoc, hx, hu]; rfl))]
      cases hx : x.toList == xmlnsB.toList
      · rw [hasA_beside pre hx]
        cases hh : hasA pre x
        · rw [if_neg (by simp), if_neg (by simp)]
          have hu2 : unlikeB (pre ++ [(x, v)]) = true := by rw [unlike_snoc, hu, hh]; rfl
          have h1 : hasA [(x, v)] xmlnsB = false := by unfold hasA; simp [hx]
          have hx2 : hasA (pre ++ [(x, v)]) xmlnsB = hasA pre xmlnsB := by rw [hasA_app, h1, Bool.or_false]
          have ht2 : toldM about (pre ++ [(x, v)]) = some sp := by
            rw [← ht]
            unfold toldM
            rw [hx2]
            cases hp : hasA pre xmlnsB
            · rfl
            · rw [findA_old _ _ _ hp]
          have := attrsR_raw s about f j (pre ++ [(x, v)]) sp hu2 ht2
          rw [hx2, hbs, if_neg (by rw [hx]; decide)] at this
          exact this
        · rw [if_pos (.inl rfl), hdead _ hh]
      · rw [hasA_beside_x pre hx, hasA_alike pre (beq_iff_eq.1 hx)] at *
        cases hh : hasA pre xmlnsB
        · rw [if_neg (by simp), if_pos rfl]
          have hu2 : unlikeB (pre ++ [(x, v)]) = true := by rw [unlike_snoc, hu, hasA_alike pre (beq_iff_eq.1 hx), hh]; rfl
          have hx2 : hasA (pre ++ [(x, v)]) xmlnsB = true := by
            rw [hasA_app, Bool.or_eq_true]
            right
            unfold hasA
            simpa using beq_iff_eq.1 hx
          have hf : ∀ m, findA (pre ++ (x, v) :: m) xmlnsB = (x, v) := fun m => findA_new pre (x, v) m xmlnsB hh hx
          by_cases hab : spaceI v = about
          · rw [if_pos hab]
            cases rawA s f j with
            | none => rfl
            | some r =>
              show none = finA about (pre ++ [(x, v)]) (some r)
              rw [finA_some]
              split
              · rfl
              · have : toldM about (pre ++ [(x, v)] ++ r.1) = none := by
                  unfold toldM
                  rw [if_pos (by rw [hasA_app, hx2]; rfl), List.append_assoc, List.cons_append, List.nil_append, hf, if_pos hab]
                rw [this]
          · rw [if_neg hab]
            have ht2 : toldM about (pre ++ [(x, v)]) = some (spaceI v) := by
              unfold toldM
              rw [if_pos hx2, hf, if_neg hab]
            have := attrsR_raw s about f j (pre ++ [(x, v)]) (spaceI v) hu2 ht2
            rw [hx2, hbs, if_pos hx, List.append_nil] at this
            exact this
        · rw [if_pos (.inr ⟨rfl, rfl⟩), hdead _ hh]
    · rw [if_neg h32, if_neg h32]
      have hu2 : ¬ (unlikeB pre = false) := by rw [hu]; decide
      rw [finA_some, List.append_nil, if_neg hu2, ht]
/-- The model's attributes are the program's, where the space that these tell is one. -/
theorem attrsR_some {s : ByteArray} {about : Int} {i : Nat} {r : List AttrB × Int × Nat} (h : attrsR s about (s.size + 1) i [] about false = some r) : attrsQ s about i = some r := by
  have h2 := attrsR_raw s about (s.size + 1) i [] about rfl rfl
  have e1 : besideA [] = [] := rfl
  have e2 : hasA [] xmlnsB = false := rfl
  rw [e1, e2, h] at h2
  unfold attrsQ
  cases hr : rawA s (s.size + 1) i with
  | none => rw [hr] at h2; cases h2
  | some q =>
    rw [hr] at h2
    rw [finA_some, List.nil_append] at h2
    split at h2
    · cases h2
    · rename_i hu
      simp only
      rw [if_neg hu]
      split at h2
      · cases h2
      · rename_i sp hsp
        split at h2
        · rename_i h3
          injection h2 with h2
          have : toldX about q.1 = some sp := by
            unfold toldM at hsp
            unfold toldX
            split at hsp
            · rename_i hx
              rw [if_pos hx]
              split at hsp
              · cases hsp
              · rename_i hne
                injection hsp with hsp
                rw [if_neg (by rw [hsp] at hne ⊢; intro h; rcases h with h | h; exact hne h; omega), hsp]
            · rename_i hx
              rw [if_neg hx]
              exact hsp
          rw [this, h2]
          rfl
        · cases h2
theorem attrsR_none {s : ByteArray} {about : Int} {i : Nat} (h : attrsR s about (s.size + 1) i [] about false = none) : attrsQ s about i = none ∨ ∃ l sp j, attrsQ s about i = some (l, sp, j) ∧ ¬ (0 ≤ sp ∧ sp ≤ 2) := by
  have h2 := attrsR_raw s about (s.size + 1) i [] about rfl rfl
  have e1 : besideA [] = [] := rfl
  have e2 : hasA [] xmlnsB = false := rfl
  rw [e1, e2, h] at h2
  unfold attrsQ
  cases hr : rawA s (s.size + 1) i with
  | none => exact .inl rfl
  | some q =>
    rw [hr] at h2
    rw [finA_some, List.nil_append] at h2
    simp only
    split at h2
    · rename_i hu
      rw [if_pos hu]
      exact .inl rfl
    · rename_i hu
      rw [if_neg hu]
      split at h2
      · rename_i hsp
        left
        have : toldX about q.1 = none := by
          unfold toldM at hsp
          unfold toldX
          split at hsp
          · rename_i hx
            rw [if_pos hx]
            split at hsp
            · rename_i he
              rw [if_pos (.inl he)]
            · cases hsp
          · cases hsp
        rw [this]
        rfl
      · rename_i sp hsp
        split at h2
        · cases h2
        · rename_i h3
          cases ht : toldX about q.1 with
          | none => exact .inl rfl
          | some sp' =>
            refine .inr ⟨_, _, _, rfl, ?_⟩
            have : sp' = sp := by
              unfold toldM at hsp
              unfold toldX at ht
              split at hsp
              · rename_i hx
                rw [if_pos hx] at ht
                split at hsp
                · cases hsp
                · split at ht
                  · cases ht
                  · injection hsp with hsp
                    injection ht with ht
                    rw [← hsp, ← ht]
              · rename_i hx
                rw [if_neg hx] at ht
                injection hsp with hsp
                injection ht with ht
                rw [← hsp, ← ht]
            rw [this]
            exact h3

/-- An element from place i on, as the program reads it. -/
def elQ (s : ByteArray) : Nat → Nat → Nat → Int → Option (ElB × Nat)
  | 0, _, _, _ => none
  | m + 1, deep, i, about =>
    if standsB s i ltS = false ∨ deep = 0 then none
    else if (xnS s ((i + 1 : Nat) : Int)).size = 0 then none
    else match attrsQ s about (xnI s ((i + 1 : Nat) : Int)).toNat with
      | none => none
      | some r =>
        if standsB s r.2.2 slashGt = true then some (.mk 1 r.2.1 (xnS s ((i + 1 : Nat) : Int)) r.1 ⟨#[]⟩ [], r.2.2 + 2)
        else if standsB s r.2.2 gtS = false then none
        else match kidsL s (fun q => elQ s m (deep - 1) q r.2.1) (s.size + 1) (r.2.2 + 1) with
          | none => none
          | some k => if standsB s k.2 (ltSlash ++ xnS s ((i + 1 : Nat) : Int) ++ gtS) = true then some (.mk 1 r.2.1 (xnS s ((i + 1 : Nat) : Int)) r.1 ⟨#[]⟩ k.1, k.2 + (ltSlash ++ xnS s ((i + 1 : Nat) : Int) ++ gtS).size) else none

/-- The second reads what the first one reads; what it reads besides is not strict. -/
def LikeE (a b : Option (ElB × Nat)) : Prop := (∀ x, a = some x → b = some x) ∧ (a = none → ∀ x, b = some x → okE x.1 = false)
def LikeL (a b : Option (List ElB × Nat)) : Prop := (∀ x, a = some x → b = some x) ∧ (a = none → ∀ x, b = some x → ∃ e ∈ x.1, okE e = false)
theorem okEs_bad : ∀ (es : List ElB) (pk : Int), (∃ e ∈ es, okE e = false) → okEs pk es = false
  | [], _, h => by obtain ⟨e, he, _⟩ := h; cases he
  | x :: es, pk, h => by
    rw [okEs]
    obtain ⟨e, he, hb⟩ := h
    rcases List.mem_cons.1 he with rfl | he
    · rw [hb]; rfl
    · rw [okEs_bad es _ ⟨e, he, hb⟩, Bool.and_false]
theorem kids_like (s : ByteArray) (a b : Nat → Option (ElB × Nat)) (h : ∀ i, LikeE (a i) (b i)) : ∀ (f i : Nat), LikeL (kidsL s a f i) (kidsL s b f i)
  | 0, i => ⟨fun x hx => (by cases hx), fun _ x hx => by cases hx⟩
  | f + 1, i => by
    have step : ∀ (e : ElB) (j : Nat), LikeL ((kidsL s a f j).map fun r => (e :: r.1, r.2)) ((kidsL s b f j).map fun r => (e :: r.1, r.2)) := fun e j => by
      have ih := kids_like s a b h f j
      constructor
      · intro x hx
        obtain ⟨r, hr, rfl⟩ := Option.map_eq_some_iff.1 hx
        rw [ih.1 r hr]
        rfl
      · intro hn x hx
        have hn' := Option.map_eq_none_iff.1 hn
        obtain ⟨r, hr, rfl⟩ := Option.map_eq_some_iff.1 hx
        obtain ⟨y, hy, hb⟩ := ih.2 hn' r hr
        exact ⟨y, List.mem_cons_of_mem _ hy, hb⟩
    rw [kidsL, kidsL]
    split
    · exact ⟨fun x hx => hx, fun hn => (by cases hn)⟩
    · split
      · exact ⟨fun x hx => hx, fun _ x hx => by cases hx⟩
      · split
        · split
          · exact ⟨fun x hx => hx, fun _ x hx => by cases hx⟩
          · exact step _ _
        · split
          · have hi := h i
            cases ha : a i with
            | none =>
              refine ⟨fun x hx => (by cases hx), fun _ x hx => ?_⟩
              cases hb : b i with
              | none => rw [hb] at hx; cases hx
              | some y =>
                rw [hb] at hx
                obtain ⟨r, hr, rfl⟩ := Option.map_eq_some_iff.1 hx
                exact ⟨y.1, List.mem_cons_self, hi.2 ha y hb⟩
            | some y =>
              rw [hi.1 y ha]
              exact step y.1 y.2
          · split
            · exact ⟨fun x hx => hx, fun _ x hx => by cases hx⟩
            · exact step _ _
theorem el_like (s : ByteArray) : ∀ (m deep i : Nat) (about : Int), LikeE (elM s m deep i about) (elQ s m deep i about)
  | 0, _, _, _ => ⟨fun x hx => (by cases hx), fun _ x hx => by cases hx⟩
  | m + 1, deep, i, about => by
    rw [elM, elQ]
    split
    · exact ⟨fun x hx => hx, fun _ x hx => by cases hx⟩
    · split
      · exact ⟨fun x hx => hx, fun _ x hx => by cases hx⟩
      · generalize xnS s ((i + 1 : Nat) : Int) = nm
        generalize (xnI s ((i + 1 : Nat) : Int)).toNat = j
        cases hr : attrsR s about (s.size + 1) j [] about false with
        | none =>
          refine ⟨fun x hx => (by cases hx), fun _ x hx => ?_⟩
          rcases attrsR_none hr with hq | ⟨l, sp, q, hq, hsp⟩
          · rw [hq] at hx
            cases hx
          · rw [hq] at hx
            have bad : ∀ ks, okE (.mk 1 sp nm l ⟨#[]⟩ ks) = false := fun ks => by
              have : inP sp (0, 2) = false := by
                cases hi : inP sp (0, 2)
                · rfl
                · exact absurd (inP_rd.1 hi) hsp
              rw [okE, okSelf, if_pos rfl, this, Bool.false_and, Bool.and_false]
            simp only at hx
            split at hx
            · injection hx with hx
              rw [← hx]
              exact bad _
            · split at hx
              · cases hx
              · split at hx
                · cases hx
                · split at hx
                  · injection hx with hx
                    rw [← hx]
                    exact bad _
                  · cases hx
        | some r =>
          rw [attrsR_some hr]
          simp only
          split
          · exact ⟨fun x hx => hx, fun hn => (by cases hn)⟩
          · split
            · exact ⟨fun x hx => hx, fun _ x hx => by cases hx⟩
            · have hk := kids_like s _ _ (fun q => el_like s m (deep - 1) q r.2.1) (s.size + 1) (r.2.2 + 1)
              cases hk1 : kidsL s (fun q => elM s m (deep - 1) q r.2.1) (s.size + 1) (r.2.2 + 1) with
              | none =>
                refine ⟨fun x hx => (by cases hx), fun _ x hx => ?_⟩
                cases hk2 : kidsL s (fun q => elQ s m (deep - 1) q r.2.1) (s.size + 1) (r.2.2 + 1) with
                | none => rw [hk2] at hx; cases hx
                | some k =>
                  rw [hk2] at hx
                  simp only at hx
                  split at hx
                  · injection hx with hx
                    rw [← hx, okE, okEs_bad _ _ (hk.2 hk1 k hk2), Bool.false_and]
                  · cases hx
              | some k =>
                rw [hk.1 k hk1]
                simp only
                split
                · exact ⟨fun x hx => hx, fun hn => (by cases hn)⟩
                · exact ⟨fun x hx => hx, fun _ x hx => by cases hx⟩

theorem doc_like (s : ByteArray) (a b : Nat → Option (ElB × Nat)) (h : ∀ i, LikeE (a i) (b i)) : ∀ (f i : Nat), (∀ l, docL s a f i = some l → docL s b f i = some l) ∧ (docL s a f i = none → ∀ l, docL s b f i = some l → ∃ e ∈ l, okE e = false)
  | 0, i => ⟨fun x hx => (by cases hx), fun _ x hx => by cases hx⟩
  | f + 1, i => by
    have step : ∀ (e : ElB) (j : Nat), (∀ l, (docL s a f j).map (fun r => e :: r) = some l → (docL s b f j).map (fun r => e :: r) = some l) ∧ ((docL s a f j).map (fun r => e :: r) = none → ∀ l, (docL s b f j).map (fun r => e :: r) = some l → ∃ e ∈ l, okE e = false) := fun e j => by
      have ih := doc_like s a b h f j
      constructor
      · intro x hx
        obtain ⟨r, hr, rfl⟩ := Option.map_eq_some_iff.1 hx
        rw [ih.1 r hr]
        rfl
      · intro hn x hx
        have hn' := Option.map_eq_none_iff.1 hn
        obtain ⟨r, hr, rfl⟩ := Option.map_eq_some_iff.1 hx
        obtain ⟨y, hy, hb⟩ := ih.2 hn' r hr
        exact ⟨y, List.mem_cons_of_mem _ hy, hb⟩
    rw [docL, docL]
    split
    · exact ⟨fun x hx => hx, fun hn => (by cases hn)⟩
    · split
      · split
        · exact ⟨fun x hx => hx, fun _ x hx => by cases hx⟩
        · split
          · exact step _ _
          · exact ⟨fun x hx => hx, fun _ x hx => by cases hx⟩
      · have hi := h i
        cases ha : a i with
        | none =>
          refine ⟨fun x hx => (by cases hx), fun _ x hx => ?_⟩
          cases hb : b i with
          | none => rw [hb] at hx; cases hx
          | some y =>
            rw [hb] at hx
            simp only at hx
            split at hx
            · obtain ⟨r, hr, rfl⟩ := Option.map_eq_some_iff.1 hx
              exact ⟨y.1, List.mem_cons_self, hi.2 ha y hb⟩
            · cases hx
        | some y =>
          rw [hi.1 y ha]
          simp only
          split
          · exact step _ _
          · exact ⟨fun x hx => hx, fun _ x hx => by cases hx⟩
theorem docF_bad : ∀ (es : List ElB) (t n : Nat), (∃ e ∈ es, okE e = false) → docF t n es = false
  | [], _, _, h => by obtain ⟨e, he, _⟩ := h; cases he
  | x :: es, t, n, h => by
    rw [docF]
    split
    · rename_i hs
      refine docF_bad es _ _ ?_
      obtain ⟨e, he, hb⟩ := h
      rcases List.mem_cons.1 he with rfl | he
      · have := hs.1
        unfold strictE at this
        rw [hb, Bool.and_false] at this
        cases this
      · exact ⟨e, he, hb⟩
    · rfl
/-- What the program reads of a strict text. -/
def readQ (s : ByteArray) : Option (List ElB) :=
  if 200000 < s.size ∨ standsB s 0 xmlHead = false then none
  else match docL s (fun q => elQ s (s.size + 1) 60 q (-1)) (s.size + 1) 22 with
    | none => none
    | some l => if docF 0 0 l = true then some l else none
theorem readQ_eq (s : ByteArray) : readQ s = readR s := by
  unfold readQ readR
  split
  · rfl
  · have h := doc_like s _ _ (fun q => el_like s (s.size + 1) 60 q (-1)) (s.size + 1) 22
    cases hm : docL s (fun q => elM s (s.size + 1) 60 q (-1)) (s.size + 1) 22 with
    | some l => rw [h.1 l hm]
    | none =>
      cases hq : docL s (fun q => elQ s (s.size + 1) 60 q (-1)) (s.size + 1) 22 with
      | none => rfl
      | some l => simp only [docF_bad l 0 0 (h.2 hm l hq)]; rfl

theorem rawA_size (s : ByteArray) : ∀ (f i : Nat) (r : List AttrB × Nat), rawA s f i = some r → i ≤ s.size → i ≤ r.2 ∧ r.2 ≤ s.size ∧ attrsW r.1 ≤ 5 * (r.2 - i)
  | 0, _, _, h, _ => by cases h
  | f + 1, i, r, h, hi => by
    rw [rawA] at h
    split at h
    · split at h
      · cases h
      · rename_i hx
        obtain ⟨j, ej, hj, hj2, hj3⟩ := xaI_le hx
        have et : (xaI s ((i : Int) + 1)).toNat = j := by omega
        rw [et] at h
        obtain ⟨r', hr', rfl⟩ := Option.map_eq_some_iff.1 h
        have := rawA_size s f j r' hr' hj2
        have e : attrsW ((xaN s ((i : Int) + 1), xaV s ((i : Int) + 1)) :: r'.1) = attrsW r'.1 + 1 + ((xaN s ((i : Int) + 1)).size + (xaV s ((i : Int) + 1)).size) := by
          unfold attrsW attrW
          simp
          omega
        simp only
        rw [e]
        omega
    · injection h with h
      rw [← h]
      have e1 : attrsW ([] : List AttrB) = 0 := rfl
      simp only
      rw [e1]
      omega
theorem attrsW_beside (l : List AttrB) : attrsW (besideA l) ≤ attrsW l := by
  induction l with
  | nil => exact Nat.le_refl _
  | cons p l ih =>
    have e : ∀ (q : AttrB) (m : List AttrB), attrsW (q :: m) = attrsW m + 1 + (q.1.size + q.2.size) := fun q m => by
      unfold attrsW attrW
      simp
      omega
    unfold besideA at ih ⊢
    rw [List.filter_cons]
    split
    · rw [e, e]
      omega
    · rw [e]
      omega
theorem attrsQ_size {s : ByteArray} {about : Int} {i : Nat} {r : List AttrB × Int × Nat} (h : attrsQ s about i = some r) (hi : i ≤ s.size) : i ≤ r.2.2 ∧ r.2.2 ≤ s.size ∧ attrsW r.1 ≤ 5 * (r.2.2 - i) := by
  unfold attrsQ at h
  split at h
  · cases h
  · rename_i q hq
    have h1 := rawA_size s _ i q hq hi
    split at h
    · cases h
    · obtain ⟨sp, _, rfl⟩ := Option.map_eq_some_iff.1 h
      have := attrsW_beside q.1
      exact ⟨h1.1, h1.2.1, by simp only; omega⟩
theorem elQ_size (s : ByteArray) : ∀ (m deep : Nat) (about : Int), ElSz s (fun i => elQ s m deep i about)
  | 0, _, _ => fun k e j _ h => by cases h
  | m + 1, deep, about => fun i e j hi h => by
    simp only [elQ] at h
    split at h
    · cases h
    · rename_i h1
      have hst : standsB s i ltS = true := by
        cases e : standsB s i ltS
        · exact absurd (.inl e) h1
        · rfl
      have hi1 := stands_le hst
      have u1 : ltS.size = 1 := rfl
      rw [u1] at hi1
      split at h
      · cases h
      · obtain ⟨j1, ej1, hj1, hj2, hj3⟩ := xnI_le (s := s) (k := i + 1) hi1
        have et : (xnI s ((i + 1 : Nat) : Int)).toNat = j1 := by omega
        rw [et] at h
        have e0 : (⟨#[]⟩ : ByteArray).size = 0 := rfl
        have e2 : elsW ([] : List ElB) = 0 := by unfold elsW; rfl
        split at h
        · cases h
        · rename_i r hr
          have ha := attrsQ_size hr hj2
          split at h
          · rename_i hsl
            have h2 := stands_le hsl
            have u2 : slashGt.size = 2 := rfl
            injection h with h
            injection h with h3 h4
            rw [← h3, ← h4]
            unfold elW
            rw [e0, e2, List.length_nil]
            omega
          · split at h
            · cases h
            · rename_i hgt
              have hgt' : standsB s r.2.2 gtS = true := by
                cases e : standsB s r.2.2 gtS
                · exact absurd e hgt
                · rfl
              have h2 := stands_le hgt'
              have u2 : gtS.size = 1 := rfl
              split at h
              · cases h
              · rename_i k hk
                have h5 := kids_size s (fun q => elQ s m (deep - 1) q r.2.1) (elQ_size s m (deep - 1) r.2.1) _ _ k hk (by omega)
                split at h
                · rename_i hcl
                  have h6 := stands_le hcl
                  have u3 : ltSlash.size = 2 := rfl
                  have u4 : (ltSlash ++ xnS s ((i + 1 : Nat) : Int) ++ gtS).size = 2 + (xnS s ((i + 1 : Nat) : Int)).size + 1 := by
                    simp only [ByteArray.size_append]
                    rw [u2, u3]
                  injection h with h
                  injection h with h3 h4
                  rw [← h3, ← h4]
                  unfold elW
                  rw [e0]
                  omega
                · cases h

end Go.Proofs.YthipdkagkdnaiaaGreatDoor.Sg

namespace Go.Proofs.YthipdkagkdnaiaaGreatDoor.Sg

theorem stands_gen {s : ByteArray} {p : Nat} (t : List UInt8) (h : p ≤ s.size) : standsB s p (strB t) = t.isPrefixOf (tailL s p) := by
  obtain ⟨e, hl⟩ := ptail_all s p h
  have h1 := stands_pre (s.data.toList.take p) (tailL s p) t
  rw [hl, ← e] at h1
  exact h1
theorem search_none {s t : ByteArray} : ∀ (d k : Nat), s.size + 1 - k ≤ d → (∀ p, k ≤ p → standsB s p t = false) → searchE s k t = none := by
  intro d
  induction d with
  | zero =>
    intro k hd _
    exact searchE_end (by omega)
  | succ d ih =>
    intro k hd h
    by_cases h1 : k + t.size ≤ s.size
    · rw [searchE_no h1 (h k (Nat.le_refl _))]
      exact ih (k + 1) (by omega) fun p hp => h p (by omega)
    · exact searchE_end h1
theorem search_hit {s t : ByteArray} {m : Nat} (hm : standsB s m t = true) : ∀ (d k : Nat), m - k ≤ d → k ≤ m → (∀ p, k ≤ p → p < m → standsB s p t = false) → searchE s k t = some m := by
  have hle := stands_le hm
  intro d
  induction d with
  | zero =>
    intro k hd hk _
    obtain rfl : k = m := by omega
    exact searchE_yes hm
  | succ d ih =>
    intro k hd hk h
    by_cases hkm : k = m
    · subst hkm
      exact searchE_yes hm
    · rw [searchE_no (by omega) (h k (Nat.le_refl _) (by omega))]
      exact ih (k + 1) (by omega) (by omega) fun p h1 h2 => h p (by omega) h2
theorem search_two {s : ByteArray} {k : Nat} (hk : k ≤ s.size) : searchE s k twoB = if 0 ≤ Lib.index (tailL s k) [45, 45] then some (k + (Lib.index (tailL s k) [45, 45]).toNat) else none := by
  have hlen := tailL_length s k
  have hocc : ∀ j, k + j ≤ s.size → Lib.occAt (tailL s k) [45, 45] j = standsB s (k + j) twoB := by
    intro j hj
    unfold Lib.occAt
    rw [tailL_drop]
    exact (stands_gen [45, 45] hj).symm
  rcases Lib.index_spec (tailL s k) [45, 45] with ⟨e1, e2⟩ | ⟨i, e1, e2, e3, e4⟩
  · rw [e1, if_neg (by decide)]
    refine search_none (s.size + 1) k (by omega) fun p hp => ?_
    by_cases hps : p ≤ s.size
    · have h1 := hocc (p - k) (by omega)
      rw [show k + (p - k) = p by omega, e2 (p - k) (by omega)] at h1
      exact h1.symm
    · unfold standsB
      rw [decide_eq_false (by omega), Bool.false_and]
  · rw [e1, if_pos (by omega), show ((i : Nat) : Int).toNat = i from rfl]
    have h3 := hocc i (by omega)
    rw [e3] at h3
    refine search_hit h3.symm i k (by omega) (by omega) fun p h1 h2 => ?_
    have h4 := hocc (p - k) (by omega)
    rw [show k + (p - k) = p by omega, e4 (p - k) (by omega)] at h4
    exact h4.symm
/-- What the program tells of a note: where it ends. -/
def noteP (s : ByteArray) (k : Nat) : Option Nat :=
  if Lib.hasPrefix (tailL s k) [60, 33, 45, 45] then
    if 0 ≤ Lib.index (tailL s (k + 4)) [45, 45] then
      let m := k + 4 + (Lib.index (tailL s (k + 4)) [45, 45]).toNat
      if stNoteB (s.extract (k + 4) m) && Lib.hasPrefix (tailL s (m + 2)) [62] then some m else none
    else none
  else none
theorem noteP_eq {s : ByteArray} {k : Nat} (hk : k ≤ s.size) : xnoteR s k = noteP s k := by
  have ho : standsB s k openNoteB = Lib.hasPrefix (tailL s k) [60, 33, 45, 45] := stands_gen [60, 33, 45, 45] hk
  unfold xnoteR noteP
  rw [ho]
  cases hp : Lib.hasPrefix (tailL s k) [60, 33, 45, 45]
  · rfl
  · rw [hp] at ho
    have h4 : k + 4 ≤ s.size := stands_le ho
    rw [if_pos rfl, if_pos rfl, search_two h4]
    rcases Lib.index_spec (tailL s (k + 4)) [45, 45] with ⟨e1, e2⟩ | ⟨i, e1, e2, e3, e4⟩
    · rw [e1, if_neg (by decide), if_neg (by decide)]
    · rw [e1, if_pos (by omega), if_pos (by omega), show ((i : Nat) : Int).toNat = i from rfl]
      have hroom := Lib.index_room (tailL s (k + 4)) [45, 45] (by omega)
      have hlen := tailL_length s (k + 4)
      rw [e1] at hroom
      simp only [List.length_cons, List.length_nil] at hroom
      have hs : standsB s (k + 4 + i) shutNoteB = Lib.hasPrefix (tailL s (k + 4 + i + 2)) [62] := by
        rw [show shutNoteB = strB [45, 45, 62] from rfl, stands_gen [45, 45, 62] (by omega)]
        unfold Lib.occAt at e3
        rw [tailL_drop, List.isPrefixOf_iff_prefix] at e3
        obtain ⟨r, hr⟩ := e3
        have hr2 : tailL s (k + 4 + i + 2) = r := by
          rw [← tailL_drop s (k + 4 + i) 2, ← hr]
          rfl
        rw [hr2, ← hr]
        rfl
      simp only
      rw [hs, Bool.and_comm]

end Go.Proofs.YthipdkagkdnaiaaGreatDoor.Sg
