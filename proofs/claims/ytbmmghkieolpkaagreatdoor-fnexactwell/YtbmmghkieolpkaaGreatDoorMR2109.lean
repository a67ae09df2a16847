/- Plain: texts that are sorted, of which runs of like ones are one. The beginning of a row that is owned. Contract of the program's unlikeNames: no name of attributes stands twice. Plain: attributes are strict just where each is so by itself, and no name stands twice. A block of two cells. Attributes compared as structs. Contract of the program's attrNamed. -/
import Derived.Test.YtbmmghkieolpkaaGreatDoorSgOk
import Derived.OwnWalk
import Derived.Lib.SlicesCompact
import Derived.Sort.Walk0
import Derived.Sort.OwnSorted
import Derived.Test.YtbmmghkieolpkaaGreatDoorMR2103
import Derived.Test.YtbmmghkieolpkaaGreatDoorMR2119
import Derived.Laws.AppendOwn
import Derived.Laws.MakeOwn
import Derived.Below
import Derived.ArgAppend
namespace Go.Proofs.YtbmmghkieolpkaaGreatDoor.Sg
open Go.ChangeShapes Go.WideShapes Go.ChangeAt Go.RowKit Go.Sort

theorem le_or (a b : List UInt8) (h : a ≤ b) (hn : a ≠ b) : a < b := by
  by_cases h1 : a < b
  · exact h1
  · exact absurd (List.le_antisymm h (List.not_lt.1 h1)) hn

/-- Lists in strict order with the same members are one. -/
theorem eq_of_members : ∀ (a b : List (List UInt8)), a.Pairwise (· < ·) → b.Pairwise (· < ·) → (∀ x, x ∈ a ↔ x ∈ b) → a = b
  | [], [], _, _, _ => rfl
  | [], y :: b, _, _, h => absurd ((h y).2 List.mem_cons_self) List.not_mem_nil
  | x :: a, [], _, _, h => absurd ((h x).1 List.mem_cons_self) List.not_mem_nil
  | x :: a, y :: b, ha, hb, h => by
    rw [List.pairwise_cons] at ha hb
    have e : x = y := by
      rcases List.mem_cons.1 ((h x).1 List.mem_cons_self) with e | m1
      · exact e
      · rcases List.mem_cons.1 ((h y).2 List.mem_cons_self) with e | m2
        · exact e.symm
        · exact absurd (List.lt_trans (hb.1 x m1) (ha.1 y m2)) (List.lt_irrefl _)
    subst e
    rw [eq_of_members a b ha.2 hb.2 fun z => ?_]
    constructor
    · intro m
      rcases List.mem_cons.1 ((h z).1 (List.mem_cons_of_mem _ m)) with e | m1
      · subst e
        exact absurd (ha.1 _ m) (List.lt_irrefl _)
      · exact m1
    · intro m
      rcases List.mem_cons.1 ((h z).2 (List.mem_cons_of_mem _ m)) with e | m1
      · subst e
        exact absurd (hb.1 _ m) (List.lt_irrefl _)
      · exact m1

/-- What is kept of a sorted list is in strict order, and no member is lost. -/
theorem compact_upto (ts : List (List UInt8)) (hs : ts.Pairwise (· ≤ ·)) : ∀ m, m ≤ ts.length →
    (Lib.compactUpTo ts.toArray m).Pairwise (· < ·) ∧ ∀ x, x ∈ Lib.compactUpTo ts.toArray m ↔ ∃ j, j < m ∧ ts.toArray[j]! = x
  | 0, _ => ⟨by simp [Lib.compactUpTo], fun x => by simp [Lib.compactUpTo]⟩
  | m + 1, hm => by
    obtain ⟨h1, h2⟩ := compact_upto ts hs m (by omega)
    have le : ∀ i j, i ≤ j → j < ts.length → ts.toArray[i]! ≤ ts.toArray[j]! := fun i j hij hj => by
      have ei : ts.toArray[i]! = ts[i]'(by omega) := by simp [getElem!_pos, show i < ts.length by omega]
      have ej : ts.toArray[j]! = ts[j] := by simp [getElem!_pos, hj]
      rw [ei, ej]
      by_cases e : i = j
      · subst e
        exact List.le_refl _
      · exact List.pairwise_iff_getElem.1 hs i j (by omega) hj (by omega)
    rw [Lib.compactUpTo_succ]
    cases hk : Lib.keeps ts.toArray m with
    | true =>
      rw [if_pos rfl]
      constructor
      · rw [List.pairwise_append]
        refine ⟨h1, List.pairwise_singleton _ _, fun x hx y hy => ?_⟩
        obtain ⟨j, hj, rfl⟩ := (h2 x).1 hx
        rw [List.mem_singleton.1 hy]
        have hne : ts.toArray[m]! ≠ ts.toArray[m - 1]! := by
          rcases of_decide_eq_true hk with e | e
          · omega
          · exact e
        have l1 := le j (m - 1) (by omega) (by omega)
        have l2 := le (m - 1) m (by omega) (by omega)
        exact List.lt_of_le_of_lt l1 (le_or _ _ l2 hne.symm)
      · intro x
        rw [List.mem_append, h2 x, List.mem_singleton]
        constructor
        · rintro (⟨j, hj, e⟩ | e)
          · exact ⟨j, by omega, e⟩
          · exact ⟨m, by omega, e.symm⟩
        · rintro ⟨j, hj, e⟩
          by_cases e1 : j = m
          · subst e1
            exact .inr e.symm
          · exact .inl ⟨j, by omega, e⟩
    | false =>
      rw [if_neg (by decide), List.append_nil]
      refine ⟨h1, fun x => ?_⟩
      rw [h2 x]
      have hd := of_decide_eq_false hk
      have hm0 : m ≠ 0 := fun e => hd (.inl e)
      have he : ts.toArray[m]! = ts.toArray[m - 1]! := Decidable.byContradiction fun e => hd (.inr e)
      constructor
      · rintro ⟨j, hj, e⟩
        exact ⟨j, by omega, e⟩
      · rintro ⟨j, hj, e⟩
        by_cases e1 : j = m
        · subst e1
          exact ⟨j - 1, by omega, by rw [← he]; exact e⟩
        · exact ⟨j, by omega, e⟩
theorem compact_sorted (ts : List (List UInt8)) (hs : ts.Pairwise (· ≤ ·)) : (Lib.compact ts).Pairwise (· < ·) ∧ ∀ x, x ∈ Lib.compact ts ↔ x ∈ ts := by
  obtain ⟨h1, h2⟩ := compact_upto ts hs ts.length (Nat.le_refl _)
  refine ⟨h1, fun x => (h2 x).trans ⟨?_, fun h => ?_⟩⟩
  · rintro ⟨j, hj, rfl⟩
    rw [show ts.toArray[j]! = ts[j] by simp [getElem!_pos, hj]]
    exact List.getElem_mem hj
  · obtain ⟨j, hj, rfl⟩ := List.getElem_of_mem h
    exact ⟨j, hj, by simp [getElem!_pos, hj]⟩
theorem compact_len (ts : List (List UInt8)) : (Lib.compact ts).length ≤ ts.length := by
  unfold Lib.compact Lib.compactUpTo
  rw [List.length_map]
  have := List.length_filter_le (Lib.keeps ts.toArray) (List.range ts.length)
  rw [List.length_range] at this
  exact this

def dL (s : ByteArray) : List UInt8 := s.data.toList
theorem dL_inj {s t : ByteArray} (h : dL s = dL t) : s = t := by
  obtain ⟨⟨a⟩⟩ := s
  obtain ⟨⟨b⟩⟩ := t
  unfold dL at h
  simp at h
  rw [h]
theorem sorted_msB (ss : List (List UInt8)) : (ss.mergeSort fun x y => decide (x ≤ y)).Pairwise (· ≤ ·) := by
  have h := List.pairwise_mergeSort (le := fun x y : List UInt8 => decide (x ≤ y)) (fun a b c h1 h2 => by simp only [decide_eq_true_eq] at *; exact List.le_trans h1 h2) (fun a b => by simp only [Bool.or_eq_true, decide_eq_true_eq]; exact List.le_total a b) ss
  exact h.imp fun {a b} h1 => of_decide_eq_true h1

theorem keeps_all {ts : List (List UInt8)} (h : (Lib.compact ts).length = ts.length) : Lib.compact ts = ts := by
  unfold Lib.compact Lib.compactUpTo at h ⊢
  rw [List.length_map] at h
  have hf : (List.range ts.length).filter (Lib.keeps ts.toArray) = List.range ts.length := by
    refine List.filter_eq_self.2 ?_
    refine List.length_filter_eq_length_iff.1 ?_
    rw [h, List.length_range]
  rw [hf]
  refine List.ext_getElem (by simp) fun k h1 h2 => ?_
  simp [h2]
/-- As many are left as there were just where none stands twice. -/
theorem compact_nodup (ss : List (List UInt8)) : (Lib.compact (ss.mergeSort fun x y => decide (x ≤ y))).length = ss.length ↔ ss.Nodup := by
  have hs := sorted_msB ss
  have hp : (ss.mergeSort fun x y => decide (x ≤ y)).Perm ss := List.mergeSort_perm _ _
  rw [← hp.nodup_iff, ← hp.length_eq]
  generalize (ss.mergeSort fun x y => decide (x ≤ y)) = ts at *
  obtain ⟨h1, h2⟩ := compact_sorted ts hs
  constructor
  · intro h
    rw [keeps_all h] at h1
    exact h1.imp fun {a b} hab e => by
      subst e
      exact List.lt_irrefl _ hab
  · intro hn
    have h3 : ts.Pairwise (· < ·) := List.Pairwise.imp₂ (fun a b hab hne => le_or a b hab hne) hs hn
    rw [eq_of_members _ _ h1 h3 h2]

/-- The beginning of a row that is owned. -/
theorem owns_cut {w : World} {base g cap n m : Nat} {e : TypeId} {xs : List Value} (h : w.ownsRow base e 1 (.slice (some ⟨g, 0, none⟩) n cap) n xs) (hm : m ≤ n) : w.ownsRow base e 1 (.slice (some ⟨g, 0, none⟩) m cap) m (xs.take m) := by
  obtain ⟨h1, h2⟩ := h
  rcases h2 with ⟨h2, _⟩ | ⟨g', cap', cur, hv, h3, h4, h5, h6, h7, h8⟩
  · cases h2
  · cases hv
    refine ⟨by rw [List.length_take, h1]; omega, .inr ⟨g, cap, cur, rfl, h3, h4, by omega, h6, h7, ?_⟩⟩
    rw [← h8, List.take_take]
    congr 1
    omega

end Go.Proofs.YtbmmghkieolpkaaGreatDoor.Sg

namespace Go.Proofs.YtbmmghkieolpkaaGreatDoor.Sg
open Go.ChangeShapes Go.WideShapes Go.ChangeAt Go.RowKit Go.Sort

theorem info_strU : (Tryz.prog.info? 9).map (fun i => (i.zero, i.size, i.bytes)) = some (some (.string ⟨#[]⟩), 1, 16) := by kernel_rfl
theorem one_cellU (w : World) (x : Value) (t : TypeId) (b : Nat) (hb : b = w.heap.size) : ∀ j u, ([x])[j]? = some u → (w.alloc (.cells #[x] t)).cell? ((⟨b, 0, none⟩ : Addr).add j) = some u := by
  intro j u hj
  subst hb
  match j, hj with
  | 0, hj => simp at hj; subst hj; simp [Addr.add]

/-- The names of attributes. -/
def anames (l : List AttrB) : List (List UInt8) := l.map fun p => dL p.1
/-- No name stands twice. -/
def unlikeB (l : List AttrB) : Bool := decide (anames l).Nodup
theorem anames_step (l : List AttrB) (k : Nat) (h : k < l.length) : anames (l.take (k + 1)) = anames (l.take k) ++ [dL (l[k]'h).1] := by
  unfold anames
  rw [List.take_succ_eq_append_getElem h, List.map_append]
  rfl

set_option maxRecDepth 100000 in
set_option maxHeartbeats 8000000 in
theorem implUnlike (l : List AttrB) (a : Option Addr) (n cap : Nat) (w : World) (ha : AttrsAt w a l) (hl : l.length = n) (hn : n ≤ 16777216) :
    Calls Tryz.prog 76 #[.slice a n cap] w fun e w' => e = .returned (.bool (unlikeB l)) ∧ Below w.heap.size w w' := by
  obtain ⟨i0, hi, hz0, hz1, hz2⟩ := info_parts info_strU
  have HA : Hid (AttrsAt w a l) := ha
  have Hl : Hid (l.length = n) := hl
  have HR : Hid (unlikeB l = decide ((Lib.compact ((anames l).mergeSort fun x y => decide (x ≤ y))).length = n)) := by
    show _ = _
    unfold unlikeB
    have := compact_nodup (anames l)
    rw [show (anames l).length = n by unfold anames; rw [List.length_map, hl]] at this
    exact decide_eq_decide.2 this.symm
  generalize unlikeB l = R at *
  clear ha hl
  obtain ⟨Wm, hmk, hem, gm⟩ := run_make_own (P := Tryz.prog) w w.heap.size 119 9 i0 (.string ⟨#[]⟩) 1 Tryz.underlying119 hi hz0 hz1 .i64 .i64 n (by rw [hz2]; omega) (by unfold maxLen; omega) (Nat.le_refl _)
  have HE : Hid (Wm.ownsRow w.heap.size 9 1 (.slice (some ⟨w.heap.size, 0, none⟩) 0 n) 0 []) := hem
  have HBm : Hid (Below w.heap.size w Wm) := (Below.refl _ w).grown gm (Nat.le_refl _) (fun k e => by cases e)
  clear hem gm
  go_enter Tryz.func76, Tryz.ntmps76
  go_wp2_with fail
  go_loopw [3, 5, 11] (fun ov _ iv wr => ∃ (k : Nat) (ss : List (List UInt8)), k ≤ n ∧ iv = .int .i64 k ∧ Hid (ss.length = k) ∧ Hid (ss = anames (l.take k)) ∧ Hid (wr.ownsRow w.heap.size 9 1 ov k (ss.map Go.Proofs.encStr)) ∧ Hid (ov ≠ .slice none 0 0) ∧ Hid (Below w.heap.size w wr)) (fun _ _ iv _ => n - (intOf iv).toNat)
  case atStart => exact ⟨0, [], Nat.zero_le _, rfl, rfl, by show [] = _; rfl, HE, (by intro h; cases h), HBm⟩
  case round =>
    clear HE HBm hmk
    obtain ⟨k, ss, hk, rfl, Hm, HS, HO, HNn, HB⟩ := hrel
    have k0 : (0 : Int) ≤ (k : Int) := by omega
    by_cases hlt : k < n
    · have hkl : k < l.length := by rw [Hl.out]; exact hlt
      have k1 : (k : Int) < (n : Int) := by omega
      obtain ⟨b, rfl, c0, c1⟩ := attrs_one (HA.out.below HB.out) k hkl
      have HSs : Hid (ss ++ [dL (l[k]'hkl).1] = anames (l.take (k + 1))) := by show _ = _; rw [anames_step l k hkl, ← HS.out]
      generalize l[k]'hkl = p at *
      obtain ⟨nm, vl⟩ := p
      simp only at c0 c1 HSs
      have Hmn : Hid ((ss ++ [dL nm]).length = k + 1) := by show _ = _; rw [List.length_append, Hm.out]; rfl
      have hbs := HB.out.size
      have hO := HO.out
      have hone : ∀ y ∈ [Go.Proofs.encStr (dL nm)], y.oneCell' = true := by simp [Value.oneCell', Go.Proofs.encStr]
      have h63 : k + 1 ≤ maxLen := by unfold maxLen; omega
      have hbyt : (k + 1) * 16 ≤ 140737488355328 := by omega
      go_wp2_with (first
        | (at_builtin; refine wpList_append_own _ rfl _ _ 119 rfl w.heap.size 9 i0 (.string ⟨#[]⟩) 1 16 Tryz.underlying119 hi hz0 hz1 hz2 rfl (by decide) _ _ _ rfl ((hO.alloc _).alloc _) ⟨wr.heap.size + 1, 0, none⟩ 1 1 [Go.Proofs.encStr (dL nm)] rfl rfl (one_cellU _ _ _ _ (by simp)) hone h63 hbyt (by simp; omega) ?_; intro v3 w3 o3 g3 hnil3)
        | go_in)
      have B2 : Below w.heap.size w ((wr.alloc (.cells #[.string nm, .string vl] 73)).alloc (.cells #[.string nm] 9)) := (HB.out.alloc hbs _).alloc (by simp; omega) _
      have B3 : Hid (Below w.heap.size w w3) := grown_below ((hO.alloc _).alloc _) B2 (Nat.le_refl _) g3 (by simp; omega)
      have O3 : Hid (w3.ownsRow w.heap.size 9 1 v3 (k + 1) ((ss ++ [dL nm]).map Go.Proofs.encStr)) := by show World.ownsRow _ _ _ _ _ _ _; rw [List.map_append]; exact o3
      have N3 : Hid (v3 ≠ .slice none 0 0) := fun e => absurd (hnil3.1 e).2 (by decide)
      clear o3 g3 hO B2 hone hnil3
      go_roundw
      case rel => exact ⟨k + 1, _, by omega, by go_num, Hmn, HSs, O3, N3, B3⟩
      case measure => simp [intOf]; omega
    · have hkn : k = n := by omega
      subst hkn
      have g1 : decide ((k : Int) < (k : Int)) = false := by simp
      have HSn : Hid (ss = anames l) := by show _ = _; rw [HS.out, List.take_of_length_le (by rw [Hl.out]; exact Nat.le_refl _)]
      rcases HO.out.2 with ⟨h0, _⟩ | ⟨g, oc, cur, rfl, hbase, hb, h1, h2, h3, h4⟩
      · exact absurd h0 HNn.out
      have h1' : ss.length ≤ oc := by rw [Hm.out]; exact h1
      have hH : Holds Go.Proofs.encStr wr g 0 ss.toArray := holds_of_block hb (by rw [Hm.out]; simpa using h4)
      have hgl : g < wr.heap.size := (Array.getElem?_eq_some_iff.1 hb).1
      have C1 := Tryz.slices_Sort_string g 0 oc ss wr hH hgl (by rw [Hm.out]; omega)
      rw [Hm.out] at C1
      obtain ⟨zs, HZ⟩ : ∃ zs, Hid (zs = ss.mergeSort fun x y => decide (x ≤ y)) := ⟨_, rfl⟩
      rw [← HZ.out] at C1
      have hzl : zs.length = ss.length := by rw [HZ.out]; simp
      have HR2 : Hid (R = decide ((Lib.compact zs).length = k)) := by show _ = _; rw [HR.out, HZ.out, HSn.out]
      have C2 : ∀ nn os, Calls Tryz.prog 102 #[.slice (some ⟨g, 0, none⟩) k oc] (grow (putRow Go.Proofs.encStr (Sort.ahead wr nn) g 0 zs.toArray) os) fun e w' => e = .returned (.slice (some ⟨g, 0, none⟩) (Lib.compact zs).length oc) ∧ Below w.heap.size w w' := by
        intro nn os
        have hrow := ownsRow_sorted (n := nn) (os := os) hzl hbase hb h1' h2 h3
        have hbel : Below w.heap.size w (grow (putRow Go.Proofs.encStr (Sort.ahead wr nn) g 0 zs.toArray) os) := HB.out.grown (grownBy_sorted _) HB.out.size (fun j hj => by cases hj; exact hbase)
        generalize grow (putRow Go.Proofs.encStr (Sort.ahead wr nn) g 0 zs.toArray) os = W at *
        rcases hrow.2 with ⟨hv, _⟩ | ⟨g', oc', cur', hv, hbase', hb', e1, e2, e3, e4⟩
        · cases hv
        cases hv
        have hH' : Holds Go.Proofs.encStr W g 0 zs.toArray := holds_of_block hb' (by rw [hzl]; simpa using e4)
        have C := Tryz.slices_Compact_string g 0 oc zs W hH' (by rw [hzl, Hm.out]; omega) (by rw [hzl]; exact e1)
        rw [hzl, Hm.out] at C
        refine C.mono ?_
        rintro e w' ⟨rfl, q, rfl⟩
        have hg : W.grownBy (grow (putRow Go.Proofs.encStr (Sort.ahead W q) g 0 (Lib.compact zs ++ List.replicate (k - (Lib.compact zs).length) ([] : List UInt8)).toArray) #[]) (some g) := grownBy_sorted _
        rw [grow_empty] at hg
        exact ⟨rfl, hbel.grown hg hbel.size (fun j hj => by cases hj; exact hbase)⟩
      generalize (Lib.compact zs).length = m at *
      clear hH h1 h1' h2 h3 h4 hb hbase hgl hzl HO HR HSn HZ
      have Hv : Hid (R = ((m : Int) == (k : Int))) := by
        show _ = _
        rw [HR2.out]
        by_cases e : m = k
        · subst e; simp
        · rw [decide_eq_false e]
          symm
          rw [beq_eq_false_iff_ne]
          omega
      clear HR2
      go_wp2_with fail
      refine C1.mono ?_
      rintro e w1 ⟨rfl, nn, os, rfl⟩
      clear C1
      replace C2 := C2 nn os
      generalize grow (putRow Go.Proofs.encStr (Sort.ahead wr nn) g 0 zs.toArray) os = W at *
      go_wp2_with fail
      refine C2.mono ?_
      rintro e w2 ⟨rfl, b2⟩
      have HB2 : Hid (Below w.heap.size w w2) := b2
      clear C2 b2
      go_wp2_with fail
      go_ret
      exact ⟨ret_bo Hv.out.symm, HB2.out⟩

end Go.Proofs.YtbmmghkieolpkaaGreatDoor.Sg

namespace Go.Proofs.YtbmmghkieolpkaaGreatDoor.Sg
open Go.ChangeShapes Go.WideShapes Go.ChangeAt Go.RowKit

/-- An attribute is strict by itself. -/
def attrOk (p : AttrB) : Bool := stNameB p.1 && (!(p.1.toList == xmlnsB.toList) && stTextB p.2)

theorem attrsSt_iff (l : List AttrB) (m : Nat) : ∀ k, l.length - k = m → (attrsSt l k = true ↔ ∀ j, k ≤ j → ∀ h : j < l.length, attrSt l j (l[j]'h) = true) := by
  induction m with
  | zero =>
    intro k hk
    rw [attrsSt_end (by omega)]
    exact ⟨fun _ j h1 h2 => by omega, fun _ => rfl⟩
  | succ m ih =>
    intro k hk
    have hlt : k < l.length := by omega
    rw [attrsSt_step hlt, Bool.and_eq_true, ih (k + 1) (by omega)]
    constructor
    · rintro ⟨h1, h2⟩ j hj hjl
      by_cases e : j = k
      · subst e
        exact h1
      · exact h2 j (by omega) hjl
    · intro h
      exact ⟨h k (Nat.le_refl _) hlt, fun j hj hjl => h j (by omega) hjl⟩
theorem hasA_iff (l : List AttrB) (x : ByteArray) : hasA l x = true ↔ dL x ∈ anames l := by
  unfold hasA anames
  rw [List.any_eq_true, List.mem_map]
  constructor
  · rintro ⟨p, hp, he⟩
    rw [beq_iff_eq, ByteArray.toList_eq, ByteArray.toList_eq] at he
    exact ⟨p, hp, he⟩
  · rintro ⟨p, hp, he⟩
    refine ⟨p, hp, ?_⟩
    rw [beq_iff_eq, ByteArray.toList_eq, ByteArray.toList_eq]
    exact he
theorem unlike_iff (l : List AttrB) : unlikeB l = true ↔ ∀ j, ∀ h : j < l.length, hasA (l.take j) (l[j]'h).1 = false := by
  unfold unlikeB
  rw [decide_eq_true_iff]
  have hln : (anames l).length = l.length := by unfold anames; rw [List.length_map]
  have hat : ∀ i (h : i < l.length), (anames l)[i]'(by omega) = dL (l[i]'h).1 := fun i h => by simp [anames]
  constructor
  · intro hn j hj
    cases hh : hasA (l.take j) (l[j]'hj).1
    · rfl
    · rw [hasA_iff] at hh
      unfold anames at hh
      obtain ⟨p, hp, he⟩ := List.mem_map.1 hh
      obtain ⟨i, hi, hpi⟩ := List.getElem_of_mem hp
      rw [List.length_take] at hi
      rw [List.getElem_take] at hpi
      have h1 := List.pairwise_iff_getElem.1 hn i j (by omega) (by omega) (by omega)
      rw [hat i (by omega), hat j hj, hpi] at h1
      exact absurd he h1
  · intro h
    refine List.pairwise_iff_getElem.2 fun i j hi hj hij e => ?_
    have h1 := h j (by omega)
    rw [hat i (by omega), hat j (by omega)] at e
    have h2 : hasA (l.take j) (l[j]'(by omega)).1 = true := by
      rw [hasA_iff]
      unfold anames
      refine List.mem_map.2 ⟨l[i]'(by omega), ?_, e⟩
      exact List.mem_take_iff_getElem.2 ⟨i, by omega, rfl⟩
    rw [h1] at h2
    cases h2
theorem attrsSt_eq (l : List AttrB) : attrsSt l 0 = (unlikeB l && l.all attrOk) := by
  have h1 := attrsSt_iff l l.length 0 rfl
  have h2 := unlike_iff l
  have h3 : l.all attrOk = true ↔ ∀ j, ∀ h : j < l.length, attrOk (l[j]'h) = true := by
    rw [List.all_eq_true]
    constructor
    · exact fun h j hj => h _ (List.getElem_mem hj)
    · intro h p hp
      obtain ⟨i, hi, rfl⟩ := List.getElem_of_mem hp
      exact h i hi
  have key : ∀ j, ∀ h : j < l.length, attrSt l j (l[j]'h) = (attrOk (l[j]'h) && !hasA (l.take j) (l[j]'h).1) := fun j h => by
    unfold attrSt attrOk
    simp only [Bool.and_assoc]
  rw [Bool.eq_iff_iff, h1, Bool.and_eq_true, h2, h3]
  constructor
  · intro h
    refine ⟨fun j hj => ?_, fun j hj => ?_⟩
    · have := h j (Nat.zero_le _) hj
      rw [key j hj, Bool.and_eq_true] at this
      simpa using this.2
    · have := h j (Nat.zero_le _) hj
      rw [key j hj, Bool.and_eq_true] at this
      exact this.1
  · rintro ⟨ha, hb⟩ j _ hj
    rw [key j hj, ha j hj, hb j hj]
    rfl

end Go.Proofs.YtbmmghkieolpkaaGreatDoor.Sg

namespace Go.Proofs.YtbmmghkieolpkaaGreatDoor.Sg
open Go.ChangeShapes Go.WideShapes Go.ChangeAt Go.RowKit

/-- A block has two cells that may be written. -/
def Two (w : World) (b : Nat) (x y : Value) : Prop :=
  b < w.heap.size ∧ w.cell? ⟨b, 0, none⟩ = some x ∧ w.cell? ⟨b, 1, none⟩ = some y ∧ w.frozen? ⟨b, 0, none⟩ = false ∧ w.frozen? ⟨b, 1, none⟩ = false
theorem Two.new (w : World) (x y : Value) (t : TypeId) : Two (w.alloc (.cells #[x, y] t)) w.heap.size x y :=
  ⟨by simp, by simp, by simp, by simp, by simp⟩
theorem Two.below {w w' : World} {b : Nat} {x y : Value} (h : Two w b x y) {B : Nat} (hB : b < B) (hb : Below B w w') : Two w' b x y :=
  ⟨Nat.lt_of_lt_of_le h.1 hb.size, (hb.cell hB).trans h.2.1, (hb.cell hB).trans h.2.2.1, (hb.frozen hB).trans h.2.2.2.1, (hb.frozen hB).trans h.2.2.2.2⟩
theorem Two.alloc {w : World} {b : Nat} {x y : Value} (h : Two w b x y) (o : Obj) : Two (w.alloc o) b x y :=
  h.below h.1 ((Below.refl _ _).alloc (Nat.le_refl _) _)
theorem Two.other {w : World} {b c i : Nat} {x y : Value} (h : Two w b x y) (hB : c ≠ b) (v : Value) : Two (w.setCell ⟨c, i, none⟩ v) b x y :=
  ⟨by simpa using h.1, (World.cell?_setCell_other _ _ _ _ (fun e => hB (congrArg Addr.block e))).trans h.2.1, (World.cell?_setCell_other _ _ _ _ (fun e => hB (congrArg Addr.block e))).trans h.2.2.1, by simpa using h.2.2.2.1, by simpa using h.2.2.2.2⟩
theorem Two.set {w : World} {b : Nat} {x y : Value} (h : Two w b x y) (x' y' : Value) : Two ((w.setCell ⟨b, 0, none⟩ x').setCell ⟨b, 1, none⟩ y') b x' y' :=
  ⟨by simpa using h.1, (World.cell?_setCell_other _ _ _ _ (by simp)).trans (World.cell?_setCell_same _ _ _ h.2.1), World.cell?_setCell_same _ _ _ ((World.cell?_setCell_other _ _ _ _ (by simp)).trans h.2.2.1), by simpa using h.2.2.2.1, by simpa using h.2.2.2.2⟩

end Go.Proofs.YtbmmghkieolpkaaGreatDoor.Sg

namespace Go.Proofs.YtbmmghkieolpkaaGreatDoor.Sg
open Go.ChangeShapes Go.WideShapes Go.ChangeAt Go.RowKit

set_option maxHeartbeats 1000000 in
/-- Two attributes are compared name by name, value by value. -/
theorem eq_attr (a b c d : ByteArray) (w : World) : (Op.equalIn 10000 73 (.agg #[.string a, .string b]) (.agg #[.string c, .string d])).run Tryz.prog w = .ok (a.toList == c.toList && b.toList == d.toList) w := by
  have u3 := Tryz.underlying9
  have a3 := Tryz.isAgg9
  have z3 := Tryz.sizeOf9
  have hS : Tryz.prog.underlying 73 = some (.struct (Tryz.prog.fieldsOf 73)) := by kernel_rfl
  rw [show (10000 : Nat) = 9999 + 1 from rfl, run_equalIn_agg w 9999 73 _ _ hS (by kernel_rfl)]
  simp only [Program.fieldsOf, Tryz.underlying73]
  go_simp
  by_cases h1 : a.toList = c.toList <;> by_cases h2 : b.toList = d.toList <;> simp [h1, h2]

end Go.Proofs.YtbmmghkieolpkaaGreatDoor.Sg

namespace Go.Proofs.YtbmmghkieolpkaaGreatDoor.Sg
open Go.ChangeShapes Go.WideShapes Go.ChangeAt Go.RowKit

/-- The attribute of that name; the empty one where there is none. -/
def findA : List AttrB → ByteArray → AttrB
  | [], _ => (⟨#[]⟩, ⟨#[]⟩)
  | p :: l, x => if p.1.toList == x.toList then p else findA l x
theorem findA_drop (l : List AttrB) (x : ByteArray) (k : Nat) (h : k < l.length) : findA (l.drop k) x = if (l.getD k (ByteArray.empty, ByteArray.empty)).1.toList == x.toList then l.getD k (ByteArray.empty, ByteArray.empty) else findA (l.drop (k + 1)) x := by
  have e : l.getD k (ByteArray.empty, ByteArray.empty) = l[k]'h := by simp [List.getD, h]
  rw [List.drop_eq_getElem_cons h, findA, e]
theorem findA_none (l : List AttrB) (x : ByteArray) (h : hasA l x = false) : findA l x = (⟨#[]⟩, ⟨#[]⟩) := by
  induction l with
  | nil => rfl
  | cons p l ih =>
    unfold hasA at h
    rw [List.any_cons] at h
    have h1 : (p.1.toList == x.toList) = false := by
      cases hh : p.1.toList == x.toList
      · rfl
      · rw [hh] at h; cases h
    rw [h1] at h
    rw [findA, h1]
    exact ih h
theorem findA_some (l : List AttrB) (x : ByteArray) (h : hasA l x = true) : (findA l x).1.toList = x.toList := by
  induction l with
  | nil => cases h
  | cons p l ih =>
    rw [findA]
    cases hh : p.1.toList == x.toList
    · unfold hasA at h
      rw [List.any_cons, hh] at h
      exact ih h
    · exact beq_iff_eq.1 hh

theorem Two.get {w : World} {b : Nat} {x y : Value} (h : Two w b x y) : w.cell? ⟨b, 0, none⟩ = some x ∧ w.cell? ⟨b, 1, none⟩ = some y := ⟨h.2.1, h.2.2.1⟩

set_option maxHeartbeats 2000000 in
theorem implAttrNamed (l : List AttrB) (x : ByteArray) (a : Option Addr) (n cap : Nat) (w : World) (ha : AttrsAt w a l) (hl : l.length = n) (hn : n ≤ 17592186044416) (y z : ByteArray) (Hy : Hid (findA l x = (y, z))) :
    Calls Tryz.prog 77 #[.slice a n cap, .string x] w fun e w' => e = .returned (.agg #[.string y, .string z]) ∧ Below w.heap.size w w' := by
  have Hl : Hid (l.length = n) := hl
  have Ha : Hid (AttrsAt w a l) := ha
  clear hl ha
  go_enter Tryz.func77, Tryz.ntmps77
  go_wp2
  go_loopw [9] (fun v wr => ∃ k : Nat, k ≤ n ∧ v = .int .i64 (k : Int) ∧ Hid (findA (l.drop k) x = (y, z)) ∧ Below w.heap.size w wr ∧ Hid (Two wr w.heap.size (.string ⟨#[]⟩) (.string ⟨#[]⟩))) (fun v _ => n - (intOf v).toNat)
  case atStart => exact ⟨0, Nat.zero_le _, rfl, Hy, (Below.refl _ _).alloc (Nat.le_refl _) _, Two.new _ _ _ _⟩
  case round =>
    obtain ⟨k, hk, rfl, Hsp, hbel, HT⟩ := hrel
    obtain ⟨z0, t0, t1, f0, f1⟩ := HT.out
    by_cases hlt : k < n
    · have hkl : k < l.length := by rw [Hl.out]; exact hlt
      rcases Ha.out with h | ⟨b, rfl, hb, hc⟩
      · rw [h] at hkl
        exact absurd hkl (Nat.not_lt_zero _)
      have hd := findA_drop l x k hkl
      obtain ⟨c1, c2⟩ := hc k hkl
      clear hc hkl
      have c1' := (hbel.cell (p := ⟨b, k * 2, none⟩) hb).trans c1
      have c2' := (hbel.cell (p := ⟨b, k * 2 + 1, none⟩) hb).trans c2
      clear c1 c2
      generalize l.getD k (ByteArray.empty, ByteArray.empty) = p at *
      obtain ⟨p1, p2⟩ := p
      have k0 : (0 : Int) ≤ (k : Int) := by omega
      have k1 : (k : Int) < (n : Int) := by omega
      cases hq : p1.toList == x.toList
      · have Hn : Hid (findA (l.drop (k + 1)) x = (y, z)) := by
          show _ = _
          rw [← Hsp.out, hd]
          simp only [hq]
          rfl
        clear hd Hsp
        go_wp2_with fail
        go_roundw
        case rel => exact ⟨k + 1, by omega, by go_num, Hn, hbel.alloc hbel.size _, HT.out.alloc _⟩
        case measure => simp [intOf]; omega
      · have Hn : Hid ((p1, p2) = (y, z)) := by
          show _ = _
          rw [← Hsp.out, hd]
          simp only [hq]
          rfl
        have T := HT.out.set (.string p1) (.string p2)
        clear hd Hsp
        go_wp2_with fail
        have T2 := T.alloc (.cells #[.string p1, .string p2] 73)
        refine bodyPost_ret (v := .agg #[.string p1, .string p2]) ?_ rfl ⟨congrArg (fun q : AttrB => Ending.returned (.agg #[.string q.1, .string q.2])) Hn.out, ?_⟩
        · simp [results, Tryz.results77, go_sem, T2.2.1, T2.2.2.1]
        · exact ((hbel.setCell (Nat.le_refl _) _).setCell (Nat.le_refl _) _).alloc (by simp; omega) _
    · have Hn : Hid ((⟨#[]⟩, ⟨#[]⟩) = (y, z)) := by
        show _ = _
        rw [← Hsp.out, List.drop_eq_nil_of_le (by have := Hl.out; omega)]
        rfl
      have g0 : decide ((k : Int) < (n : Int)) = false := decide_eq_false (by omega)
      have T := HT.out.set (.string ⟨#[]⟩) (.string ⟨#[]⟩)
      clear Hsp
      go_wp2_with fail
      refine bodyPost_ret (v := .agg #[.string ⟨#[]⟩, .string ⟨#[]⟩]) ?_ rfl ⟨congrArg (fun q : AttrB => Ending.returned (.agg #[.string q.1, .string q.2])) Hn.out, ?_⟩
      · simp [results, Tryz.results77, go_sem, T.2.1, T.2.2.1]
      · exact (hbel.setCell (Nat.le_refl _) _).setCell (Nat.le_refl _) _

theorem eq_zero_yes (w : World) : (Op.equalIn 10000 73 (.agg #[.string ⟨#[]⟩, .string ⟨#[]⟩]) (.agg #[.string ⟨#[]⟩, .string ⟨#[]⟩])).run Tryz.prog w = .ok true w := by
  rw [eq_attr]
  simp
theorem eq_zero_no (y z : ByteArray) (h : y.toList ≠ []) (w : World) : (Op.equalIn 10000 73 (.agg #[.string y, .string z]) (.agg #[.string ⟨#[]⟩, .string ⟨#[]⟩])).run Tryz.prog w = .ok false w := by
  have e : (y.toList == (⟨#[]⟩ : ByteArray).toList) = false := by
    apply Bool.eq_false_iff.2
    intro h2
    apply h
    rw [beq_iff_eq.1 h2]
    exact ByteArray.toList_mk _
  rw [eq_attr, e]
  rfl

end Go.Proofs.YtbmmghkieolpkaaGreatDoor.Sg
