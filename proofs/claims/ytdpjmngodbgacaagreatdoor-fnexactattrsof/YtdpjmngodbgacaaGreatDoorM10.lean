/- Plain: where each name is first; the places of those that are first, in order; a map from texts to places. Plain: attributes made strict are those at the places at which a name is first. -/
import Derived.Maps.OwnSet
import Derived.Maps.Views
import Derived.StringKeys
import Derived.Lib.SlKeysI
import Derived.Test.YtdpjmngodbgacaaGreatDoorElAttrsOfQ
namespace Go.Proofs.YtdpjmngodbgacaaGreatDoor.Sg
open Go.Maps

/-- The word that is left away. -/
def xmlnsL : List UInt8 := [120, 109, 108, 110, 115]
/-- Where a name is first. -/
def firstN (ns : List (List UInt8)) (x : List UInt8) : Option Nat := ns.findIdx? (fun y => y == x)
theorem firstN_snoc (ns : List (List UInt8)) (y x : List UInt8) : firstN (ns ++ [y]) x = match firstN ns x with
    | some i => some i
    | none => if y = x then some ns.length else none := by
  unfold firstN
  rw [List.findIdx?_append]
  cases ns.findIdx? (fun y => y == x) with
  | some i => rfl
  | none =>
    by_cases e : y = x
    · simp [e]
    · simp [e]
theorem firstN_some {ns : List (List UInt8)} {x : List UInt8} {i : Nat} (h : firstN ns x = some i) : ∃ hi : i < ns.length, ns[i] = x ∧ ∀ j (hj : j < i), ns[j]'(Nat.lt_trans hj hi) ≠ x := by
  obtain ⟨hi, h1, h2⟩ := List.findIdx?_eq_some_iff_getElem.1 h
  exact ⟨hi, by simpa using h1, fun j hj => by simpa using h2 j hj⟩
theorem firstN_of {ns : List (List UInt8)} {x : List UInt8} {i : Nat} (hi : i < ns.length) (h : ns[i] = x) (hf : ∀ j (hj : j < i), ns[j]'(Nat.lt_trans hj hi) ≠ x) : firstN ns x = some i :=
  List.findIdx?_eq_some_iff_getElem.2 ⟨hi, by simpa using h, fun j hj => by simpa using hf j hj⟩
/-- .. and the word xmlns is nowhere. -/
def firstX (ns : List (List UInt8)) (x : List UInt8) : Option Nat := if x = xmlnsL then none else firstN ns x
theorem firstX_some {ns : List (List UInt8)} {x : List UInt8} {i : Nat} (h : firstX ns x = some i) : x ≠ xmlnsL ∧ firstN ns x = some i := by
  unfold firstX at h
  split at h
  · cases h
  · exact ⟨by assumption, h⟩
/-- The places below k at which a name is first. -/
def placesN (ns : List (List UInt8)) (k : Nat) : List Nat := (List.range k).filter fun i => firstX ns (ns.getD i []) == some i
theorem placesN_mem {ns : List (List UInt8)} {i : Nat} : i ∈ placesN ns ns.length ↔ ∃ x, firstX ns x = some i := by
  unfold placesN
  rw [List.mem_filter]
  constructor
  · rintro ⟨_, h⟩
    exact ⟨_, by simpa using h⟩
  · rintro ⟨x, h⟩
    obtain ⟨h1, h2⟩ := firstX_some h
    obtain ⟨hi, h3, _⟩ := firstN_some h2
    refine ⟨List.mem_range.2 hi, ?_⟩
    rw [List.getD_eq_getElem?_getD, List.getElem?_eq_getElem hi, Option.getD_some, h3, h]
    simp
theorem placesN_lt {ns : List (List UInt8)} {k i : Nat} (h : i ∈ placesN ns k) : i < k := List.mem_range.1 (List.mem_filter.1 h).1
theorem placesN_sorted (ns : List (List UInt8)) (k : Nat) : (placesN ns k).Pairwise (· < ·) := List.Pairwise.filter _ List.pairwise_lt_range
theorem placesN_len (ns : List (List UInt8)) (k : Nat) : (placesN ns k).length ≤ k := by
  have := List.length_filter_le (fun i => firstX ns (ns.getD i []) == some i) (List.range k)
  rw [List.length_range] at this
  exact this
/-- What comes out of the map, in whatever order: sorted, these are the places. -/
theorem placesN_of {ns : List (List UInt8)} {ks : List (List UInt8)} (hn : ks.Nodup) (hm : ∀ x, x ∈ ks ↔ (firstX ns x).isSome = true) :
    ((ks.map fun k => (((firstX ns k).getD 0 : Nat) : Int)).mergeSort fun x y => decide (x ≤ y)) = (placesN ns ns.length).map fun i => ((i : Nat) : Int) := by
  have hp : (ks.map fun k => (((firstX ns k).getD 0 : Nat) : Int)).Perm ((placesN ns ns.length).map fun i => ((i : Nat) : Int)) := by
    refine (List.perm_ext_iff_of_nodup ?_ ?_).2 fun z => ?_
    · refine List.pairwise_map.2 (List.Pairwise.imp_of_mem (fun {a b} ha hb hne e => hne ?_) hn)
      obtain ⟨i, hi⟩ := Option.isSome_iff_exists.1 ((hm a).1 ha)
      obtain ⟨j, hj⟩ := Option.isSome_iff_exists.1 ((hm b).1 hb)
      rw [hi, hj] at e
      simp only [Option.getD_some] at e
      obtain rfl : i = j := by omega
      obtain ⟨_, h1, _⟩ := firstN_some (firstX_some hi).2
      obtain ⟨_, h2, _⟩ := firstN_some (firstX_some hj).2
      rw [← h1, ← h2]
    · exact List.pairwise_map.2 ((placesN_sorted ns ns.length).imp (fun {a b} h e => by omega))
    · rw [List.mem_map, List.mem_map]
      constructor
      · rintro ⟨k, hk, rfl⟩
        obtain ⟨i, hi⟩ := Option.isSome_iff_exists.1 ((hm k).1 hk)
        exact ⟨i, placesN_mem.2 ⟨k, hi⟩, by rw [hi]; rfl⟩
      · rintro ⟨i, hi, rfl⟩
        obtain ⟨x, hx⟩ := placesN_mem.1 hi
        exact ⟨x, (hm x).2 (by rw [hx]; rfl), by rw [hx]; rfl⟩
  have h1 := mergeSort_of_perm_i hp
  refine h1.trans ?_
  refine List.mergeSort_of_pairwise ?_
  exact List.pairwise_map.2 ((placesN_sorted ns ns.length).imp (fun {a b} h => by simp only [leI, decide_eq_true_eq]; omega))

/-- A map from texts to places. -/
def Firsts (D : DataW Unit) (g : List UInt8 → Option Nat) : Prop := IsMap D ∧ ∀ x zd, D.atKey (.string x) zd = match g x with
  | some i => .lit (.int .i64 ((i : Nat) : Int))
  | none => zd
theorem Firsts.nil : Firsts (.map []) (fun _ => none) := ⟨⟨_, rfl⟩, fun x zd => by simp [DataW.atKey]⟩
theorem Firsts.put {D : DataW Unit} {g : List UInt8 → Option Nat} (h : Firsts D g) (x : List UInt8) (i : Nat) : Firsts (D.put (.string x) (.lit (.int .i64 ((i : Nat) : Int)))) (fun y => if y = x then some i else g y) := by
  refine ⟨IsMap.put h.1 _ _, fun y zd => ?_⟩
  by_cases e : y = x
  · subst e
    rw [atKey_put_same h.1 (show WideAt.IsKeyLit (.string y) from trivial)]
    simp
  · rw [atKey_put_other (fun e' => e (by cases e'; rfl)), h.2 y]
    simp [e]
theorem Firsts.del {D : DataW Unit} {g : List UInt8 → Option Nat} (h : Firsts D g) (x : List UInt8) : Firsts (D.del (.string x)) (fun y => if y = x then none else g y) := by
  refine ⟨h.1.del _, fun y zd => ?_⟩
  by_cases e : y = x
  · subst e
    rw [atKey_del_same]
    simp
  · rw [atKey_del_other (fun e' => e (by cases e'; rfl)), h.2 y]
    simp [e]
theorem Firsts.congr {D : DataW Unit} {f g : List UInt8 → Option Nat} (h : Firsts D f) (e : ∀ x, f x = g x) : Firsts D g := ⟨h.1, fun x zd => by rw [h.2 x zd, e x]⟩
theorem Firsts.has {D : DataW Unit} {g : List UInt8 → Option Nat} (h : Firsts D g) (x : List UInt8) : has D (.string x) = (g x).isSome := by
  cases e : g x with
  | some i =>
    have h1 : ∀ zd, D.atKey (.string x) zd = .lit (.int .i64 ((i : Nat) : Int)) := fun zd => by rw [h.2 x zd, e]
    rw [has_true_of_atKey h1]
    rfl
  | none =>
    have h1 : ∀ zd, D.atKey (.string x) zd = zd := fun zd => by rw [h.2 x zd, e]
    rw [has_false_of_atKey h1]
    rfl
/-- What has come of such a map's places, whatever came first. -/
def CollV (D0 : DataW Unit) (g : List UInt8 → Option Nat) (left : Lit → Bool) (ss : List Int) : Prop := ∃ ks, Collected D0 left ks ∧ ss = ks.map fun k => (((g k).getD 0 : Nat) : Int)
theorem CollV.start (D0 : DataW Unit) (g : List UInt8 → Option Nat) : CollV D0 g (has D0) [] := ⟨[], Collected.start D0, rfl⟩
theorem CollV.step {D0 : DataW Unit} {g : List UInt8 → Option Nat} {left : Lit → Bool} {ss : List Int} (h : CollV D0 g left ss) (hF : Firsts D0 g) {x : List UInt8} {c : Int} (hlk : left (.string x) = true) (hat : ∀ zd, D0.atKey (.string x) zd = .lit (.int .i64 c)) : CollV D0 g (fun z => left z && !z.sameKey (.string x)) (ss ++ [c]) := by
  obtain ⟨ks, hC, rfl⟩ := h
  refine ⟨ks ++ [x], hC.step hlk hat, ?_⟩
  rw [List.map_append]
  have h1 := hat (.lit (.bool false))
  rw [hF.2 x] at h1
  cases e : g x with
  | none => rw [e] at h1; simp at h1
  | some i => rw [e] at h1; simp at h1; simp [e, h1]
/-- All that is there has come. -/
def GivesV (g : List UInt8 → Option Nat) (ss : List Int) : Prop := ∃ ks : List (List UInt8), ks.Nodup ∧ (∀ x, x ∈ ks ↔ (g x).isSome = true) ∧ ss = ks.map fun k => (((g k).getD 0 : Nat) : Int)
theorem CollV.gives {D0 : DataW Unit} {g : List UInt8 → Option Nat} {left : Lit → Bool} {ss : List Int} (h : CollV D0 g left ss) (hF : Firsts D0 g) (hl : ∀ kl, left kl = false) : GivesV g ss := by
  obtain ⟨ks, hC, rfl⟩ := h
  exact ⟨ks, hC.1, fun x => by rw [hC.2 x, hF.has x, hl]; simp, rfl⟩

end Go.Proofs.YtdpjmngodbgacaaGreatDoor.Sg

namespace Go.Proofs.YtdpjmngodbgacaaGreatDoor.Sg
open Go.Maps

theorem attrsMade_take (l : List AttrB) (k : Nat) (h : k < l.length) : attrsMade [] (l.take (k + 1)) = attrMade (attrsMade [] (l.take k)) (l[k]'h) := by
  unfold attrsMade
  rw [List.take_succ_eq_append_getElem h, List.foldl_append]
  rfl
theorem attrsMade_take_len (l : List AttrB) (k : Nat) : (attrsMade [] (l.take k)).length ≤ k := by
  have h : ∀ (m : List AttrB) (out : List AttrB), (attrsMade out m).length ≤ out.length + m.length := fun m => by
    induction m with
    | nil => intro out; exact Nat.le_refl _
    | cons p m ih =>
      intro out
      have h1 := ih (attrMade out p)
      have h2 := attrMade_len out p
      show (attrsMade (attrMade out p) m).length ≤ _
      rw [List.length_cons]
      omega
  have := h (l.take k) []
  rw [List.length_take] at this
  simp only [List.length_nil] at this
  omega
/-- A name is there. -/
def hasN (l : List AttrB) (x : List UInt8) : Bool := l.any fun p => p.1.data.toList == x
theorem attrMade_is (out : List AttrB) (p1 p2 : ByteArray) : attrMade out (p1, p2) = if !((stNameS p1).data.toList == [120, 109, 108, 110, 115]) && !hasN out (stNameS p1).data.toList then out ++ [(stNameS p1, mildS p2)] else out := by
  have e1 : hasA out (stNameS p1) = hasN out (stNameS p1).data.toList := by
    unfold hasA hasN
    simp only [ByteArray.toList_eq]
  have e2 : ((stNameS p1).toList == xmlnsB.toList) = ((stNameS p1).data.toList == [120, 109, 108, 110, 115]) := by
    rw [ByteArray.toList_eq, ByteArray.toList_eq]
    rfl
  unfold attrMade
  simp only [e1, e2]
  cases ((stNameS p1).data.toList == [120, 109, 108, 110, 115]) <;> cases hasN out (stNameS p1).data.toList <;> rfl
/-- The names of attributes, made strict. -/
def namesA (l : List AttrB) : List (List UInt8) := l.map fun p => (stNameS p.1).data.toList
theorem namesA_len (l : List AttrB) : (namesA l).length = l.length := List.length_map _
theorem namesA_get (l : List AttrB) (k : Nat) (h : k < l.length) : (namesA l).getD k [] = (stNameS (l[k]'h).1).data.toList := by
  unfold namesA
  rw [List.getD_eq_getElem?_getD, List.getElem?_map, List.getElem?_eq_getElem h]
  rfl
theorem namesA_take (l : List AttrB) (k : Nat) (h : k < l.length) : namesA (l.take (k + 1)) = namesA (l.take k) ++ [(stNameS (l[k]'h).1).data.toList] := by
  unfold namesA
  rw [List.take_succ_eq_append_getElem h, List.map_append]
  rfl
/-- One of them, made strict. -/
def mkA (l : List AttrB) (i : Nat) : AttrB := (stNameS (l.getD i (ByteArray.empty, ByteArray.empty)).1, mildS (l.getD i (ByteArray.empty, ByteArray.empty)).2)
theorem mkA_get (l : List AttrB) (i : Nat) (h : i < l.length) : mkA l i = (stNameS (l[i]'h).1, mildS (l[i]'h).2) := by
  unfold mkA
  rw [List.getD_eq_getElem?_getD, List.getElem?_eq_getElem h]
  rfl
theorem hasN_made (l : List AttrB) (x : List UInt8) : ∀ k, k ≤ l.length → hasN (attrsMade [] (l.take k)) x = (!(x == xmlnsL) && (namesA (l.take k)).contains x)
  | 0, _ => by simp [hasN, attrsMade, namesA]
  | k + 1, hk => by
    have ih := fun y => hasN_made l y k (by omega)
    rw [attrsMade_take l k hk, namesA_take l k hk]
    generalize l[k] = p
    obtain ⟨p1, p2⟩ := p
    rw [attrMade_is]
    have hx := ih x
    have hn := ih (stNameS p1).data.toList
    simp only
    generalize attrsMade [] (l.take k) = out at *
    generalize namesA (l.take k) = ns at *
    generalize mildS p2 = tx
    generalize stNameS p1 = nm at *
    have e0 : (nm.data.toList == [120, 109, 108, 110, 115]) = (nm.data.toList == xmlnsL) := rfl
    rw [e0]
    have hsn : hasN (out ++ [(nm, tx)]) x = (hasN out x || nm.data.toList == x) := by
      unfold hasN
      rw [List.any_append]
      simp
    generalize nm.data.toList = s at *
    by_cases e : x = s
    · subst e
      cases h1 : (x == xmlnsL) <;> cases h2 : hasN out x <;> simp_all
    · have e1 : (s == x) = false := beq_false_of_ne (fun h => e h.symm)
      have e2 : (ns ++ [s]).contains x = ns.contains x := by simp [e]
      rw [e2, ← hx]
      split
      · rw [hsn, e1, Bool.or_false]
      · rfl
theorem placesN_succ (ns : List (List UInt8)) (k : Nat) : placesN ns (k + 1) = placesN ns k ++ (if firstX ns (ns.getD k []) == some k then [k] else []) := by
  unfold placesN
  rw [List.range_succ, List.filter_append]
  congr 1
  cases h : (firstX ns (ns.getD k []) == some k) <;> simp only [List.filter_cons, h, List.filter_nil, if_true, Bool.false_eq_true, if_false]
theorem firstX_at (l : List AttrB) (k : Nat) (h : k < l.length) : (firstX (namesA l) ((namesA l).getD k []) == some k) = (!((stNameS (l[k]'h).1).data.toList == xmlnsL) && !(namesA (l.take k)).contains (stNameS (l[k]'h).1).data.toList) := by
  rw [namesA_get l k h]
  have hkn : k < (namesA l).length := by rw [namesA_len]; exact h
  have hk2 : (namesA l)[k]'hkn = (stNameS (l[k]'h).1).data.toList := List.getElem_map ..
  have htk : namesA (l.take k) = (namesA l).take k := by
    unfold namesA
    rw [List.map_take]
  rw [htk]
  generalize (stNameS (l[k]'h).1).data.toList = s at *
  generalize namesA l = ns at *
  by_cases e : s = xmlnsL
  · simp [firstX, e]
  · have e1 : (s == xmlnsL) = false := beq_false_of_ne e
    rw [e1, Bool.not_false, Bool.true_and]
    unfold firstX
    rw [if_neg e]
    cases hc : (ns.take k).contains s
    · have hno : ∀ j (hj : j < k), ns[j]'(Nat.lt_trans hj hkn) ≠ s := fun j hj e2 => by
        have : s ∈ ns.take k := by
          rw [← e2]
          exact List.mem_take_iff_getElem.2 ⟨j, by omega, rfl⟩
        rw [List.contains_iff_mem.2 this] at hc
        cases hc
      rw [firstN_of hkn hk2 hno]
      simp
    · obtain ⟨j, hj, e2⟩ := List.mem_take_iff_getElem.1 (List.contains_iff_mem.1 hc)
      cases hf : firstN ns s with
      | none => simp
      | some i =>
        obtain ⟨_, _, h3⟩ := firstN_some hf
        have : i ≠ k := fun e3 => by
          subst e3
          exact h3 j (by omega) e2
        simp [this]
/-- What is made of them is each at its place, made strict. -/
theorem attrsMade_places (l : List AttrB) : ∀ k, k ≤ l.length → attrsMade [] (l.take k) = (placesN (namesA l) k).map (mkA l)
  | 0, _ => by simp [attrsMade, placesN]
  | k + 1, hk => by
    have ih := attrsMade_places l k (by omega)
    rw [attrsMade_take l k hk, placesN_succ, List.map_append, ← ih, firstX_at l k hk]
    have hm := mkA_get l k hk
    have hh := hasN_made l (stNameS (l[k]'hk).1).data.toList k (by omega)
    generalize hp : l[k]'hk = p at *
    obtain ⟨p1, p2⟩ := p
    simp only at hm hh
    rw [attrMade_is, hh]
    simp only
    have e0 : ((stNameS p1).data.toList == [120, 109, 108, 110, 115]) = ((stNameS p1).data.toList == xmlnsL) := rfl
    rw [e0]
    cases h1 : ((stNameS p1).data.toList == xmlnsL) <;> cases h2 : (namesA (l.take k)).contains (stNameS p1).data.toList <;> simp [hm]
theorem attrsMade_all (l : List AttrB) : attrsMade [] l = (placesN (namesA l) l.length).map (mkA l) := by
  have := attrsMade_places l l.length (Nat.le_refl _)
  rw [List.take_length] at this
  exact this

end Go.Proofs.YtdpjmngodbgacaaGreatDoor.Sg
