/- Attributes, step by step; slices of attributes. -/
import Derived.Test.YtlaidaghmhmgbaaDoorTkValQ
import Derived.Test.YtlaidaghmhmgbaaDoorM03
import Derived.Test.YtlaidaghmhmgbaaDoorRfRefsQ
namespace Go.Proofs.YtlaidaghmhmgbaaDoor.Sg
open Go.ChangeShapes Go.WideShapes Go.ChangeAt Go.RowKit

abbrev AttrB := ByteArray × ByteArray

/-- An attribute of that name is there. -/
def hasA (l : List AttrB) (x : ByteArray) : Bool := l.any fun p => p.1.toList == x.toList
theorem hasA_drop (l : List AttrB) (x : ByteArray) (k : Nat) (h : k < l.length) : hasA (l.drop k) x = (((l.getD k (ByteArray.empty, ByteArray.empty)).1.toList == x.toList) || hasA (l.drop (k + 1)) x) := by
  have e : l.getD k (ByteArray.empty, ByteArray.empty) = l[k]'h := by simp [List.getD, h]
  unfold hasA
  rw [List.drop_eq_getElem_cons h, List.any_cons, e]

/-- The slash that ends a text, and is no part of a value. -/
def selfE (s : ByteArray) (k n : Nat) : Bool := decide (n = s.size) && (decide (k < n) && decide (((tailL s (n - 1)).head?.map (·.toNat)) = some 47))

/-- The attribute at a place, and the place behind it. -/
def attrAt (s : ByteArray) (k : Nat) : AttrB × Nat :=
  if ((tailL s (runE blankU s (nameE false s k))).head?.map (·.toNat)) = some 61 then
    ((smallS (s.extract k (nameE false s k)), strB (refsL true (valE s (runE blankU s (runE blankU s (nameE false s k) + 1))).1.data.toList)), (valE s (runE blankU s (runE blankU s (nameE false s k) + 1))).2)
  else ((smallS (s.extract k (nameE false s k)), ⟨#[]⟩), nameE false s k)

theorem name_goes2 {s : ByteArray} {k m : Nat} (hm : runE skipU s k = m) (h : m < s.size) : m + 1 ≤ nameE false s m := by
  have hp := runE_stop hm h
  unfold skipU at hp
  have h1 : blankU (s[m]'h) = false := by
    cases hb : blankU (s[m]'h)
    · rfl
    · rw [hb] at hp; cases hp
  have h2 : (s[m]'h).toNat ≠ 47 := by
    intro e
    rw [h1, decide_eq_true e] at hp
    cases hp
  have hf : firstU false (s[m]'h) = true := by
    unfold firstU
    rw [h1, decide_eq_false h2]
    rfl
  rw [nameE_yes h hf]
  exact (runE_le (p := nameU false) (s := s) (k := m + 1) h).1

theorem attrAt_le {s : ByteArray} {k m : Nat} (hm : runE skipU s k = m) (h : m < s.size) : m < (attrAt s m).2 ∧ (attrAt s m).2 ≤ s.size := by
  have h1 := name_goes2 hm h
  have h2 := nameE_le (angle := false) (s := s) (k := m) (Nat.le_of_lt h)
  have h3 := runE_le (p := blankU) h2.2
  unfold attrAt
  split
  · rename_i h61
    have hq : runE blankU s (nameE false s m) < s.size := by
      apply Classical.byContradiction
      intro hc
      rw [head_end hc] at h61
      cases h61
    have h4 := runE_le (p := blankU) (s := s) (k := runE blankU s (nameE false s m) + 1) hq
    have h5 := valE_le h4.2
    exact ⟨by show m < (valE s _).2; omega, h5.2.1⟩
  · exact ⟨by show m < nameE false s m; omega, h2.2⟩

/-- The attributes from a place on, behind some. -/
def attrsE (s : ByteArray) (k : Nat) (out : List AttrB) (self : Bool) : List AttrB × Bool :=
  if k < s.size then
    if runE skipU s k < s.size then
      if k < (attrAt s (runE skipU s k)).2 ∧ (attrAt s (runE skipU s k)).2 ≤ s.size then
        attrsE s (attrAt s (runE skipU s k)).2 (if hasA out (attrAt s (runE skipU s k)).1.1 then out else out ++ [(attrAt s (runE skipU s k)).1]) false
      else (out, false)
    else (out, selfE s k (runE skipU s k))
  else (out, self)
  termination_by s.size - k
  decreasing_by omega

theorem attrsE_end {s : ByteArray} {k : Nat} {out : List AttrB} {self : Bool} (h : ¬ k < s.size) : attrsE s k out self = (out, self) := by
  rw [attrsE, if_neg h]
theorem attrsE_last {s : ByteArray} {k m : Nat} {out : List AttrB} {self : Bool} (h : k < s.size) (hm : runE skipU s k = m) (h2 : ¬ m < s.size) : attrsE s k out self = (out, selfE s k m) := by
  subst hm
  rw [attrsE, if_pos h, if_neg h2]
theorem attrsE_goes {s : ByteArray} {k m : Nat} {out : List AttrB} {self : Bool} (h : k < s.size) (hm : runE skipU s k = m) (h2 : m < s.size) :
    attrsE s k out self = attrsE s (attrAt s m).2 (if hasA out (attrAt s m).1.1 then out else out ++ [(attrAt s m).1]) false := by
  have h3 := attrAt_le hm h2
  have h4 := runE_le (p := skipU) (s := s) (k := k) (Nat.le_of_lt h)
  subst hm
  rw [attrsE, if_pos h, if_pos h2, if_pos ⟨by omega, h3.2⟩]

/-- The cells of attributes. -/
def attrCells : List AttrB → List Value
  | [] => []
  | p :: l => .string p.1 :: .string p.2 :: attrCells l
theorem attrCells_length : ∀ l, (attrCells l).length = l.length * 2
  | [] => rfl
  | _ :: l => by simp only [attrCells, List.length_cons, attrCells_length l]; omega
theorem attrCells_more (l : List AttrB) (p : AttrB) : attrCells (l ++ [p]) = attrCells l ++ [.string p.1, .string p.2] := by
  induction l with
  | nil => rfl
  | cons q l ih => simp [attrCells, ih]
theorem attrCells_at : ∀ (l : List AttrB) (k : Nat), k < l.length → (attrCells l)[k * 2]? = some (.string (l.getD k (ByteArray.empty, ByteArray.empty)).1) ∧ (attrCells l)[k * 2 + 1]? = some (.string (l.getD k (ByteArray.empty, ByteArray.empty)).2)
  | [], k, h => absurd h (Nat.not_lt_zero _)
  | p :: l, 0, _ => by simp [attrCells]
  | p :: l, k + 1, h => by
    have ih := attrCells_at l k (by simpa using h)
    have e1 : (k + 1) * 2 = k * 2 + 1 + 1 := by omega
    rw [e1]
    simpa [attrCells] using ih

/-- A slice of attributes holds just l. -/
def AttrsAt (w : World) (a : Option Addr) (l : List AttrB) : Prop :=
  l = [] ∨ ∃ b, a = some ⟨b, 0, none⟩ ∧ b < w.heap.size ∧ ∀ k, k < l.length → w.cell? ⟨b, k * 2, none⟩ = some (.string (l.getD k (ByteArray.empty, ByteArray.empty)).1) ∧ w.cell? ⟨b, k * 2 + 1, none⟩ = some (.string (l.getD k (ByteArray.empty, ByteArray.empty)).2)

theorem attrs_of_own {w : World} {base n : Nat} {e : TypeId} {v : Value} {l : List AttrB} (h : w.ownsRow base e 2 v n (attrCells l)) : ∃ a cap, v = .slice a l.length cap ∧ AttrsAt w a l := by
  obtain ⟨h1, h2⟩ := h
  rw [attrCells_length] at h1
  have hn : l.length = n := by omega
  subst hn
  rcases h2 with ⟨rfl, h0⟩ | ⟨g, cap, cur, rfl, h3, h4, h5, h6, h7, h8⟩
  · have : l = [] := List.eq_nil_of_length_eq_zero h0
    subst this
    exact ⟨none, 0, rfl, .inl rfl⟩
  · refine ⟨_, _, rfl, .inr ⟨g, rfl, (Array.getElem?_eq_some_iff.1 h4).1, fun k hk => ?_⟩⟩
    obtain ⟨a1, a2⟩ := attrCells_at l k hk
    rw [← h8] at a1 a2
    rw [List.getElem?_take_of_lt (by omega)] at a1 a2
    have c1 : cur[k * 2]? = some (.string (l.getD k (ByteArray.empty, ByteArray.empty)).1) := by simpa using a1
    have c2 : cur[k * 2 + 1]? = some (.string (l.getD k (ByteArray.empty, ByteArray.empty)).2) := by simpa using a2
    exact ⟨by simp [World.cell?, h4, c1], by simp [World.cell?, h4, c2]⟩

set_option maxHeartbeats 2000000 in
theorem specHas (l : List AttrB) (x : ByteArray) (a : Option Addr) (n cap : Nat) (w : World) (ha : AttrsAt w a l) (hl : l.length = n) (hn : n ≤ 17592186044416) :
    Calls Tryd.prog 43 #[.slice a n cap, .string x] w fun e w' => e = .returned (.bool (hasA l x)) ∧ w' = w := by
  have Hl : Hid (l.length = n) := hl
  have Ha : Hid (AttrsAt w a l) := ha
  clear hl ha
  go_enter Tryd.func43, Tryd.ntmps43
  go_wp2
  go_loopw [5] (fun v wr => ∃ k : Nat, k ≤ n ∧ v = .int .i64 (k : Int) ∧ Hid (hasA l x = hasA (l.drop k) x) ∧ wr = w) (fun v _ => n - (intOf v).toNat)
  case atStart => exact ⟨0, Nat.zero_le _, rfl, rfl, rfl⟩
  case round =>
    obtain ⟨k, hk, rfl, Hsp, rfl⟩ := hrel
    by_cases hlt : k < n
    · have hkl : k < l.length := by rw [Hl.out]; exact hlt
      rcases Ha.out with h | ⟨b, rfl, hb, hc⟩
      · rw [h] at hkl
        exact absurd hkl (Nat.not_lt_zero _)
      have hd := hasA_drop l x k hkl
      obtain ⟨c1, _⟩ := hc k hkl
      clear hc hkl
      generalize (l.getD k (ByteArray.empty, ByteArray.empty)).1 = y at *
      cases hq : y.toList == x.toList
      · have Hn : Hid (hasA l x = hasA (l.drop (k + 1)) x) := by show _ = _; rw [Hsp.out, hd, hq]; rfl
        clear hd Hsp
        go_wp2
        go_roundw
        case rel => exact ⟨k + 1, by omega, by go_num, Hn, by first | trivial | rfl⟩
        case measure => simp [intOf]; omega
      · have Hn : Hid (hasA l x = true) := by show _ = _; rw [Hsp.out, hd, hq]; rfl
        clear hd Hsp
        go_wp2
        go_ret
        exact ⟨ret_bool Hn.out.symm, rfl⟩
    · have Hn : Hid (hasA l x = false) := by
        show _ = _
        rw [Hsp.out, List.drop_eq_nil_of_le (by have := Hl.out; omega)]
        rfl
      have g0 : decide ((k : Int) < (n : Int)) = false := decide_eq_false (by omega)
      clear Hsp
      go_wp2
      go_ret
      exact ⟨ret_bool Hn.out.symm, rfl⟩

end Go.Proofs.YtlaidaghmhmgbaaDoor.Sg
