/- Marks of items: the state while they are laid, step by step. No walk in it. -/
import Derived.Test.YtlnegnikedinaaaLwKb
import Derived.Test.YtlnegnikedinaaaLwItTo2
import Derived.Test.YtlnegnikedinaaaLwMark
namespace Go.Proofs.Ytlnegnikedinaaa.Sg
open Go.ChangeShapes Go.WideShapes Go.ChangeAt Go.RowKit

/-- An item that is marked from k on, and how many marks that takes. -/
def markIt (k : Nat) (t : ItB) : ItB := ⟨(k : Int), ((k + 1 : Nat) : Int), markB (k + 2), markL (k + 3) t.ats.length, markB (k + 3 + 2 * t.ats.length), ((k + 4 + 2 * t.ats.length : Nat) : Int), cntL (k + 5 + 2 * t.ats.length) t.kids.length⟩
def markIn (t : ItB) : Nat := 5 + 2 * t.ats.length + t.kids.length
def markIts : Nat → List ItB → List ItB
  | _, [] => []
  | k, t :: l => markIt k t :: markIts (k + markIn t) l
def markIs (l : List ItB) : Nat := (l.map markIn).sum
theorem markIts_length (l : List ItB) : ∀ k, (markIts k l).length = l.length := by
  induction l with
  | nil => intro _; rfl
  | cons t l ih => intro k; simp [markIts, ih]
theorem markIts_more (l : List ItB) (t : ItB) : ∀ k, markIts k (l ++ [t]) = markIts k l ++ [markIt (k + markIs l) t] := by
  induction l with
  | nil => intro k; simp [markIts, markIs]
  | cons u l ih =>
    intro k
    simp only [List.cons_append, markIts, ih, markIs, List.map_cons, List.sum_cons]
    rw [Nat.add_assoc]
theorem markIs_more (l : List ItB) (t : ItB) : markIs (l ++ [t]) = markIs l + markIn t := by
  unfold markIs
  simp
theorem markIs_split (l : List ItB) (i : Nat) (hi : i < l.length) : markIs (l.take i) + markIn (l[i]'hi) ≤ markIs l ∧ markIs (l.take (i + 1)) = markIs (l.take i) + markIn (l[i]'hi) := by
  have e : l.take (i + 1) = l.take i ++ [l[i]'hi] := by
    rw [List.take_add_one, List.getElem?_eq_getElem hi]
    rfl
  have e2 : markIs (l.take (i + 1)) = markIs (l.take i) + markIn (l[i]'hi) := by rw [e, markIs_more]
  refine ⟨?_, e2⟩
  rw [← e2]
  have h3 : markIs l = markIs (l.take (i + 1)) + markIs (l.drop (i + 1)) := by
    unfold markIs
    rw [← List.sum_append, ← List.map_append, List.take_append_drop]
  omega

abbrev It3 := ItB × Value × Value

/-- One cell of one item is written. -/
theorem itCells_set (L : List It3) (i c : Nat) (hi : i < L.length) (hc : c < 7) (p : It3) (x : Value) (h : itV p = (itV (L[i]'hi)).set c x) : (itCells L).set (i * 7 + c) x = itCells (L.set i p) := by
  have hlen : (itCells (L.set i p)).length = (itCells L).length := by rw [itCells_length, itCells_length, List.length_set]
  apply List.ext_getElem?
  intro j
  by_cases hj : j < L.length * 7
  · obtain ⟨q, r, hr, rfl⟩ : ∃ q r, r < 7 ∧ j = q * 7 + r := ⟨j / 7, j % 7, Nat.mod_lt _ (by omega), by omega⟩
    have hq : q < L.length := by omega
    have hq2 : q < (L.set i p).length := by rw [List.length_set]; exact hq
    rw [itCells_at _ q r hq2 hr, List.getElem?_set, itCells_at L q r hq hr]
    by_cases e : i = q
    · subst e
      rw [List.getElem_set_self, h, List.getElem?_set]
      by_cases e2 : c = r
      · subst e2
        rw [if_pos rfl, if_pos rfl, if_pos (by rw [itCells_length]; omega), if_pos (by show c < 7; exact hc)]
      · rw [if_neg (by omega), if_neg e2]
    · rw [List.getElem_set_ne e, if_neg (by omega)]
  · rw [List.getElem?_eq_none (by simp only [List.length_set]; rw [itCells_length]; omega), List.getElem?_eq_none (by rw [hlen, itCells_length]; omega)]

/-- The blocks that marks may turn: those of the items and of their lists. -/
def MkS (g : Nat) (L : List It3) (b : Nat) : Prop := b = g ∨ ∃ q ∈ L, q.2.1.ownBlock = some b ∨ q.2.2.ownBlock = some b

/-- While items are marked. -/
structure MkSt (B g cap n : Nat) (L0 : List It3) (w wr : World) (L : List It3) : Prop where
  len : L.length = n
  vals : L.map (·.2) = L0.map (·.2)
  row : wr.ownsRow B 50 7 (.slice (some ⟨g, 0, none⟩) n cap) n (itCells L)
  each : OwnEachI wr B L
  kb : Kb w wr (MkS g L0)

theorem MkSt.val {B g cap n : Nat} {L0 : List It3} {w wr : World} {L : List It3} (h : MkSt B g cap n L0 w wr L) {i : Nat} (hi : i < L.length) : ∃ q ∈ L0, q.2 = (L[i]'hi).2 := by
  have h1 : (L.map (·.2))[i]? = some (L[i]'hi).2 := by rw [List.getElem?_map, List.getElem?_eq_getElem hi]; rfl
  rw [h.vals] at h1
  obtain ⟨q, hq, e⟩ := List.mem_map.1 (List.mem_of_getElem? h1)
  exact ⟨q, hq, e⟩

theorem MkSt.cell {B g cap n : Nat} {L0 : List It3} {w wr : World} {L : List It3} (h : MkSt B g cap n L0 w wr L) {i c : Nat} (hi : i < L.length) (hc : c < 7) : wr.cell? ⟨g, i * 7 + c, none⟩ = (itV (L[i]'hi))[c]? ∧ wr.frozen? ⟨g, i * 7 + c, none⟩ = false := by
  have h1 := own_cell h.row (j := i * 7 + c) (by have := h.len; omega)
  exact ⟨h1.1.trans (itCells_at L i c hi hc), h1.2⟩

theorem MkSt.keep {B g cap n : Nat} {L0 : List It3} {w wr : World} {L : List It3} (h : MkSt B g cap n L0 w wr L) {w' : World} (hb : Below wr.heap.size wr w') : MkSt B g cap n L0 w w' L :=
  ⟨h.len, h.vals, owns_below h.row (Nat.le_refl _) hb, h.each.keep hb, h.kb.trans (Kb.of_below hb _)⟩

/-- The row of the items is none of their lists'. -/
theorem MkSt.apart {B g cap n : Nat} {L0 : List It3} {w wr : World} {L : List It3} (h : MkSt B g cap n L0 w wr L) {q : It3} (hq : q ∈ L) : q.2.1.ownBlock ≠ some g ∧ q.2.2.ownBlock ≠ some g :=
  ⟨owns_apart h.row (h.each.1 q hq).1 it_type.1 g rfl, owns_apart h.row (h.each.1 q hq).2 it_type.2.1 g rfl⟩

theorem set_vals {L : List It3} {i : Nat} (hi : i < L.length) {p : It3} (hp : p.2 = (L[i]'hi).2) : (L.set i p).map (·.2) = L.map (·.2) := by
  rw [List.map_set]
  apply List.ext_getElem?
  intro j
  rw [List.getElem?_set]
  by_cases q : i = j
  · subst q
    simp [hi, hp]
  · simp [q]

theorem pairs_set {L : List It3} {i : Nat} (hi : i < L.length) {p : It3} (hp : p.2 = (L[i]'hi).2) (h : L.Pairwise fun p q : It3 => (∀ b, p.2.1.ownBlock = some b → q.2.1.ownBlock ≠ some b) ∧ (∀ b, p.2.2.ownBlock = some b → q.2.2.ownBlock ≠ some b)) :
    (L.set i p).Pairwise fun p q : It3 => (∀ b, p.2.1.ownBlock = some b → q.2.1.ownBlock ≠ some b) ∧ (∀ b, p.2.2.ownBlock = some b → q.2.2.ownBlock ≠ some b) := by
  have h3 : (L.map (·.2)).Pairwise fun p q : Value × Value => (∀ b, p.1.ownBlock = some b → q.1.ownBlock ≠ some b) ∧ (∀ b, p.2.ownBlock = some b → q.2.ownBlock ≠ some b) := List.pairwise_map.2 h
  rw [← set_vals hi hp] at h3
  exact List.pairwise_map.1 h3

theorem mem_set {L : List It3} {i : Nat} {p q : It3} (hq : q ∈ L.set i p) : q = p ∨ ∃ j, ∃ hj : j < L.length, j ≠ i ∧ q = L[j]'hj := by
  obtain ⟨j, hj, rfl⟩ := List.getElem_of_mem hq
  have hj2 : j < L.length := by simpa using hj
  by_cases e : i = j
  · subst e
    left
    rw [List.getElem_set_self]
  · right
    exact ⟨j, hj2, Ne.symm e, by rw [List.getElem_set_ne e]⟩

/-- A field that is no list is written. -/
theorem MkSt.put {B g cap n : Nat} {L0 : List It3} {w wr : World} {L : List It3} (h : MkSt B g cap n L0 w wr L) {i : Nat} (hi : i < L.length) {c : Nat} (hc : c < 7) (p : It3) (x : Value) (hv : itV p = (itV (L[i]'hi)).set c x) (hp : p.2 = (L[i]'hi).2) (ha : p.1.ats = (L[i]'hi).1.ats) (hk : p.1.kids = (L[i]'hi).1.kids) :
    MkSt B g cap n L0 w (wr.setCell ⟨g, i * 7 + c, none⟩ x) (L.set i p) := by
  have hgr := grown_set wr g (i * 7 + c) x
  have hne : ∀ q ∈ L, (∀ b, q.2.1.ownBlock = some b → some g ≠ some b) ∧ (∀ b, q.2.2.ownBlock = some b → some g ≠ some b) := fun q hq =>
    ⟨fun b hb e => (h.apart hq).1 (hb.trans e.symm), fun b hb e => (h.apart hq).2 (hb.trans e.symm)⟩
  refine ⟨by rw [List.length_set]; exact h.len, (set_vals hi hp).trans h.vals, ?_, ⟨fun q hq => ?_, pairs_set hi hp h.each.2⟩, h.kb.trans (Kb.of_grown hgr fun k e => .inl (Option.some.inj e).symm)⟩
  · rw [← itCells_set L i c hi hc p x hv]
    exact owns_set h.row _ _
  · rcases mem_set hq with rfl | ⟨j, hj, _, rfl⟩
    · have h1 := h.each.1 _ (List.getElem_mem hi)
      have h2 := hne _ (List.getElem_mem hi)
      rw [hp, ha, hk]
      exact ⟨owns_grown h1.1 hgr h2.1, owns_grown h1.2 hgr h2.2⟩
    · have h1 := h.each.1 _ (List.getElem_mem hj)
      have h2 := hne _ (List.getElem_mem hj)
      exact ⟨owns_grown h1.1 hgr h2.1, owns_grown h1.2 hgr h2.2⟩

theorem pair_at {L : List It3} (h : L.Pairwise fun p q : It3 => (∀ b, p.2.1.ownBlock = some b → q.2.1.ownBlock ≠ some b) ∧ (∀ b, p.2.2.ownBlock = some b → q.2.2.ownBlock ≠ some b)) {i j : Nat} (hi : i < L.length) (hj : j < L.length) (hne : j ≠ i) :
    (∀ b, (L[j]'hj).2.1.ownBlock = some b → (L[i]'hi).2.1.ownBlock ≠ some b) ∧ (∀ b, (L[j]'hj).2.2.ownBlock = some b → (L[i]'hi).2.2.ownBlock ≠ some b) := by
  rcases Nat.lt_or_gt_of_ne hne with h1 | h1
  · exact List.pairwise_iff_getElem.1 h j i hj hi h1
  · have h2 := List.pairwise_iff_getElem.1 h i j hi hj h1
    exact ⟨fun b hb e => h2.1 b e hb, fun b hb e => h2.2 b e hb⟩

/-- The attributes of one item are written. -/
theorem MkSt.attrs {B g cap n : Nat} {L0 : List It3} {w wr : World} {L : List It3} (h : MkSt B g cap n L0 w wr L) {i : Nat} (hi : i < L.length) (p : It3) {w' : World} (hv : itV p = itV (L[i]'hi)) (hp : p.2 = (L[i]'hi).2) (hk : p.1.kids = (L[i]'hi).1.kids)
    (ho : w'.ownsRow B 84 2 (L[i]'hi).2.1 p.1.ats.length (attrCells p.1.ats)) (hg : wr.grownBy w' (L[i]'hi).2.1.ownBlock) : MkSt B g cap n L0 w w' (L.set i p) := by
  obtain ⟨q0, hq0, e0⟩ := h.val hi
  have hcell : itCells (L.set i p) = itCells L := by
    have := itCells_set L i 0 hi (by omega) p (.int .i64 (L[i]'hi).1.kd) (by rw [hv]; rfl)
    rw [← this]
    apply List.ext_getElem?
    intro j
    rw [List.getElem?_set]
    by_cases e : i * 7 + 0 = j
    · subst e
      rw [if_pos rfl, if_pos (by rw [itCells_length]; omega), itCells_at L i 0 hi (by omega)]
      rfl
    · rw [if_neg e]
  refine ⟨by rw [List.length_set]; exact h.len, (set_vals hi hp).trans h.vals, ?_, ⟨fun q hq => ?_, pairs_set hi hp h.each.2⟩, h.kb.trans (Kb.of_grown hg fun k e => .inr ⟨q0, hq0, .inl (by rw [e0]; exact e)⟩)⟩
  · rw [hcell]
    exact owns_grown h.row hg fun b hb e => (h.apart (List.getElem_mem hi)).1 (by rw [e]; exact hb.symm ▸ rfl)
  · rcases mem_set hq with rfl | ⟨j, hj, hji, rfl⟩
    · have h1 := h.each.1 _ (List.getElem_mem hi)
      rw [hp, hk]
      exact ⟨ho, owns_grown h1.2 hg fun b hb e => owns_apart h1.1 h1.2 it_type.2.2 b e hb⟩
    · have h1 := h.each.1 _ (List.getElem_mem hj)
      have h2 := h.each.1 _ (List.getElem_mem hi)
      exact ⟨owns_grown h1.1 hg fun b hb e => (pair_at h.each.2 hi hj hji).1 b hb e, owns_grown h1.2 hg fun b hb e => owns_apart h2.1 h1.2 it_type.2.2 b e hb⟩

/-- The kids of one item are written. -/
theorem MkSt.kids {B g cap n : Nat} {L0 : List It3} {w wr : World} {L : List It3} (h : MkSt B g cap n L0 w wr L) {i : Nat} (hi : i < L.length) (p : It3) {w' : World} (hv : itV p = itV (L[i]'hi)) (hp : p.2 = (L[i]'hi).2) (ha : p.1.ats = (L[i]'hi).1.ats)
    (ho : w'.ownsRow B 3 1 (L[i]'hi).2.2 p.1.kids.length (intCellsI p.1.kids)) (hg : wr.grownBy w' (L[i]'hi).2.2.ownBlock) : MkSt B g cap n L0 w w' (L.set i p) := by
  obtain ⟨q0, hq0, e0⟩ := h.val hi
  have hcell : itCells (L.set i p) = itCells L := by
    have := itCells_set L i 0 hi (by omega) p (.int .i64 (L[i]'hi).1.kd) (by rw [hv]; rfl)
    rw [← this]
    apply List.ext_getElem?
    intro j
    rw [List.getElem?_set]
    by_cases e : i * 7 + 0 = j
    · subst e
      rw [if_pos rfl, if_pos (by rw [itCells_length]; omega), itCells_at L i 0 hi (by omega)]
      rfl
    · rw [if_neg e]
  refine ⟨by rw [List.length_set]; exact h.len, (set_vals hi hp).trans h.vals, ?_, ⟨fun q hq => ?_, pairs_set hi hp h.each.2⟩, h.kb.trans (Kb.of_grown hg fun k e => .inr ⟨q0, hq0, .inr (by rw [e0]; exact e)⟩)⟩
  · rw [hcell]
    exact owns_grown h.row hg fun b hb e => (h.apart (List.getElem_mem hi)).2 (by rw [e]; exact hb.symm ▸ rfl)
  · rcases mem_set hq with rfl | ⟨j, hj, hji, rfl⟩
    · have h1 := h.each.1 _ (List.getElem_mem hi)
      rw [hp, ha]
      exact ⟨owns_grown h1.1 hg fun b hb e => owns_apart h1.2 h1.1 it_type.2.2.symm b e hb, ho⟩
    · have h1 := h.each.1 _ (List.getElem_mem hj)
      have h2 := h.each.1 _ (List.getElem_mem hi)
      exact ⟨owns_grown h1.1 hg fun b hb e => owns_apart h2.2 h1.1 it_type.2.2.symm b e hb, owns_grown h1.2 hg fun b hb e => (pair_at h.each.2 hi hj hji).2 b hb e⟩

end Go.Proofs.Ytlnegnikedinaaa.Sg
