/- Items in memory: what they hold, and that a call owns them. -/
import Derived.Test.YtlnegnikedinaaaMDPopTo06
import Derived.Test.YtlnegnikedinaaaGInts
import Derived.Test.YtlnegnikedinaaaLwToA
namespace Go.Proofs.Ytlnegnikedinaaa.Sg
open Go.ChangeShapes Go.WideShapes Go.ChangeAt Go.RowKit

/-- An item of a tree. -/
structure ItB where
  kd : Int
  sp : Int
  nm : ByteArray
  ats : List AttrB
  tx : ByteArray
  up : Int
  kids : List Int
def it0 : ItB := ⟨0, 0, ⟨#[]⟩, [], ⟨#[]⟩, 0, []⟩

/-- The seven cells of an item, its two slices given. -/
def itV (p : ItB × Value × Value) : List Value := [.int .i64 p.1.kd, .int .i64 p.1.sp, .string p.1.nm, p.2.1, .string p.1.tx, .int .i64 p.1.up, p.2.2]
def itCells (l : List (ItB × Value × Value)) : List Value := l.flatMap itV
theorem itCells_length (l : List (ItB × Value × Value)) : (itCells l).length = l.length * 7 := by
  induction l with
  | nil => rfl
  | cons p l ih =>
    unfold itCells at *
    rw [List.flatMap_cons, List.length_append, ih, List.length_cons]
    show 7 + l.length * 7 = _
    omega
theorem itCells_more (l : List (ItB × Value × Value)) (p : ItB × Value × Value) : itCells (l ++ [p]) = itCells l ++ itV p := by
  unfold itCells
  simp
theorem itCells_at : ∀ (l : List (ItB × Value × Value)) (k j : Nat) (h : k < l.length), j < 7 → (itCells l)[k * 7 + j]? = (itV (l[k]'h))[j]?
  | [], k, j, h, _ => absurd h (Nat.not_lt_zero _)
  | p :: l, 0, j, _, hj => by
    show (itV p ++ itCells l)[0 * 7 + j]? = _
    rw [List.getElem?_append_left (by show 0 * 7 + j < 7; omega), Nat.zero_mul, Nat.zero_add]
    rfl
  | p :: l, k + 1, j, h, hj => by
    show (itV p ++ itCells l)[(k + 1) * 7 + j]? = _
    rw [List.getElem?_append_right (by show 7 ≤ _; omega)]
    have e : (k + 1) * 7 + j - (itV p).length = k * 7 + j := by show (k + 1) * 7 + j - 7 = _; omega
    rw [e, itCells_at l k j (by simpa using h) hj]
    rfl

/-- A slice value holds just these numbers. -/
def SlInts (w : World) (v : Value) (zs : List Int) : Prop := ∃ a cap, v = .slice a zs.length cap ∧ Ints w a zs
theorem SlInts.keep {w w' : World} {v : Value} {zs : List Int} (h : SlInts w v zs) (hb : Below w.heap.size w w') : SlInts w' v zs := by
  obtain ⟨a, cap, h1, h2⟩ := h
  exact ⟨a, cap, h1, h2.below (Nat.le_refl _) hb⟩
/-- The same with room: slices that a program may cut. -/
def RmAttrs (w : World) (v : Value) (l : List AttrB) : Prop := ∃ a cap, v = .slice a l.length cap ∧ l.length ≤ cap ∧ AttrsAt w a l
def RmInts (w : World) (v : Value) (zs : List Int) : Prop := ∃ a cap, v = .slice a zs.length cap ∧ zs.length ≤ cap ∧ Ints w a zs
theorem RmAttrs.keep {w w' : World} {v : Value} {l : List AttrB} (h : RmAttrs w v l) (hb : Below w.heap.size w w') : RmAttrs w' v l := by
  obtain ⟨a, cap, h1, h2, h3⟩ := h
  exact ⟨a, cap, h1, h2, h3.below hb⟩
theorem RmInts.keep {w w' : World} {v : Value} {zs : List Int} (h : RmInts w v zs) (hb : Below w.heap.size w w') : RmInts w' v zs := by
  obtain ⟨a, cap, h1, h2, h3⟩ := h
  exact ⟨a, cap, h1, h2, h3.below (Nat.le_refl _) hb⟩

/-- A slice of items, wherever it begins, holds just l. -/
def ItsIn (w : World) (a : Option Addr) (l : List ItB) : Prop :=
  l = [] ∨ ∃ b off, a = some ⟨b, off, none⟩ ∧ b < w.heap.size ∧ ∀ k (h : k < l.length), w.cell? ⟨b, off + k * 7, none⟩ = some (.int .i64 (l[k]'h).kd) ∧ w.cell? ⟨b, off + k * 7 + 1, none⟩ = some (.int .i64 (l[k]'h).sp) ∧ w.cell? ⟨b, off + k * 7 + 2, none⟩ = some (.string (l[k]'h).nm) ∧ (∃ sv, w.cell? ⟨b, off + k * 7 + 3, none⟩ = some sv ∧ SlAttrsIn w sv (l[k]'h).ats) ∧ w.cell? ⟨b, off + k * 7 + 4, none⟩ = some (.string (l[k]'h).tx) ∧ w.cell? ⟨b, off + k * 7 + 5, none⟩ = some (.int .i64 (l[k]'h).up) ∧ (∃ kv, w.cell? ⟨b, off + k * 7 + 6, none⟩ = some kv ∧ SlInts w kv (l[k]'h).kids)
theorem ItsIn.keep {w w' : World} {a : Option Addr} {l : List ItB} (h : ItsIn w a l) (hb : Below w.heap.size w w') : ItsIn w' a l := by
  rcases h with h | ⟨b, off, h1, h2, h3⟩
  · exact .inl h
  · refine .inr ⟨b, off, h1, Nat.lt_of_lt_of_le h2 hb.size, fun k hk => ?_⟩
    obtain ⟨c0, c1, c2, ⟨sv, c3, hs⟩, c4, c5, ⟨kv, c6, hi⟩⟩ := h3 k hk
    exact ⟨(hb.cell h2).trans c0, (hb.cell h2).trans c1, (hb.cell h2).trans c2, ⟨sv, (hb.cell h2).trans c3, hs.keep hb⟩, (hb.cell h2).trans c4, (hb.cell h2).trans c5, ⟨kv, (hb.cell h2).trans c6, hi.keep hb⟩⟩
/-- A slice of items from a block's beginning on, with room in each list. -/
def ItsAt (w : World) (a : Option Addr) (l : List ItB) : Prop :=
  l = [] ∨ ∃ b, a = some ⟨b, 0, none⟩ ∧ b < w.heap.size ∧ ∀ k (h : k < l.length), w.cell? ⟨b, k * 7, none⟩ = some (.int .i64 (l[k]'h).kd) ∧ w.cell? ⟨b, k * 7 + 1, none⟩ = some (.int .i64 (l[k]'h).sp) ∧ w.cell? ⟨b, k * 7 + 2, none⟩ = some (.string (l[k]'h).nm) ∧ (∃ sv, w.cell? ⟨b, k * 7 + 3, none⟩ = some sv ∧ RmAttrs w sv (l[k]'h).ats) ∧ w.cell? ⟨b, k * 7 + 4, none⟩ = some (.string (l[k]'h).tx) ∧ w.cell? ⟨b, k * 7 + 5, none⟩ = some (.int .i64 (l[k]'h).up) ∧ (∃ kv, w.cell? ⟨b, k * 7 + 6, none⟩ = some kv ∧ RmInts w kv (l[k]'h).kids)
theorem ItsAt.keep {w w' : World} {a : Option Addr} {l : List ItB} (h : ItsAt w a l) (hb : Below w.heap.size w w') : ItsAt w' a l := by
  rcases h with h | ⟨b, h1, h2, h3⟩
  · exact .inl h
  · refine .inr ⟨b, h1, Nat.lt_of_lt_of_le h2 hb.size, fun k hk => ?_⟩
    obtain ⟨c0, c1, c2, ⟨sv, c3, hs⟩, c4, c5, ⟨kv, c6, hi⟩⟩ := h3 k hk
    exact ⟨(hb.cell h2).trans c0, (hb.cell h2).trans c1, (hb.cell h2).trans c2, ⟨sv, (hb.cell h2).trans c3, hs.keep hb⟩, (hb.cell h2).trans c4, (hb.cell h2).trans c5, ⟨kv, (hb.cell h2).trans c6, hi.keep hb⟩⟩
/-- One item of a slice. -/
theorem ItsAt.get {w : World} {a : Option Addr} {l : List ItB} (h : ItsAt w a l) (k : Nat) (hk : k < l.length) : ∃ b, a = some ⟨b, 0, none⟩ ∧ w.cell? ⟨b, k * 7, none⟩ = some (.int .i64 (l[k]'hk).kd) ∧ w.cell? ⟨b, k * 7 + 1, none⟩ = some (.int .i64 (l[k]'hk).sp) ∧ w.cell? ⟨b, k * 7 + 2, none⟩ = some (.string (l[k]'hk).nm) ∧ (∃ sv, w.cell? ⟨b, k * 7 + 3, none⟩ = some sv ∧ RmAttrs w sv (l[k]'hk).ats) ∧ w.cell? ⟨b, k * 7 + 4, none⟩ = some (.string (l[k]'hk).tx) ∧ w.cell? ⟨b, k * 7 + 5, none⟩ = some (.int .i64 (l[k]'hk).up) ∧ (∃ kv, w.cell? ⟨b, k * 7 + 6, none⟩ = some kv ∧ RmInts w kv (l[k]'hk).kids) := by
  rcases h with h | ⟨b, h1, _, h3⟩
  · rw [h] at hk
    exact absurd hk (Nat.not_lt_zero _)
  · exact ⟨b, h1, h3 k hk⟩

def intCellsI (zs : List Int) : List Value := zs.map fun z => .int .i64 z
/-- The lists of items are owned, each by itself. -/
def OwnEachI (w : World) (B : Nat) (L : List (ItB × Value × Value)) : Prop :=
  (∀ p ∈ L, w.ownsRow B 84 2 p.2.1 p.1.ats.length (attrCells p.1.ats) ∧ w.ownsRow B 3 1 p.2.2 p.1.kids.length (intCellsI p.1.kids)) ∧ L.Pairwise fun p q => (∀ b, p.2.1.ownBlock = some b → q.2.1.ownBlock ≠ some b) ∧ (∀ b, p.2.2.ownBlock = some b → q.2.2.ownBlock ≠ some b)
/-- A slice of items is owned, with all that it holds. -/
def OwnIts (w : World) (B : Nat) (v : Value) (l : List ItB) : Prop :=
  ∃ L : List (ItB × Value × Value), L.map (·.1) = l ∧ w.ownsRow B 50 7 v L.length (itCells L) ∧ OwnEachI w B L

theorem it_type : (50 : Nat) ≠ 84 ∧ (50 : Nat) ≠ 3 ∧ (84 : Nat) ≠ 3 := by decide

theorem OwnEachI.keep {w w' : World} {B : Nat} {L : List (ItB × Value × Value)} (h : OwnEachI w B L) (hb : Below w.heap.size w w') : OwnEachI w' B L :=
  ⟨fun p hp => ⟨owns_below (h.1 p hp).1 (Nat.le_refl _) hb, owns_below (h.1 p hp).2 (Nat.le_refl _) hb⟩, h.2⟩
theorem OwnIts.keep {w w' : World} {B : Nat} {v : Value} {l : List ItB} (h : OwnIts w B v l) (hb : Below w.heap.size w w') : OwnIts w' B v l := by
  obtain ⟨L, h1, h2, h3⟩ := h
  exact ⟨L, h1, owns_below h2 (Nat.le_refl _) hb, h3.keep hb⟩

theorem room_of_own {w : World} {B : Nat} {v : Value} {l : List AttrB} {e : TypeId} (h : w.ownsRow B e 2 v l.length (attrCells l)) : RmAttrs w v l := by
  obtain ⟨a, cap, rfl, hA⟩ := attrs_of_own h
  refine ⟨a, cap, rfl, ?_, hA⟩
  obtain ⟨_, h2⟩ := h
  rcases h2 with ⟨h2, h0⟩ | ⟨g, cap', cur, h2, _, _, h5, _⟩
  · rw [h0]
    exact Nat.zero_le _
  · injection h2 with _ _ h2
    rw [h2]
    exact h5
theorem ints_of_own {w : World} {B : Nat} {v : Value} {zs : List Int} {e : TypeId} (h : w.ownsRow B e 1 v zs.length (intCellsI zs)) : RmInts w v zs := by
  obtain ⟨h1, h2⟩ := h
  rcases h2 with ⟨rfl, h0⟩ | ⟨g, cap, cur, rfl, h3, h4, h5, h6, h7, h8⟩
  · have : zs = [] := List.eq_nil_of_length_eq_zero h0
    subst this
    exact ⟨none, 0, rfl, Nat.le_refl _, .inl rfl⟩
  · refine ⟨_, _, rfl, h5, .inr ⟨g, 0, rfl, (Array.getElem?_eq_some_iff.1 h4).1, fun i hi => ?_⟩⟩
    have a1 : (intCellsI zs)[i]? = some (.int .i64 (zs.getD i 0)) := by
      unfold intCellsI
      simp [List.getD, hi]
    rw [← h8, List.getElem?_take_of_lt (by omega), Array.getElem?_toList] at a1
    rw [Nat.zero_add]
    simp [World.cell?, h4, a1]
theorem its_of_own {w : World} {B : Nat} {v : Value} {l : List ItB} (h : OwnIts w B v l) : ∃ a cap, v = .slice a l.length cap ∧ l.length ≤ cap ∧ ItsAt w a l := by
  obtain ⟨L, rfl, ⟨h1, h2⟩, h3, _⟩ := h
  rw [List.length_map]
  rcases h2 with ⟨rfl, h0⟩ | ⟨g, cap, cur, rfl, g3, g4, g5, g6, g7, g8⟩
  · have : L = [] := List.eq_nil_of_length_eq_zero h0
    subst this
    exact ⟨none, 0, rfl, Nat.le_refl _, .inl rfl⟩
  · refine ⟨_, _, rfl, g5, .inr ⟨g, rfl, (Array.getElem?_eq_some_iff.1 g4).1, fun k hk => ?_⟩⟩
    have hkL : k < L.length := by simpa using hk
    have cell : ∀ j, j < 7 → w.cell? ⟨g, k * 7 + j, none⟩ = (itV (L[k]'hkL))[j]? := fun j hj => by
      have a1 := itCells_at L k j hkL hj
      rw [← g8, List.getElem?_take_of_lt (by omega), Array.getElem?_toList] at a1
      rw [← a1]
      simp [World.cell?, g4]
    have e : (L.map (·.1))[k]'hk = (L[k]'hkL).1 := by simp
    rw [e]
    obtain ⟨o1, o2⟩ := h3 _ (List.getElem_mem hkL)
    exact ⟨cell 0 (by omega), cell 1 (by omega), cell 2 (by omega), ⟨_, cell 3 (by omega), room_of_own o1⟩, cell 4 (by omega), cell 5 (by omega), ⟨_, cell 6 (by omega), ints_of_own o2⟩⟩

/-- The weight of items. -/
def itW (t : ItB) : Nat := t.nm.size + (attrsW t.ats + (t.tx.size + t.kids.length))
def itsW (l : List ItB) : Nat := l.length + (l.map itW).sum
def ItHeld (t : ItB) : Prop := t.nm.size ≤ 9223372036854775807 ∧ AttrsHeld t.ats ∧ t.tx.size ≤ 9223372036854775807 ∧ t.kids.length ≤ 9223372036854775807
def ItsHeld (l : List ItB) : Prop := l.length ≤ 9223372036854775807 ∧ ∀ t ∈ l, ItHeld t

end Go.Proofs.Ytlnegnikedinaaa.Sg
