/- Words in memory: what they hold, and that a call owns them. -/
import Derived.Test.YtploagieecepfaaGAttrs
namespace Go.Proofs.Ytploagieecepfaa.Sg
open Go.ChangeShapes Go.WideShapes Go.ChangeAt Go.RowKit

/-- A word: its kind, name, attributes, text, and whether it is Self. -/
abbrev TokB := Int × ByteArray × List AttrB × ByteArray × Bool
def tok0 : TokB := (0, ⟨#[]⟩, [], ⟨#[]⟩, false)

/-- The five cells of a word, its attributes' slice given. -/
def tokV (p : TokB × Value) : List Value := [.int .i64 p.1.1, .string p.1.2.1, p.2, .string p.1.2.2.2.1, .bool p.1.2.2.2.2]
def tokCells (l : List (TokB × Value)) : List Value := l.flatMap tokV
theorem tokCells_length (l : List (TokB × Value)) : (tokCells l).length = l.length * 5 := by
  induction l with
  | nil => rfl
  | cons p l ih =>
    unfold tokCells at *
    rw [List.flatMap_cons, List.length_append, ih, List.length_cons]
    show 5 + l.length * 5 = _
    omega
theorem tokCells_more (l : List (TokB × Value)) (p : TokB × Value) : tokCells (l ++ [p]) = tokCells l ++ tokV p := by
  unfold tokCells
  simp
theorem tokCells_at : ∀ (l : List (TokB × Value)) (k j : Nat) (h : k < l.length), j < 5 → (tokCells l)[k * 5 + j]? = (tokV (l[k]'h))[j]?
  | [], k, j, h, _ => absurd h (Nat.not_lt_zero _)
  | p :: l, 0, j, _, hj => by
    show (tokV p ++ tokCells l)[0 * 5 + j]? = _
    rw [List.getElem?_append_left (by show 0 * 5 + j < 5; omega), Nat.zero_mul, Nat.zero_add]
    rfl
  | p :: l, k + 1, j, h, hj => by
    show (tokV p ++ tokCells l)[(k + 1) * 5 + j]? = _
    rw [List.getElem?_append_right (by show 5 ≤ _; omega)]
    have e : (k + 1) * 5 + j - (tokV p).length = k * 5 + j := by show (k + 1) * 5 + j - 5 = _; omega
    rw [e, tokCells_at l k j (by simpa using h) hj]
    rfl

/-- A slice value holds just these attributes. -/
def SlAttrs (w : World) (v : Value) (l : List AttrB) : Prop := ∃ a cap, v = .slice a l.length cap ∧ AttrsAt w a l

/-- A slice of words holds just l. -/
def ToksAt (w : World) (a : Option Addr) (l : List TokB) : Prop :=
  l = [] ∨ ∃ b, a = some ⟨b, 0, none⟩ ∧ b < w.heap.size ∧ ∀ k (h : k < l.length), w.cell? ⟨b, k * 5, none⟩ = some (.int .i64 (l[k]'h).1) ∧ w.cell? ⟨b, k * 5 + 1, none⟩ = some (.string (l[k]'h).2.1) ∧ (∃ sv, w.cell? ⟨b, k * 5 + 2, none⟩ = some sv ∧ SlAttrs w sv (l[k]'h).2.2.1) ∧ w.cell? ⟨b, k * 5 + 3, none⟩ = some (.string (l[k]'h).2.2.2.1) ∧ w.cell? ⟨b, k * 5 + 4, none⟩ = some (.bool (l[k]'h).2.2.2.2)

theorem SlAttrs.keep {w w' : World} {v : Value} {l : List AttrB} (h : SlAttrs w v l) (hb : Below w.heap.size w w') : SlAttrs w' v l := by
  obtain ⟨a, cap, h1, h2⟩ := h
  exact ⟨a, cap, h1, h2.below hb⟩
theorem ToksAt.keep {w w' : World} {a : Option Addr} {l : List TokB} (h : ToksAt w a l) (hb : Below w.heap.size w w') : ToksAt w' a l := by
  rcases h with h | ⟨b, h1, h2, h3⟩
  · exact .inl h
  · refine .inr ⟨b, h1, Nat.lt_of_lt_of_le h2 hb.size, fun k hk => ?_⟩
    obtain ⟨c0, c1, ⟨sv, c2, hs⟩, c3, c4⟩ := h3 k hk
    exact ⟨(hb.cell h2).trans c0, (hb.cell h2).trans c1, ⟨sv, (hb.cell h2).trans c2, hs.keep hb⟩, (hb.cell h2).trans c3, (hb.cell h2).trans c4⟩

/-- The attributes of words are owned, each row by itself. -/
def OwnEach (w : World) (B : Nat) (L : List (TokB × Value)) : Prop :=
  (∀ p ∈ L, w.ownsRow B 74 2 p.2 p.1.2.2.1.length (attrCells p.1.2.2.1)) ∧ L.Pairwise fun p q => ∀ b, p.2.ownBlock = some b → q.2.ownBlock ≠ some b
theorem OwnEach.grown {w w' : World} {B : Nat} {L : List (TokB × Value)} {r : Option Nat} (h : OwnEach w B L) (hg : w.grownBy w' r) (hne : ∀ p ∈ L, ∀ b, p.2.ownBlock = some b → r ≠ some b) : OwnEach w' B L :=
  ⟨fun p hp => owns_grown (h.1 p hp) hg (hne p hp), h.2⟩
theorem OwnEach.keep {w w' : World} {B : Nat} {L : List (TokB × Value)} (h : OwnEach w B L) (hb : Below w.heap.size w w') : OwnEach w' B L :=
  ⟨fun p hp => owns_below (h.1 p hp) (Nat.le_refl _) hb, h.2⟩
end Go.Proofs.Ytploagieecepfaa.Sg
