/- The laws' attributes, as they come in: weighed. -/
import Derived.Test.YtbmmghkieolpkaaGreatDoorGAttrs
import Derived.Laws.DeepStrings4
namespace Go.Proofs.YtbmmghkieolpkaaGreatDoor.Sg
open Go.ChangeShapes Go.WideShapes Go.ChangeAt Go.RowKit

/-- A slice of attributes, wherever it begins, holds just l. -/
def AttrsIn (w : World) (a : Option Addr) (l : List AttrB) : Prop :=
  l = [] ∨ ∃ b off, a = some ⟨b, off, none⟩ ∧ b < w.heap.size ∧ ∀ k (h : k < l.length), w.cell? ⟨b, off + k * 2, none⟩ = some (.string (l[k]'h).1) ∧ w.cell? ⟨b, off + k * 2 + 1, none⟩ = some (.string (l[k]'h).2)
theorem AttrsIn.keep {w w' : World} {a : Option Addr} {l : List AttrB} (h : AttrsIn w a l) (hb : Below w.heap.size w w') : AttrsIn w' a l := by
  rcases h with h | ⟨b, off, h1, h2, h3⟩
  · exact .inl h
  · exact .inr ⟨b, off, h1, Nat.lt_of_lt_of_le h2 hb.size, fun k hk => ⟨(hb.cell h2).trans (h3 k hk).1, (hb.cell h2).trans (h3 k hk).2⟩⟩
def SlAttrsIn (w : World) (v : Value) (l : List AttrB) : Prop := ∃ a cap, v = .slice a l.length cap ∧ AttrsIn w a l
theorem SlAttrsIn.keep {w w' : World} {v : Value} {l : List AttrB} (h : SlAttrsIn w v l) (hb : Below w.heap.size w w') : SlAttrsIn w' v l := by
  obtain ⟨a, cap, h1, h2⟩ := h
  exact ⟨a, cap, h1, h2.keep hb⟩
/-- What is left of a number when a weight is taken; -1 where it does not go. -/
def leftZ (left : Int) (wt : Nat) : Int := if (wt : Int) ≤ left then left - (wt : Int) else -1
def attrW (p : AttrB) : Nat := p.1.size + p.2.size
def attrsW (l : List AttrB) : Nat := l.length + (l.map attrW).sum

theorem ret_left {a b : Int} (h : a = b) : Ending.returned (.int .i64 a) = .returned (.int .i64 b) := by rw [h]

theorem leftZ_no {cur : Int} {a b : Nat} (h : leftZ cur a < 0) (_hc : 0 ≤ cur) : leftZ cur (a + b) = -1 := by
  unfold leftZ at *
  split at h
  · omega
  · rw [if_neg (by omega)]
theorem leftZ_yes {cur : Int} {a b : Nat} (h : ¬ leftZ cur a < 0) (_hc : 0 ≤ cur) : leftZ cur (a + b) = leftZ (leftZ cur a) b ∧ leftZ cur a ≤ cur := by
  unfold leftZ at *
  by_cases g : (a : Int) ≤ cur
  · rw [if_pos g] at *
    refine ⟨?_, by omega⟩
    by_cases g2 : ((a + b : Nat) : Int) ≤ cur
    · rw [if_pos g2, if_pos (by omega)]
      omega
    · rw [if_neg g2, if_neg (by omega)]
  · rw [if_neg g] at h
    omega
theorem leftZ_zero {cur : Int} (hc : 0 ≤ cur) : leftZ cur 0 = cur := by
  unfold leftZ
  rw [if_pos (by omega)]
  omega
theorem sum_drop {X : Type} (f : X → Nat) (l : List X) (k : Nat) (h : k < l.length) : ((l.drop k).map f).sum = f (l[k]'h) + ((l.drop (k + 1)).map f).sum := by
  rw [List.drop_eq_getElem_cons h, List.map_cons, List.sum_cons]

/-- Texts of attributes that a machine can hold. -/
def AttrsHeld (l : List AttrB) : Prop := l.length ≤ 9223372036854775807 ∧ ∀ p ∈ l, p.1.size ≤ 9223372036854775807 ∧ p.2.size ≤ 9223372036854775807

end Go.Proofs.YtbmmghkieolpkaaGreatDoor.Sg
