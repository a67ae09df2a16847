/- Contracts of the model's l1Max, l8Unmark. -/
import Derived.Test.YtmkgabbgmhoneaaCpInts
namespace Go.Proofs.Ytmkgabbgmhoneaa.Sg
open Go.ChangeShapes Go.WideShapes Go.ChangeAt Go.RowKit

/-- The last mark among the first n; -1. -/
def lastF (zs : List Int) : Nat → Int
  | 0 => -1
  | n + 1 => if zs.getD n 0 = -1 then (n : Int) else lastF zs n
theorem lastF_le (zs : List Int) : ∀ n, lastF zs n < (n : Int) ∨ lastF zs n = -1
  | 0 => .inr rfl
  | n + 1 => by
    unfold lastF
    split
    · left; omega
    · rcases lastF_le zs n with h | h
      · left; omega
      · exact .inr h
theorem lastF_ge (zs : List Int) : ∀ n, -1 ≤ lastF zs n
  | 0 => by simp [lastF]
  | n + 1 => by
    unfold lastF
    split
    · omega
    · exact lastF_ge zs n
/-- Formats without the last mark and what is behind it. -/
def unmarkL (zs : List Int) : List Int := zs.take (lastF zs zs.length).toNat

theorem rm_take {w : World} {b off n cap k : Nat} {zs : List Int} (h : RmInts w (.slice (some ⟨b, off, none⟩) n cap) zs) (hk : k ≤ zs.length) : RmInts w (.slice (some ⟨b, off, none⟩) k cap) (zs.take k) := by
  obtain ⟨a, c, e, hc, hI⟩ := h
  injection e with e1 e2 e3
  subst e1 e3
  have hl : (zs.take k).length = k := by rw [List.length_take]; omega
  refine ⟨_, _, by rw [hl], by rw [hl]; omega, ?_⟩
  rcases hI with h0 | ⟨b', off', e, hb, hcell⟩
  · exact .inl (by simp [h0])
  · cases e
    refine .inr ⟨b, off, rfl, hb, fun i hi => ?_⟩
    have hi' : i < k := by rw [hl] at hi; exact hi
    rw [hcell i (by omega)]
    simp [List.getD, hi']

theorem wpList_append_intsN (w : World) {ops : Array Oper} {rest : List Oper} {o : Oper} {a : Act} {Q : Exit → Act → World → Prop} (hgd : o.guard = none) (s x : Operand)
    (ho : o.op = .call { callee := .builtin .append, args := #[s, x], argTypes := #[23, 23] }) (g : Nat) (hs : a.eval s = .slice (some ⟨g, 0, none⟩) 0 0)
    (u : Value) (zs : List Int) (n : Nat) (hl : zs.length = n) (hx : a.eval x = u) (hu : RmInts w u zs) (hn : zs.length ≤ 1099511627776)
    (h : ∀ ad c w', RmLate w.heap.size w' (.slice ad n c) zs → Below w.heap.size w w' → wpList Try.prog ops Q rest (a.put o.dst (.slice ad n c)) w') : wpList Try.prog ops Q (o :: rest) a w := by
  subst hl
  exact wpList_append_ints w hgd s x ho g hs u zs hx hu hn h



end Go.Proofs.Ytmkgabbgmhoneaa.Sg
