/- The laws' words, as they come in. -/
import Derived.Test.YtploagieecepfaaDoorTnMem
import Derived.Test.YtploagieecepfaaDoorLwToA
namespace Go.Proofs.YtploagieecepfaaDoor.Sg
open Go.ChangeShapes Go.WideShapes Go.ChangeAt Go.RowKit

/-- A slice of words, wherever it begins, holds just l. -/
def ToksIn (w : World) (a : Option Addr) (l : List TokB) : Prop :=
  l = [] ∨ ∃ b off, a = some ⟨b, off, none⟩ ∧ b < w.heap.size ∧ ∀ k (h : k < l.length), w.cell? ⟨b, off + k * 5, none⟩ = some (.int .i64 (l[k]'h).1) ∧ w.cell? ⟨b, off + k * 5 + 1, none⟩ = some (.string (l[k]'h).2.1) ∧ (∃ sv, w.cell? ⟨b, off + k * 5 + 2, none⟩ = some sv ∧ SlAttrsIn w sv (l[k]'h).2.2.1) ∧ w.cell? ⟨b, off + k * 5 + 3, none⟩ = some (.string (l[k]'h).2.2.2.1) ∧ w.cell? ⟨b, off + k * 5 + 4, none⟩ = some (.bool (l[k]'h).2.2.2.2)
theorem ToksIn.keep {w w' : World} {a : Option Addr} {l : List TokB} (h : ToksIn w a l) (hb : Below w.heap.size w w') : ToksIn w' a l := by
  rcases h with h | ⟨b, off, h1, h2, h3⟩
  · exact .inl h
  · refine .inr ⟨b, off, h1, Nat.lt_of_lt_of_le h2 hb.size, fun k hk => ?_⟩
    obtain ⟨c0, c1, ⟨sv, c2, hs⟩, c3, c4⟩ := h3 k hk
    exact ⟨(hb.cell h2).trans c0, (hb.cell h2).trans c1, ⟨sv, (hb.cell h2).trans c2, hs.keep hb⟩, (hb.cell h2).trans c3, (hb.cell h2).trans c4⟩

def tokW (t : TokB) : Nat := t.2.1.size + attrsW t.2.2.1 + t.2.2.2.1.size
def toksW (l : List TokB) : Nat := l.length + (l.map tokW).sum

end Go.Proofs.YtploagieecepfaaDoor.Sg
