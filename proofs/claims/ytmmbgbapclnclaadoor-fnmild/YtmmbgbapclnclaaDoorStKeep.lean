/- What stays while a law goes on. -/
import Derived.Test.YtmmbgbapclnclaaDoorGCur
namespace Go.Proofs.YtmmbgbapclnclaaDoor.Sg
open Go.ChangeShapes Go.WideShapes Go.ChangeAt Go.RowKit

/-- What stays while the law goes on: the bytes of the draw, and the tables. -/
def SKeep (T : World → Prop) (w : World) (a : Option Addr) (n : Nat) (w' : World) : Prop := Below w.heap.size w w' ∧ Code w'.heap.size w' a n ∧ T w'
theorem SKeep.step {T : World → Prop} {w : World} {a : Option Addr} {n : Nat} {w' w'' : World} (h : SKeep T w a n w') (keep : ∀ W W', T W → Below W.heap.size W W' → T W') (hb : Below w'.heap.size w' w'') : SKeep T w a n w'' :=
  ⟨h.1.trans (hb.mono h.1.size), (h.2.1.below hb).raise hb.size, keep _ _ h.2.2 hb⟩

end Go.Proofs.YtmmbgbapclnclaaDoor.Sg
