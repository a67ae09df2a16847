/- The laws' attributes, as they come in: weighed. -/
import Derived.Test.YtbmmghkieolpkaaGreatDoorGAttrs
import Derived.Laws.DeepStrings4
namespace Go.Proofs.YtbmmghkieolpkaaGreatDoor.Sg
open Go.ChangeShapes Go.WideShapes Go.ChangeAt Go.RowKit

def attrW (p : AttrB) : Nat := p.1.size + p.2.size
def attrsW (l : List AttrB) : Nat := l.length + (l.map attrW).sum

end Go.Proofs.YtbmmghkieolpkaaGreatDoor.Sg
