/- Contracts of Clean and CleanOk, of the program and of the model. -/
import Derived.Test.YtdpjmngodbgacaaGreatDoorSgSignsIQ
import Derived.Test.YtdpjmngodbgacaaGreatDoorSgTextIQ
namespace Go.Proofs.YtdpjmngodbgacaaGreatDoor.Sg
open Go.ChangeShapes Go.WideShapes Go.ChangeAt Go.RowKit

/-- A text with its signs written anew. -/
def cleanS (s : ByteArray) : ByteArray := textS (signsL s)

/-- A text is clean. -/
def cleanB (s : ByteArray) : Bool := (cleanS s).toList == s.toList


end Go.Proofs.YtdpjmngodbgacaaGreatDoor.Sg
