/- Plain: the names of tags whose text is raw. -/
import Derived.Test.YtfdigdemoeepoaaDoorSgOk
namespace Go.Proofs.YtfdigdemoeepoaaDoor.Sg

/-- A tag whose text is taken as it comes. -/
def rawB (s : ByteArray) : Bool := s.toList == [115, 99, 114, 105, 112, 116] || (s.toList == [115, 116, 121, 108, 101] || (s.toList == [116, 105, 116, 108, 101] || s.toList == [116, 101, 120, 116, 97, 114, 101, 97]))

theorem ret_bool' {a b : Bool} (h : a = b) : Ending.returned (.bool a) = .returned (.bool b) := by rw [h]

end Go.Proofs.YtfdigdemoeepoaaDoor.Sg
