/- Contract of the program's Raw. -/
import Derived.Test.YtfdigdemoeepoaaDoorTkRawP
namespace Go.Proofs.YtfdigdemoeepoaaDoor.Sg
open Go.ChangeShapes Go.WideShapes Go.ChangeAt Go.RowKit

set_option maxHeartbeats 1000000 in
theorem implRaw (s : ByteArray) (w : World) :
    Calls Tryd.prog 28 #[.string s] w fun e w' => e = .returned (.bool (rawB s)) ∧ w' = w := by
  have e1 : (⟨#[115, 99, 114, 105, 112, 116]⟩ : ByteArray).toList = [115, 99, 114, 105, 112, 116] := ByteArray.toList_mk _
  have e2 : (⟨#[115, 116, 121, 108, 101]⟩ : ByteArray).toList = [115, 116, 121, 108, 101] := ByteArray.toList_mk _
  have e3 : (⟨#[116, 105, 116, 108, 101]⟩ : ByteArray).toList = [116, 105, 116, 108, 101] := ByteArray.toList_mk _
  have e4 : (⟨#[116, 101, 120, 116, 97, 114, 101, 97]⟩ : ByteArray).toList = [116, 101, 120, 116, 97, 114, 101, 97] := ByteArray.toList_mk _
  have Hn : Hid (rawB s = (s.toList == [115, 99, 114, 105, 112, 116] || (s.toList == [115, 116, 121, 108, 101] || (s.toList == [116, 105, 116, 108, 101] || s.toList == [116, 101, 120, 116, 97, 114, 101, 97])))) := rfl
  cases h1 : s.toList == [115, 99, 114, 105, 112, 116]
  · cases h2 : s.toList == [115, 116, 121, 108, 101]
    · cases h3 : s.toList == [116, 105, 116, 108, 101]
      · cases h4 : s.toList == [116, 101, 120, 116, 97, 114, 101, 97]
        · rw [h1, h2, h3, h4] at Hn
          go_enter Tryd.func28, Tryd.ntmps28
          go_wp2
          go_ret
          exact ⟨ret_bool' (by rw [Hn.out]; rfl), rfl⟩
        · rw [h1, h2, h3, h4] at Hn
          go_enter Tryd.func28, Tryd.ntmps28
          go_wp2
          go_ret
          exact ⟨ret_bool' (by rw [Hn.out]; rfl), rfl⟩
      · rw [h1, h2, h3] at Hn
        go_enter Tryd.func28, Tryd.ntmps28
        go_wp2
        go_ret
        exact ⟨ret_bool' (by rw [Hn.out]; rfl), rfl⟩
    · rw [h1, h2] at Hn
      go_enter Tryd.func28, Tryd.ntmps28
      go_wp2
      go_ret
      exact ⟨ret_bool' (by rw [Hn.out]; rfl), rfl⟩
  · rw [h1] at Hn
    go_enter Tryd.func28, Tryd.ntmps28
    go_wp2
    go_ret
    exact ⟨ret_bool' (by rw [Hn.out]; rfl), rfl⟩

end Go.Proofs.YtfdigdemoeepoaaDoor.Sg
