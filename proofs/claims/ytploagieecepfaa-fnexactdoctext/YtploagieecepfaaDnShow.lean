/- Plain: elements shown, line by line. -/
import Derived.Test.YtploagieecepfaaDnP
import Derived.Test.YtploagieecepfaaShDoc
import Derived.Test.YtploagieecepfaaSoEnd
namespace Go.Proofs.Ytploagieecepfaa.Sg
open Go.ChangeShapes Go.WideShapes Go.ChangeAt Go.RowKit

/-- The line of an element. -/
def lineT (t : Tl) : List UInt8 := catB [blankS (t.deep - 1), kindS t.kd elNames', ⟨#[32]⟩ ++ namedS t.nm t.tx, ⟨#[]⟩, ⟨#[]⟩, ⟨#[10]⟩]
mutual
theorem show_preE : ∀ (e : ElB) (d : Nat), (showE e d).data.toList = (preE e (d + 1)).flatMap lineT
  | .mk kd sp nm ats tx ks, d => by
    rw [showE, preE, List.flatMap_cons, ← show_preL ks (d + 1)]
    simp only [app_bytes, lineT, catB, List.flatMap_cons, List.flatMap_nil, List.append_assoc, List.append_nil, Nat.add_sub_cancel]
    rfl
theorem show_preL : ∀ (es : List ElB) (d : Nat), (showL es d).data.toList = (preL es (d + 1)).flatMap lineT
  | [], d => by rw [showL, preL]; rfl
  | e :: es, d => by rw [showL, preL, app_bytes, List.flatMap_append, show_preE e d, show_preL es d]
end
theorem lineT_named (t : Tl) : (namedS t.nm t.tx).size ≤ (lineT t).length := by
  have h : (⟨#[32]⟩ ++ namedS t.nm t.tx : ByteArray).data.toList.length = (⟨#[32]⟩ ++ namedS t.nm t.tx : ByteArray).size := Array.length_toList
  rw [ByteArray.size_append] at h
  simp only [lineT, catB, List.flatMap_cons, List.length_append]
  omega
mutual
/-- None of these is deeper than all are. -/
theorem preE_deep : ∀ (e : ElB) (d : Nat) (t : Tl), t ∈ preE e d → d ≤ t.deep ∧ t.deep + 1 ≤ d + elD e
  | .mk kd sp nm ats tx ks, d, t, h => by
    rw [preE] at h
    rw [elD]
    rcases List.mem_cons.1 h with h | h
    · subst h
      exact ⟨Nat.le_refl _, by simp only; omega⟩
    · have := preL_deep ks (d + 1) t h
      omega
theorem preL_deep : ∀ (es : List ElB) (d : Nat) (t : Tl), t ∈ preL es d → d ≤ t.deep ∧ t.deep + 1 ≤ d + elsD es
  | [], d, t, h => by rw [preL] at h; nomatch h
  | e :: es, d, t, h => by
    rw [preL] at h
    rw [elsD]
    rcases List.mem_append.1 h with h | h
    · have := preE_deep e d t h
      omega
    · have := preL_deep es d t h
      omega
end

end Go.Proofs.Ytploagieecepfaa.Sg
