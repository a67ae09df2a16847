/- Words in memory: their attributes' slices have room for what they hold. -/
import Derived.Test.YtmambbknljgjcaaDoorTnMem
namespace Go.Proofs.YtmambbknljgjcaaDoor.Sg
open Go.ChangeShapes Go.WideShapes Go.ChangeAt Go.RowKit

def SlC (v : Value) : Prop := ∀ a n c, v = .slice a n c → n ≤ c
def CapsAt (w : World) (a : Option Addr) (l : List TokB) : Prop := ∀ b, a = some ⟨b, 0, none⟩ → ∀ k, k < l.length → ∀ sv, w.cell? ⟨b, k * 5 + 2, none⟩ = some sv → SlC sv
theorem CapsAt.keep {w w' : World} {a : Option Addr} {l : List TokB} (h : CapsAt w a l) (ht : ToksAt w a l) (hb : Below w.heap.size w w') : CapsAt w' a l := by
  intro b ha k hk sv hsv
  rcases ht with rfl | ⟨b', h1, h2, _⟩
  · exact absurd hk (Nat.not_lt_zero _)
  · rw [ha] at h1
    have e : b = b' := by
      have := Option.some.inj h1
      injection this
    subst e
    rw [hb.cell h2] at hsv
    exact h b ha k hk sv hsv
theorem SlC.of_own {w : World} {B n : Nat} {e : TypeId} {z : Nat} {v : Value} {xs : List Value} (h : w.ownsRow B e z v n xs) : SlC v := by
  obtain ⟨_, h2⟩ := h
  intro a m c hv
  rcases h2 with ⟨rfl, _⟩ | ⟨g, cap, cur, rfl, _, _, h5, _⟩
  · cases hv
    exact Nat.le_refl _
  · cases hv
    exact h5
theorem caps_of_own {w : World} {B : Nat} {v : Value} {l : List TokB} (h : OwnToks w B v l) (a : Option Addr) (n c : Nat) (hv : v = .slice a n c) : CapsAt w a l := by
  obtain ⟨L, rfl, ⟨h1, h2⟩, h3, _⟩ := h
  intro b ha k hk sv hsv
  have hkL : k < L.length := by simpa using hk
  rcases h2 with ⟨rfl, h0⟩ | ⟨g, cap, cur, rfl, g3, g4, g5, g6, g7, g8⟩
  · rw [h0] at hkL
    exact absurd hkL (Nat.not_lt_zero _)
  · cases hv
    have e : g = b := by
      have := Option.some.inj ha
      injection this
    subst e
    have a1 := tokCells_at L k 2 hkL (by omega)
    rw [← g8, List.getElem?_take_of_lt (by omega), Array.getElem?_toList] at a1
    have c1 : w.cell? ⟨g, k * 5 + 2, none⟩ = some (L[k]'hkL).2 := by
      have : w.cell? ⟨g, k * 5 + 2, none⟩ = cur[k * 5 + 2]? := by simp [World.cell?, g4]
      rw [this, a1]
      rfl
    rw [c1] at hsv
    obtain rfl := Option.some.inj hsv
    exact SlC.of_own (h3 _ (List.getElem_mem hkL))

end Go.Proofs.YtmambbknljgjcaaDoor.Sg
