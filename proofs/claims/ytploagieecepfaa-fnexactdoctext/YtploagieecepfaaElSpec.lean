/- Contracts of the model's ElSize and ElDeep. -/
import Derived.Test.YtploagieecepfaaElTo
namespace Go.Proofs.Ytploagieecepfaa.Sg
open Go.ChangeShapes Go.WideShapes Go.ChangeAt Go.RowKit

theorem elsN_drop : ∀ (es : List ElB) (k : Nat) (h : k < es.length), elsN (es.drop k) = elN (es[k]'h) + elsN (es.drop (k + 1))
  | [], k, h => absurd h (by simp)
  | e :: es, 0, _ => by simp [elsN]
  | e :: es, k + 1, h => by
    have := elsN_drop es k (by simpa using h)
    simpa using this
theorem elsD_drop : ∀ (es : List ElB) (k : Nat) (h : k < es.length), elsD (es.drop k) = max (elD (es[k]'h)) (elsD (es.drop (k + 1)))
  | [], k, h => absurd h (by simp)
  | e :: es, 0, _ => by simp [elsD]
  | e :: es, k + 1, h => by
    have := elsD_drop es k (by simpa using h)
    simpa using this
mutual
theorem elN_le : ∀ e : ElB, elN e ≤ elW e + 1
  | .mk kd sp nm ats tx ks => by
    have := elsN_le ks
    unfold elN elW
    omega
theorem elsN_le : ∀ es : List ElB, elsN es ≤ es.length + elsW es
  | [] => by simp [elsN]
  | e :: es => by
    have := elN_le e
    have := elsN_le es
    unfold elsN elsW
    rw [List.length_cons]
    omega
end
mutual
theorem elD_le : ∀ e : ElB, elD e ≤ elN e
  | .mk kd sp nm ats tx ks => by
    have := elsD_le ks
    unfold elD elN
    omega
theorem elsD_le : ∀ es : List ElB, elsD es ≤ elsN es
  | [] => by simp [elsD]
  | e :: es => by
    have := elD_le e
    have := elsD_le es
    unfold elsD elsN
    omega
end
theorem elsN_get (es : List ElB) (k : Nat) (h : k < es.length) : elN (es[k]'h) ≤ elsN es := by
  induction es generalizing k with
  | nil => exact absurd h (by simp)
  | cons e es ih =>
    unfold elsN
    cases k with
    | zero => simp
    | succ k =>
      have := ih k (by simpa using h)
      simp only [List.getElem_cons_succ]
      omega

theorem elN_pos (e : ElB) : 1 ≤ elN e := by
  obtain ⟨kd, sp, nm, ats, tx, ks⟩ := e
  unfold elN
  omega
theorem elsN_len : ∀ es : List ElB, es.length ≤ elsN es
  | [] => by simp
  | e :: es => by
    have := elN_pos e
    have := elsN_len es
    unfold elsN
    rw [List.length_cons]
    omega



end Go.Proofs.Ytploagieecepfaa.Sg
