/- Common to the laws of one element. Written by mk_ellaw.py. -/
import Derived.Test.YtploagieecepfaaElEq
import Derived.Test.YtploagieecepfaaElSpec
import Derived.Test.YtploagieecepfaaGMany
namespace Go.Proofs.Ytploagieecepfaa.Sg
open Go.ChangeShapes Go.WideShapes Go.ChangeAt Go.RowKit

theorem Many.six {w : World} {b : Nat} {v0 v1 v2 v3 v4 v5 : Value} (h : Many 6 w b (fun i => [v0, v1, v2, v3, v4, v5].getD i undef)) :
    w.cell? ⟨b, 0, none⟩ = some v0 ∧ w.cell? ⟨b, 1, none⟩ = some v1 ∧ w.cell? ⟨b, 2, none⟩ = some v2 ∧ w.cell? ⟨b, 3, none⟩ = some v3 ∧ w.cell? ⟨b, 4, none⟩ = some v4 ∧ w.cell? ⟨b, 5, none⟩ = some v5 :=
  ⟨(h.2 0 (by omega)).1, (h.2 1 (by omega)).1, (h.2 2 (by omega)).1, (h.2 3 (by omega)).1, (h.2 4 (by omega)).1, (h.2 5 (by omega)).1⟩
theorem Many.kept {n : Nat} {w w' : World} {b : Nat} {f : Nat → Value} (h : Many n w b f) (hb : Below w.heap.size w w') : Many n w' b f := h.below h.1 hb
theorem ElV.drew {Q : World → Value → List AttrB → Prop} {P : Nat → Prop} (hQ : Lies Q) {w : World} {v : Value} {e : ElB} (h : ElV Q P w v e) : ElV Q P w.drew v e := h.keep hQ ((Below.refl _ _).drew)
theorem below_behind {w a b : World} (h : Below w.heap.size w a) (k : Below a.heap.size a b) : Below w.heap.size w b := h.trans (k.mono h.size)
theorem keep_six {w w' : World} (hb : Below w.heap.size w w') {b : Nat} {v0 v1 v2 v3 v4 v5 : Value} (h : w.cell? ⟨b, 0, none⟩ = some v0 ∧ w.cell? ⟨b, 1, none⟩ = some v1 ∧ w.cell? ⟨b, 2, none⟩ = some v2 ∧ w.cell? ⟨b, 3, none⟩ = some v3 ∧ w.cell? ⟨b, 4, none⟩ = some v4 ∧ w.cell? ⟨b, 5, none⟩ = some v5) :
    w'.cell? ⟨b, 0, none⟩ = some v0 ∧ w'.cell? ⟨b, 1, none⟩ = some v1 ∧ w'.cell? ⟨b, 2, none⟩ = some v2 ∧ w'.cell? ⟨b, 3, none⟩ = some v3 ∧ w'.cell? ⟨b, 4, none⟩ = some v4 ∧ w'.cell? ⟨b, 5, none⟩ = some v5 := by
  obtain ⟨h0, h1, h2, h3, h4, h5⟩ := h
  have hlt : b < w.heap.size := block_lt_of_cell h0
  exact ⟨(hb.cell (by exact hlt)).trans h0, (hb.cell (by exact hlt)).trans h1, (hb.cell (by exact hlt)).trans h2, (hb.cell (by exact hlt)).trans h3, (hb.cell (by exact hlt)).trans h4, (hb.cell (by exact hlt)).trans h5⟩
theorem attrsW_len (l : List AttrB) : l.length ≤ attrsW l := by unfold attrsW; omega
mutual
theorem el_light : ∀ e : ElB, elW e ≤ 16777216 → ElLight e
  | .mk kd sp nm ats tx ks, h => by
    unfold elW at h
    have := attrsW_len ats
    unfold ElLight
    exact ⟨by omega, by omega, els_light ks (by omega)⟩
theorem els_light : ∀ es : List ElB, elsW es ≤ 16777216 → ElsLight es
  | [], _ => by unfold ElsLight; trivial
  | e :: es, h => by
    unfold elsW at h
    unfold ElsLight
    exact ⟨el_light e (by omega), els_light es (by omega)⟩
end
theorem left_yes {n : Nat} (h : n ≤ 1048576) : leftZ 1048576 n = 1048576 - (n : Int) := by unfold leftZ; rw [if_pos (by omega)]
theorem left_no {n : Nat} (h : ¬ n ≤ 1048576) : leftZ 1048576 n = -1 := by unfold leftZ; rw [if_neg (by omega)]

end Go.Proofs.Ytploagieecepfaa.Sg
