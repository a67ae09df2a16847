/- Elements told each ahead of what is within it: plain, and how a row that waits lies. -/
import Derived.Test.YtploagieecepfaaWdMem
namespace Go.Proofs.Ytploagieecepfaa.Sg
open Go.ChangeShapes Go.WideShapes Go.ChangeAt Go.RowKit

/-- What is told of an element: its kind, its name, its text, how deep it is. -/
structure Tl where
  kd : Int
  nm : ByteArray
  tx : ByteArray
  deep : Nat
mutual
def preE : ElB → Nat → List Tl
  | .mk kd _ nm _ tx ks, d => ⟨kd, nm, tx, d⟩ :: preL ks (d + 1)
def preL : List ElB → Nat → List Tl
  | [], _ => []
  | e :: es, d => preE e d ++ preL es d
end
def topE : ElB → Nat → Tl
  | .mk kd _ nm _ tx _, d => ⟨kd, nm, tx, d⟩
theorem preE_top (e : ElB) (d : Nat) : preE e d = topE e d :: preL (kidsE e) (d + 1) := by
  obtain ⟨kd, sp, nm, ats, tx, ks⟩ := e
  rw [preE, topE, kidsE]
theorem preL_at : ∀ (es : List ElB) (d k : Nat) (h : k < es.length), preL (es.drop k) d = topE (es[k]'h) d :: (preL (kidsE (es[k]'h)) (d + 1) ++ preL (es.drop (k + 1)) d)
  | [], d, k, h => absurd h (by simp)
  | e :: es, d, 0, _ => by
    simp only [List.drop_zero, List.getElem_cons_zero, List.drop_succ_cons]
    rw [preL, preE_top, List.cons_append]
  | e :: es, d, k + 1, h => by
    have := preL_at es d k (by simpa using h)
    simpa using this
mutual
theorem preE_len : ∀ (e : ElB) (d : Nat), (preE e d).length = elN e
  | .mk kd sp nm ats tx ks, d => by rw [preE, elN, List.length_cons, preL_len ks (d + 1)]
theorem preL_len : ∀ (es : List ElB) (d : Nat), (preL es d).length = elsN es
  | [], d => rfl
  | e :: es, d => by rw [preL, elsN, List.length_append, preE_len e d, preL_len es d]
end
/-- What is still to come of rows, the last of which comes first. -/
def waitX : List RowX → List Tl
  | [] => []
  | r :: st => waitX st ++ preL r.els r.deep
def waitM : List RowX → Nat
  | [] => 0
  | r :: st => waitM st + elsN r.els
theorem waitX_snoc : ∀ (st : List RowX) (r : RowX), waitX (st ++ [r]) = preL r.els r.deep ++ waitX st
  | [], r => by simp [waitX]
  | q :: st, r => by rw [List.cons_append, waitX, waitX, waitX_snoc st r, List.append_assoc]
theorem waitM_snoc : ∀ (st : List RowX) (r : RowX), waitM (st ++ [r]) = waitM st + elsN r.els
  | [], r => by simp [waitM]
  | q :: st, r => by rw [List.cons_append, waitM, waitM, waitM_snoc st r]; omega
theorem preL_none {es : List ElB} (h : es.length = 0) (d : Nat) : preL es d = [] := by rw [List.length_eq_zero_iff.1 h, preL]
/-- The kids of one of these are not as deep as all are. -/
theorem kids_deep : ∀ (es : List ElB) (k : Nat) (h : k < es.length), elsD (kidsE (es[k]'h)) + 1 ≤ elsD es
  | [], k, h => absurd h (by simp)
  | e :: es, 0, _ => by
    have := elD_kids e
    rw [elsD]
    simp only [List.getElem_cons_zero]
    omega
  | e :: es, k + 1, h => by
    have := kids_deep es k (by simpa using h)
    rw [elsD]
    simp only [List.getElem_cons_succ]
    omega
theorem drop_deep : ∀ (es : List ElB) (k : Nat), elsD (es.drop k) ≤ elsD es
  | [], k => by simp
  | e :: es, 0 => by simp
  | e :: es, k + 1 => by
    have := drop_deep es k
    rw [List.drop_succ_cons, elsD]
    omega

/-- What the walk reads of an element in a row. -/
theorem RowAt.told {P : Nat → Prop} {W : World} {r : RowW} (h : RowAt P W r) (k : Nat) (hk : k < r.els.length) : ∃ b o, r.a = some ⟨b, o, none⟩ ∧ P b ∧
    ∃ kd sp nm xa n xc tx ka kc, W.cell? ⟨b, o + k * 6, none⟩ = some (.int .i64 kd) ∧ W.cell? ⟨b, o + k * 6 + 1, none⟩ = some (.int .i64 sp) ∧ W.cell? ⟨b, o + k * 6 + 2, none⟩ = some (.string nm) ∧ W.cell? ⟨b, o + k * 6 + 3, none⟩ = some (.slice xa n xc) ∧ W.cell? ⟨b, o + k * 6 + 4, none⟩ = some (.string tx) ∧ W.cell? ⟨b, o + k * 6 + 5, none⟩ = some (.slice ka (kidsE (r.els[k]'hk)).length kc) ∧
    (∀ d, topE (r.els[k]'hk) d = ⟨kd, nm, tx, d⟩) ∧ RowAt P W ⟨ka, kc, kidsE (r.els[k]'hk)⟩ ∧ RowAt P W ⟨if r.cap = k + 1 then r.a else some ⟨b, o + (k + 1) * 6, none⟩, r.cap - (k + 1), r.els.drop (k + 1)⟩ := by
  obtain ⟨b, o, e, hp, kd, sp, nm, xa, n, xc, tx, ka, kc, c0, c1, c2, c3, c4, c5, _, hk1, hr⟩ := h.at k hk
  refine ⟨b, o, e, hp, kd, sp, nm, xa, n, xc, tx, ka, kc, c0, c1, c2, c3, c4, c5, fun d => ?_, hk1, hr⟩
  obtain ⟨a, cap, els⟩ := r
  obtain ⟨h1, _, _⟩ := h
  simp only at e h1 hk c0 c2 c4 ⊢
  rcases h1 with h1 | ⟨b', o', e', _, h1⟩
  · omega
  rw [e] at e'
  cases e'
  have hI := h1.get k hk
  generalize els[k]'hk = z at *
  obtain ⟨kd', sp', nm', ats, tx', ks⟩ := z
  unfold ElIn at hI
  obtain ⟨d0, _, d2, _, d4, _⟩ := hI
  rw [c0] at d0
  rw [c2] at d2
  rw [c4] at d4
  cases d0
  cases d2
  cases d4
  rfl

/-- The words of what is told; how it is shown. -/
def wordT (t : Tl) : List UInt8 := if t.kd = 2 then t.tx.data.toList else []
mutual
theorem words_preE : ∀ (e : ElB) (d : Nat), (wordsE e).data.toList = (preE e d).flatMap wordT
  | .mk kd sp nm ats tx ks, d => by
    rw [wordsE, preE, app_bytes, List.flatMap_cons, words_preL ks (d + 1), wordT]
    congr 1
    split <;> rfl
theorem words_preL : ∀ (es : List ElB) (d : Nat), (wordsL es).data.toList = (preL es d).flatMap wordT
  | [], d => rfl
  | e :: es, d => by rw [wordsL, preL, app_bytes, List.flatMap_append, words_preE e d, words_preL es d]
end

end Go.Proofs.Ytploagieecepfaa.Sg
