/- Elements in blocks of some kind: they stay where these blocks stay, and lie in blocks of a wider kind. -/
import Derived.Test.YthipdkagkdnaiaaGreatDoorRdWork
namespace Go.Proofs.YthipdkagkdnaiaaGreatDoor.Sg
open Go.ChangeShapes Go.WideShapes Go.ChangeAt Go.RowKit

/-- Attributes that lie in blocks of some kind. -/
def QP (P : Nat → Prop) (w : World) (v : Value) (l : List AttrB) : Prop := ∃ x c, v = .slice x l.length c ∧ (∀ b o m, x = some ⟨b, o, m⟩ → P b ∧ b < w.heap.size) ∧ AttrsAt w x l ∧ l.length ≤ c
theorem QP.stay {P : Nat → Prop} {w w' : World} {v : Value} {l : List AttrB} (h : QP P w v l) (hb : ∀ b, P b → b < w.heap.size → w'.heap[b]? = w.heap[b]?) (hs : w.heap.size ≤ w'.heap.size) : QP P w' v l := by
  obtain ⟨x, c, e, h1, h3, h6⟩ := h
  refine ⟨x, c, e, fun b o m h => ⟨(h1 b o m h).1, Nat.lt_of_lt_of_le (h1 b o m h).2 hs⟩, ?_, h6⟩
  rcases h3 with h3 | ⟨b', e', h4, h5⟩
  · exact .inl h3
  · subst e'
    have hc := hb b' (h1 _ _ _ rfl).1 h4
    exact .inr ⟨b', rfl, Nat.lt_of_lt_of_le h4 hs, fun k hk => ⟨(cell_agree hc).trans (h5 k hk).1, (cell_agree hc).trans (h5 k hk).2⟩⟩
theorem QP.wide {P P' : Nat → Prop} {w : World} {v : Value} {l : List AttrB} (h : QP P w v l) (hp : ∀ b, b < w.heap.size → P b → P' b) : QP P' w v l := by
  obtain ⟨x, c, e, h1, h3, h6⟩ := h
  exact ⟨x, c, e, fun b o m h => ⟨hp b (h1 b o m h).2 (h1 b o m h).1, (h1 b o m h).2⟩, h3, h6⟩
theorem QP.qa {lo : Nat} {w : World} {v : Value} {l : List AttrB} (h : QP (lo ≤ ·) w v l) : QA lo w v l := by
  obtain ⟨x, c, e, h1, h3, h6⟩ := h
  exact ⟨x, c, e, fun b o m h => (h1 b o m h).1, fun b o m h => (h1 b o m h).2, h3, h6⟩
theorem QP.nil (P : Nat → Prop) (w : World) : QP P w (.slice none 0 0) [] := ⟨none, 0, rfl, fun b o m h => (by cases h), .inl rfl, Nat.le_refl _⟩
/-- A row of attributes that is owned. -/
theorem QP.of_own {w : World} {base : Nat} {e : TypeId} {v : Value} {l : List AttrB} (h : w.ownsRow base e 2 v l.length (attrCells l)) : QP (base ≤ ·) w v l := by
  obtain ⟨x, c, e1, hA⟩ := attrs_of_own h
  rcases h.2 with ⟨e0, h0⟩ | ⟨g, cap, cur, e0, g3, g4, g5, _⟩
  · have hl : l = [] := List.eq_nil_of_length_eq_zero h0
    subst hl
    rw [e0]
    exact QP.nil _ _
  · rw [e0] at e1 ⊢
    injection e1 with e2 e3 e4
    subst e2
    exact ⟨_, cap, rfl, fun b o m h => (by cases h; exact ⟨g3, (Array.getElem?_eq_some_iff.1 g4).1⟩), hA, g5⟩

mutual
theorem ElIn.stayP {P : Nat → Prop} {w w' : World} (hb : ∀ b, P b → b < w.heap.size → w'.heap[b]? = w.heap[b]?) (hs : w.heap.size ≤ w'.heap.size) : ∀ (e : ElB) (b o : Nat), P b → ElIn (QP P) P w e b o → ElIn (QP P) P w' e b o
  | .mk kd sp nm ats tx ks, b, o, hP, h => by
    unfold ElIn at h ⊢
    obtain ⟨c0, c1, c2, ⟨av, c3, hq⟩, c4, ka, kc, c5, hk⟩ := h
    have hc := hb b hP (block_lt_of_cell c0)
    refine ⟨(cell_agree hc).trans c0, (cell_agree hc).trans c1, (cell_agree hc).trans c2, ⟨av, (cell_agree hc).trans c3, hq.stay hb hs⟩, (cell_agree hc).trans c4, ka, kc, (cell_agree hc).trans c5, ?_⟩
    rcases hk with h0 | ⟨kb, ko, e, hp, hk⟩
    · exact .inl h0
    · exact .inr ⟨kb, ko, e, hp, ElsIn.stayP hb hs ks kb ko hp hk⟩
theorem ElsIn.stayP {P : Nat → Prop} {w w' : World} (hb : ∀ b, P b → b < w.heap.size → w'.heap[b]? = w.heap[b]?) (hs : w.heap.size ≤ w'.heap.size) : ∀ (es : List ElB) (b o : Nat), P b → ElsIn (QP P) P w es b o → ElsIn (QP P) P w' es b o
  | [], _, _, _, _ => by unfold ElsIn; trivial
  | e :: es, b, o, hP, h => by
    unfold ElsIn at h ⊢
    exact ⟨ElIn.stayP hb hs e b o hP h.1, ElsIn.stayP hb hs es b (o + 6) hP h.2⟩
end
mutual
theorem ElIn.wideP {P P' : Nat → Prop} {w : World} (hp : ∀ b, b < w.heap.size → P b → P' b) : ∀ (e : ElB) (b o : Nat), ElIn (QP P) P w e b o → ElIn (QP P') P' w e b o
  | .mk kd sp nm ats tx ks, b, o, h => by
    unfold ElIn at h ⊢
    obtain ⟨c0, c1, c2, ⟨av, c3, hq⟩, c4, ka, kc, c5, hk⟩ := h
    refine ⟨c0, c1, c2, ⟨av, c3, hq.wide hp⟩, c4, ka, kc, c5, ?_⟩
    rcases hk with h0 | ⟨kb, ko, e, hP, hk⟩
    · exact .inl h0
    · cases ks with
      | nil => exact .inl rfl
      | cons x xs =>
        have hk' := hk
        unfold ElsIn at hk'
        have hlt : kb < w.heap.size := by
          have h1 := hk'.1
          obtain ⟨a1, a2, a3, a4, a5, a6⟩ := x
          unfold ElIn at h1
          exact block_lt_of_cell h1.1
        exact .inr ⟨kb, ko, e, hp kb hlt hP, ElsIn.wideP hp (x :: xs) kb ko hk⟩
theorem ElsIn.wideP {P P' : Nat → Prop} {w : World} (hp : ∀ b, b < w.heap.size → P b → P' b) : ∀ (es : List ElB) (b o : Nat), ElsIn (QP P) P w es b o → ElsIn (QP P') P' w es b o
  | [], _, _, _ => by unfold ElsIn; trivial
  | e :: es, b, o, h => by
    unfold ElsIn at h ⊢
    exact ⟨ElIn.wideP hp e b o h.1, ElsIn.wideP hp es b (o + 6) h.2⟩
end
/-- An element, all of it in blocks of some kind. -/
def ElP (P : Nat → Prop) (w : World) (v : Value) (e : ElB) : Prop := ElV (QP P) P w v e
theorem ElP.stay {P : Nat → Prop} {w w' : World} {v : Value} {e : ElB} (h : ElP P w v e) (hb : ∀ b, P b → b < w.heap.size → w'.heap[b]? = w.heap[b]?) (hs : w.heap.size ≤ w'.heap.size) : ElP P w' v e := by
  obtain ⟨kd, sp, nm, ats, tx, ks⟩ := e
  obtain ⟨av, ka, kc, e, hq, hk⟩ := h
  refine ⟨av, ka, kc, e, hq.stay hb hs, ?_⟩
  rcases hk with h0 | ⟨kb, ko, e, hp, hk⟩
  · exact .inl h0
  · exact .inr ⟨kb, ko, e, hp, ElsIn.stayP hb hs ks kb ko hp hk⟩
theorem ElP.wide {P P' : Nat → Prop} {w : World} {v : Value} {e : ElB} (h : ElP P w v e) (hp : ∀ b, b < w.heap.size → P b → P' b) : ElP P' w v e := by
  obtain ⟨kd, sp, nm, ats, tx, ks⟩ := e
  obtain ⟨av, ka, kc, ev, hq, hk⟩ := h
  refine ⟨av, ka, kc, ev, hq.wide hp, ?_⟩
  rcases hk with h0 | ⟨kb, ko, e, hP, hk⟩
  · exact .inl h0
  · cases ks with
    | nil => exact .inl rfl
    | cons x xs =>
      have hk' := hk
      unfold ElsIn at hk'
      have hlt : kb < w.heap.size := by
        have h1 := hk'.1
        obtain ⟨a1, a2, a3, a4, a5, a6⟩ := x
        unfold ElIn at h1
        exact block_lt_of_cell h1.1
      exact .inr ⟨kb, ko, e, hp kb hlt hP, ElsIn.wideP hp (x :: xs) kb ko hk⟩
/-- Where block p alone turns, and p is none of these. -/
theorem ElP.fr {P : Nat → Prop} {p : Nat} {w w' : World} {v : Value} {e : ElB} (h : ElP P w v e) (hf : Fr p w w') (hp : ¬ P p) : ElP P w' v e :=
  h.stay (fun b h1 h2 => hf.block b h2 (fun e => hp (e ▸ h1))) hf.size

end Go.Proofs.YthipdkagkdnaiaaGreatDoor.Sg
