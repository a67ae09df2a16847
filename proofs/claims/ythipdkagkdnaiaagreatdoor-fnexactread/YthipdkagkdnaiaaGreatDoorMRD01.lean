/- Attributes in memory. The laws' attributes, as they come in: weighed. Elements in memory. Attributes that came in. Elements that came in. Contracts of the laws' szEl, szElS. The laws' attributes, laid anew. A block of some cells that may be written. The laws' elements, laid anew: one, where its kids are. First written by mk_elto.py (ToElC, CapV: by hand). -/
import Derived.Test.YthipdkagkdnaiaaGreatDoorGOwn
import Derived.Laws.DeepStrings4
import Derived.Deep.SlicePairs
import Derived.OpenShut
import Derived.Test.YthipdkagkdnaiaaGreatDoorSgOk
import Derived.Below
namespace Go.Proofs.YthipdkagkdnaiaaGreatDoor.Sg
open Go.ChangeShapes Go.WideShapes Go.ChangeAt Go.RowKit

abbrev AttrB := ByteArray × ByteArray

/-- The cells of attributes. -/
def attrCells : List AttrB → List Value
  | [] => []
  | p :: l => .string p.1 :: .string p.2 :: attrCells l
theorem attrCells_length : ∀ l, (attrCells l).length = l.length * 2
  | [] => rfl
  | _ :: l => by simp only [attrCells, List.length_cons, attrCells_length l]; omega
theorem attrCells_more (l : List AttrB) (p : AttrB) : attrCells (l ++ [p]) = attrCells l ++ [.string p.1, .string p.2] := by
  induction l with
  | nil => rfl
  | cons q l ih => simp [attrCells, ih]
theorem attrCells_at : ∀ (l : List AttrB) (k : Nat), k < l.length → (attrCells l)[k * 2]? = some (.string (l.getD k (ByteArray.empty, ByteArray.empty)).1) ∧ (attrCells l)[k * 2 + 1]? = some (.string (l.getD k (ByteArray.empty, ByteArray.empty)).2)
  | [], k, h => absurd h (Nat.not_lt_zero _)
  | p :: l, 0, _ => by simp [attrCells]
  | p :: l, k + 1, h => by
    have ih := attrCells_at l k (by simpa using h)
    have e1 : (k + 1) * 2 = k * 2 + 1 + 1 := by omega
    rw [e1]
    simpa [attrCells] using ih

/-- A slice of attributes holds just l. -/
def AttrsAt (w : World) (a : Option Addr) (l : List AttrB) : Prop :=
  l = [] ∨ ∃ b, a = some ⟨b, 0, none⟩ ∧ b < w.heap.size ∧ ∀ k, k < l.length → w.cell? ⟨b, k * 2, none⟩ = some (.string (l.getD k (ByteArray.empty, ByteArray.empty)).1) ∧ w.cell? ⟨b, k * 2 + 1, none⟩ = some (.string (l.getD k (ByteArray.empty, ByteArray.empty)).2)

theorem attrs_of_own {w : World} {base n : Nat} {e : TypeId} {v : Value} {l : List AttrB} (h : w.ownsRow base e 2 v n (attrCells l)) : ∃ a cap, v = .slice a l.length cap ∧ AttrsAt w a l := by
  obtain ⟨h1, h2⟩ := h
  rw [attrCells_length] at h1
  have hn : l.length = n := by omega
  subst hn
  rcases h2 with ⟨rfl, h0⟩ | ⟨g, cap, cur, rfl, h3, h4, h5, h6, h7, h8⟩
  · have : l = [] := List.eq_nil_of_length_eq_zero h0
    subst this
    exact ⟨none, 0, rfl, .inl rfl⟩
  · refine ⟨_, _, rfl, .inr ⟨g, rfl, (Array.getElem?_eq_some_iff.1 h4).1, fun k hk => ?_⟩⟩
    obtain ⟨a1, a2⟩ := attrCells_at l k hk
    rw [← h8] at a1 a2
    rw [List.getElem?_take_of_lt (by omega)] at a1 a2
    have c1 : cur[k * 2]? = some (.string (l.getD k (ByteArray.empty, ByteArray.empty)).1) := by simpa using a1
    have c2 : cur[k * 2 + 1]? = some (.string (l.getD k (ByteArray.empty, ByteArray.empty)).2) := by simpa using a2
    exact ⟨by simp [World.cell?, h4, c1], by simp [World.cell?, h4, c2]⟩
theorem AttrsAt.below {w w' : World} {a : Option Addr} {l : List AttrB} (h : AttrsAt w a l) (hb : Below w.heap.size w w') : AttrsAt w' a l := by
  rcases h with h | ⟨b, h1, h2, h3⟩
  · exact .inl h
  · exact .inr ⟨b, h1, Nat.lt_of_lt_of_le h2 hb.size, fun k hk => ⟨(hb.cell h2).trans (h3 k hk).1, (hb.cell h2).trans (h3 k hk).2⟩⟩

end Go.Proofs.YthipdkagkdnaiaaGreatDoor.Sg

namespace Go.Proofs.YthipdkagkdnaiaaGreatDoor.Sg
open Go.ChangeShapes Go.WideShapes Go.ChangeAt Go.RowKit

def attrW (p : AttrB) : Nat := p.1.size + p.2.size
def attrsW (l : List AttrB) : Nat := l.length + (l.map attrW).sum

end Go.Proofs.YthipdkagkdnaiaaGreatDoor.Sg

namespace Go.Proofs.YthipdkagkdnaiaaGreatDoor.Sg
open Go.ChangeShapes Go.WideShapes Go.ChangeAt Go.RowKit

/-- An element. -/
inductive ElB where
  | mk (kd sp : Int) (nm : ByteArray) (ats : List AttrB) (tx : ByteArray) (kids : List ElB)
def kindE : ElB → Int
  | .mk kd _ _ _ _ _ => kd

/-- How attributes lie: a slice that holds them. -/
structure Lies (Q : World → Value → List AttrB → Prop) : Prop where
  keep : ∀ {w w' : World} {v : Value} {l : List AttrB}, Q w v l → Below w.heap.size w w' → Q w' v l
  slice : ∀ {w : World} {v : Value} {l : List AttrB}, Q w v l → ∃ a c, v = .slice a l.length c

mutual
/-- An element's six cells from a place on, with all that is in it. -/
def ElIn (Q : World → Value → List AttrB → Prop) (P : Nat → Prop) (W : World) : ElB → Nat → Nat → Prop
  | .mk kd sp nm ats tx ks, b, o => W.cell? ⟨b, o, none⟩ = some (.int .i64 kd) ∧ W.cell? ⟨b, o + 1, none⟩ = some (.int .i64 sp) ∧ W.cell? ⟨b, o + 2, none⟩ = some (.string nm) ∧
    (∃ av, W.cell? ⟨b, o + 3, none⟩ = some av ∧ Q W av ats) ∧ W.cell? ⟨b, o + 4, none⟩ = some (.string tx) ∧
    (∃ ka kc, W.cell? ⟨b, o + 5, none⟩ = some (.slice ka ks.length kc) ∧ (ks.length = 0 ∨ ∃ kb ko, ka = some ⟨kb, ko, none⟩ ∧ P kb ∧ ElsIn Q P W ks kb ko))
/-- Elements one behind the other. -/
def ElsIn (Q : World → Value → List AttrB → Prop) (P : Nat → Prop) (W : World) : List ElB → Nat → Nat → Prop
  | [], _, _ => True
  | e :: es, b, o => ElIn Q P W e b o ∧ ElsIn Q P W es b (o + 6)
end
/-- The kids of an element, as its slice has them. -/
def KidsIn (Q : World → Value → List AttrB → Prop) (P : Nat → Prop) (W : World) (ka : Option Addr) (ks : List ElB) : Prop := ks.length = 0 ∨ ∃ kb ko, ka = some ⟨kb, ko, none⟩ ∧ P kb ∧ ElsIn Q P W ks kb ko
/-- An element as a value. -/
def ElV (Q : World → Value → List AttrB → Prop) (P : Nat → Prop) (W : World) (v : Value) : ElB → Prop
  | .mk kd sp nm ats tx ks => ∃ av ka kc, v = .agg #[.int .i64 kd, .int .i64 sp, .string nm, av, .string tx, .slice ka ks.length kc] ∧ Q W av ats ∧ KidsIn Q P W ka ks

mutual
theorem ElIn.keep {Q : World → Value → List AttrB → Prop} {P : Nat → Prop} (hQ : Lies Q) {w w' : World} (hb : Below w.heap.size w w') : ∀ (e : ElB) (b o : Nat), ElIn Q P w e b o → ElIn Q P w' e b o
  | .mk kd sp nm ats tx ks, b, o, h => by
    unfold ElIn at h ⊢
    obtain ⟨c0, c1, c2, ⟨av, c3, hq⟩, c4, ka, kc, c5, hk⟩ := h
    have hlt : b < w.heap.size := block_lt_of_cell c0
    refine ⟨(hb.cell (by exact hlt)).trans c0, (hb.cell (by exact hlt)).trans c1, (hb.cell (by exact hlt)).trans c2, ⟨av, (hb.cell (by exact hlt)).trans c3, hQ.keep hq hb⟩, (hb.cell (by exact hlt)).trans c4, ka, kc, (hb.cell (by exact hlt)).trans c5, ?_⟩
    rcases hk with h0 | ⟨kb, ko, e, hp, hk⟩
    · exact .inl h0
    · exact .inr ⟨kb, ko, e, hp, ElsIn.keep hQ hb ks kb ko hk⟩
theorem ElsIn.keep {Q : World → Value → List AttrB → Prop} {P : Nat → Prop} (hQ : Lies Q) {w w' : World} (hb : Below w.heap.size w w') : ∀ (es : List ElB) (b o : Nat), ElsIn Q P w es b o → ElsIn Q P w' es b o
  | [], _, _, _ => by unfold ElsIn; trivial
  | e :: es, b, o, h => by
    unfold ElsIn at h ⊢
    exact ⟨ElIn.keep hQ hb e b o h.1, ElsIn.keep hQ hb es b (o + 6) h.2⟩
end
theorem KidsIn.keep {Q : World → Value → List AttrB → Prop} {P : Nat → Prop} (hQ : Lies Q) {w w' : World} (hb : Below w.heap.size w w') {ka : Option Addr} {ks : List ElB} (h : KidsIn Q P w ka ks) : KidsIn Q P w' ka ks := by
  rcases h with h | ⟨kb, ko, e, hp, h⟩
  · exact .inl h
  · exact .inr ⟨kb, ko, e, hp, h.keep hQ hb⟩
theorem ElV.keep {Q : World → Value → List AttrB → Prop} {P : Nat → Prop} (hQ : Lies Q) {w w' : World} (hb : Below w.heap.size w w') {v : Value} {e : ElB} (h : ElV Q P w v e) : ElV Q P w' v e := by
  obtain ⟨kd, sp, nm, ats, tx, ks⟩ := e
  obtain ⟨av, ka, kc, e, hq, hk⟩ := h
  exact ⟨av, ka, kc, e, hQ.keep hq hb, hk.keep hQ hb⟩
/-- Attributes that lie in blocks of some kind stay where these blocks stay. -/
structure LiesP (Q : World → Value → List AttrB → Prop) (P : Nat → Prop) : Prop where
  agree : ∀ {w w' : World} {v : Value} {l : List AttrB}, Q w v l → (∀ b, P b → w'.heap[b]? = w.heap[b]?) → w.heap.size ≤ w'.heap.size → Q w' v l
theorem cell_agree {w w' : World} {b o : Nat} (h : w'.heap[b]? = w.heap[b]?) : w'.cell? ⟨b, o, none⟩ = w.cell? ⟨b, o, none⟩ := by simp [World.cell?, h]
mutual
theorem ElIn.agree {Q : World → Value → List AttrB → Prop} {P : Nat → Prop} (hQ : LiesP Q P) {w w' : World} (hb : ∀ b, P b → w'.heap[b]? = w.heap[b]?) (hs : w.heap.size ≤ w'.heap.size) : ∀ (e : ElB) (b o : Nat), P b → ElIn Q P w e b o → ElIn Q P w' e b o
  | .mk kd sp nm ats tx ks, b, o, hP, h => by
    unfold ElIn at h ⊢
    obtain ⟨c0, c1, c2, ⟨av, c3, hq⟩, c4, ka, kc, c5, hk⟩ := h
    have hc := hb b hP
    refine ⟨(cell_agree hc).trans c0, (cell_agree hc).trans c1, (cell_agree hc).trans c2, ⟨av, (cell_agree hc).trans c3, hQ.agree hq hb hs⟩, (cell_agree hc).trans c4, ka, kc, (cell_agree hc).trans c5, ?_⟩
    rcases hk with h0 | ⟨kb, ko, e, hp, hk⟩
    · exact .inl h0
    · exact .inr ⟨kb, ko, e, hp, ElsIn.agree hQ hb hs ks kb ko hp hk⟩
theorem ElsIn.agree {Q : World → Value → List AttrB → Prop} {P : Nat → Prop} (hQ : LiesP Q P) {w w' : World} (hb : ∀ b, P b → w'.heap[b]? = w.heap[b]?) (hs : w.heap.size ≤ w'.heap.size) : ∀ (es : List ElB) (b o : Nat), P b → ElsIn Q P w es b o → ElsIn Q P w' es b o
  | [], _, _, _, _ => by unfold ElsIn; trivial
  | e :: es, b, o, hP, h => by
    unfold ElsIn at h ⊢
    exact ⟨ElIn.agree hQ hb hs e b o hP h.1, ElsIn.agree hQ hb hs es b (o + 6) hP h.2⟩
end
theorem ElV.agree {Q : World → Value → List AttrB → Prop} {P : Nat → Prop} (hQ : LiesP Q P) {w w' : World} (hb : ∀ b, P b → w'.heap[b]? = w.heap[b]?) (hs : w.heap.size ≤ w'.heap.size) {v : Value} {e : ElB} (h : ElV Q P w v e) : ElV Q P w' v e := by
  obtain ⟨kd, sp, nm, ats, tx, ks⟩ := e
  obtain ⟨av, ka, kc, e, hq, hk⟩ := h
  refine ⟨av, ka, kc, e, hQ.agree hq hb hs, ?_⟩
  rcases hk with h0 | ⟨kb, ko, e, hp, hk⟩
  · exact .inl h0
  · exact .inr ⟨kb, ko, e, hp, ElsIn.agree hQ hb hs ks kb ko hp hk⟩
mutual
theorem ElIn.wider {Q Q' : World → Value → List AttrB → Prop} {P P' : Nat → Prop} {w : World} (hQ : ∀ v l, Q w v l → Q' w v l) (hP : ∀ b, P b → P' b) : ∀ (e : ElB) (b o : Nat), ElIn Q P w e b o → ElIn Q' P' w e b o
  | .mk kd sp nm ats tx ks, b, o, h => by
    unfold ElIn at h ⊢
    obtain ⟨c0, c1, c2, ⟨av, c3, hq⟩, c4, ka, kc, c5, hk⟩ := h
    refine ⟨c0, c1, c2, ⟨av, c3, hQ _ _ hq⟩, c4, ka, kc, c5, ?_⟩
    rcases hk with h0 | ⟨kb, ko, e, hp, hk⟩
    · exact .inl h0
    · exact .inr ⟨kb, ko, e, hP _ hp, ElsIn.wider hQ hP ks kb ko hk⟩
theorem ElsIn.wider {Q Q' : World → Value → List AttrB → Prop} {P P' : Nat → Prop} {w : World} (hQ : ∀ v l, Q w v l → Q' w v l) (hP : ∀ b, P b → P' b) : ∀ (es : List ElB) (b o : Nat), ElsIn Q P w es b o → ElsIn Q' P' w es b o
  | [], _, _, _ => by unfold ElsIn; trivial
  | e :: es, b, o, h => by
    unfold ElsIn at h ⊢
    exact ⟨ElIn.wider hQ hP e b o h.1, ElsIn.wider hQ hP es b (o + 6) h.2⟩
end
theorem ElV.wider {Q Q' : World → Value → List AttrB → Prop} {P P' : Nat → Prop} {w : World} (hQ : ∀ v l, Q w v l → Q' w v l) (hP : ∀ b, P b → P' b) {v : Value} {e : ElB} (h : ElV Q P w v e) : ElV Q' P' w v e := by
  obtain ⟨kd, sp, nm, ats, tx, ks⟩ := e
  obtain ⟨av, ka, kc, e, hq, hk⟩ := h
  refine ⟨av, ka, kc, e, hQ _ _ hq, ?_⟩
  rcases hk with h0 | ⟨kb, ko, e, hp, hk⟩
  · exact .inl h0
  · exact .inr ⟨kb, ko, e, hP _ hp, ElsIn.wider hQ hP ks kb ko hk⟩
/-- Cells that hold an element's value are the element. -/
theorem ElV.cells {Q : World → Value → List AttrB → Prop} {P : Nat → Prop} {W : World} {v0 v1 v2 v3 v4 v5 : Value} {e : ElB} {b o : Nat} (h : ElV Q P W (.agg #[v0, v1, v2, v3, v4, v5]) e) (c0 : W.cell? ⟨b, o, none⟩ = some v0) (c1 : W.cell? ⟨b, o + 1, none⟩ = some v1) (c2 : W.cell? ⟨b, o + 2, none⟩ = some v2) (c3 : W.cell? ⟨b, o + 3, none⟩ = some v3) (c4 : W.cell? ⟨b, o + 4, none⟩ = some v4) (c5 : W.cell? ⟨b, o + 5, none⟩ = some v5) : ElIn Q P W e b o := by
  obtain ⟨kd, sp, nm, ats, tx, ks⟩ := e
  obtain ⟨av, ka, kc, e, hq, hk⟩ := h
  injection e with e
  simp at e
  obtain ⟨rfl, rfl, rfl, rfl, rfl, rfl⟩ := e
  unfold ElIn
  exact ⟨c0, c1, c2, ⟨_, c3, hq⟩, c4, _, _, c5, hk⟩
/-- One of several. -/
theorem ElsIn.get {Q : World → Value → List AttrB → Prop} {P : Nat → Prop} {W : World} : ∀ {es : List ElB} {b o : Nat}, ElsIn Q P W es b o → ∀ (k : Nat) (h : k < es.length), ElIn Q P W (es[k]'h) b (o + k * 6)
  | [], _, _, _, k, hk => absurd hk (by simp)
  | e :: es, b, o, h, 0, _ => by
    unfold ElsIn at h
    simpa using h.1
  | e :: es, b, o, h, k + 1, hk => by
    unfold ElsIn at h
    have := h.2.get k (by simpa using hk)
    rw [show o + (k + 1) * 6 = o + 6 + k * 6 by omega]
    simpa using this
theorem ElsIn.of {Q : World → Value → List AttrB → Prop} {P : Nat → Prop} {W : World} : ∀ {es : List ElB} {b o : Nat}, (∀ (k : Nat) (h : k < es.length), ElIn Q P W (es[k]'h) b (o + k * 6)) → ElsIn Q P W es b o
  | [], _, _, _ => by unfold ElsIn; trivial
  | e :: es, b, o, h => by
    unfold ElsIn
    have h0 := h 0 (by simp)
    rw [Nat.zero_mul, Nat.add_zero] at h0
    refine ⟨h0, ElsIn.of fun k hk => ?_⟩
    have := h (k + 1) (by simpa using hk)
    rw [show o + (k + 1) * 6 = o + 6 + k * 6 by omega] at this
    simpa using this
/-- A kid's cells, and the value that they make. -/
theorem ElIn.cells {Q : World → Value → List AttrB → Prop} {P : Nat → Prop} {W : World} {e : ElB} {b o : Nat} (h : ElIn Q P W e b o) : ∃ v0 v1 v2 v3 v4 v5, W.cell? ⟨b, o, none⟩ = some v0 ∧ W.cell? ⟨b, o + 1, none⟩ = some v1 ∧ W.cell? ⟨b, o + 2, none⟩ = some v2 ∧ W.cell? ⟨b, o + 3, none⟩ = some v3 ∧ W.cell? ⟨b, o + 4, none⟩ = some v4 ∧ W.cell? ⟨b, o + 5, none⟩ = some v5 ∧ ElV Q P W (.agg #[v0, v1, v2, v3, v4, v5]) e := by
  obtain ⟨kd, sp, nm, ats, tx, ks⟩ := e
  unfold ElIn at h
  obtain ⟨c0, c1, c2, ⟨av, c3, hq⟩, c4, ka, kc, c5, hk⟩ := h
  exact ⟨_, _, _, _, _, _, c0, c1, c2, c3, c4, c5, av, ka, kc, rfl, hq, hk⟩

mutual
/-- How many elements there are, how deep they are. -/
def elN : ElB → Nat
  | .mk _ _ _ _ _ ks => elsN ks + 1
def elsN : List ElB → Nat
  | [] => 0
  | e :: es => elN e + elsN es
end
mutual
def elD : ElB → Nat
  | .mk _ _ _ _ _ ks => elsD ks + 1
def elsD : List ElB → Nat
  | [] => 0
  | e :: es => max (elD e) (elsD es)
end
mutual
/-- What an element weighs in the laws. -/
def elW : ElB → Nat
  | .mk _ _ nm ats tx ks => nm.size + (attrsW ats + (tx.size + (ks.length + elsW ks)))
def elsW : List ElB → Nat
  | [] => 0
  | e :: es => elW e + elsW es
end
end Go.Proofs.YthipdkagkdnaiaaGreatDoor.Sg

namespace Go.Proofs.YthipdkagkdnaiaaGreatDoor.Sg
open Go.ChangeShapes Go.WideShapes Go.ChangeAt Go.RowKit

end Go.Proofs.YthipdkagkdnaiaaGreatDoor.Sg

namespace Go.Proofs.YthipdkagkdnaiaaGreatDoor.Sg
open Go.ChangeShapes Go.WideShapes Go.ChangeAt Go.RowKit

end Go.Proofs.YthipdkagkdnaiaaGreatDoor.Sg

namespace Go.Proofs.YthipdkagkdnaiaaGreatDoor.Sg
open Go.ChangeShapes Go.WideShapes Go.ChangeAt Go.RowKit

end Go.Proofs.YthipdkagkdnaiaaGreatDoor.Sg

namespace Go.Proofs.YthipdkagkdnaiaaGreatDoor.Sg
open Go.ChangeShapes Go.WideShapes Go.ChangeAt Go.RowKit

end Go.Proofs.YthipdkagkdnaiaaGreatDoor.Sg

namespace Go.Proofs.YthipdkagkdnaiaaGreatDoor.Sg
open Go.ChangeShapes Go.WideShapes Go.ChangeAt Go.RowKit

/-- A block has n cells that may be written. -/
def Many (n : Nat) (w : World) (b : Nat) (f : Nat → Value) : Prop := b < w.heap.size ∧ ∀ i, i < n → w.cell? ⟨b, i, none⟩ = some (f i) ∧ w.frozen? ⟨b, i, none⟩ = false
theorem Many.set {n : Nat} {w : World} {b i : Nat} {f : Nat → Value} (h : Many n w b f) (v : Value) : Many n (w.setCell ⟨b, i, none⟩ v) b (fun j => if j = i then v else f j) := by
  refine ⟨by simpa using h.1, fun j hj => ⟨?_, by simpa using (h.2 j hj).2⟩⟩
  show _ = some (if j = i then v else f j)
  by_cases e : j = i
  · subst e
    rw [if_pos rfl]
    exact World.cell?_setCell_same _ _ _ (h.2 j hj).1
  · rw [if_neg e]
    exact (World.cell?_setCell_other _ _ _ _ (by intro e2; apply e; exact (congrArg Addr.off e2).symm)).trans (h.2 j hj).1
theorem Many.other {n : Nat} {w : World} {b c i : Nat} {f : Nat → Value} (h : Many n w b f) (hc : c ≠ b) (v : Value) : Many n (w.setCell ⟨c, i, none⟩ v) b f :=
  ⟨by simpa using h.1, fun j hj => ⟨(World.cell?_setCell_other _ _ _ _ (fun e => hc (congrArg Addr.block e))).trans (h.2 j hj).1, by simpa using (h.2 j hj).2⟩⟩
theorem Many.below {n : Nat} {w w' : World} {b B : Nat} {f : Nat → Value} (h : Many n w b f) (hB : b < B) (hb : Below B w w') : Many n w' b f :=
  ⟨Nat.lt_of_lt_of_le h.1 hb.size, fun j hj => ⟨(hb.cell hB).trans (h.2 j hj).1, (hb.frozen hB).trans (h.2 j hj).2⟩⟩
theorem Many.new (w : World) (xs : List Value) (t : TypeId) (d : Value) : Many xs.length (w.alloc (.cells xs.toArray t)) w.heap.size (fun i => xs.getD i d) := by
  refine ⟨by simp, fun j hj => ⟨?_, by simp⟩⟩
  rw [World.cell?_alloc_new, List.getElem?_toArray]
  simp [List.getD, hj]

end Go.Proofs.YthipdkagkdnaiaaGreatDoor.Sg

namespace Go.Proofs.YthipdkagkdnaiaaGreatDoor.Sg
open Go.ChangeShapes Go.WideShapes Go.ChangeAt Go.RowKit

/-- From some block on two worlds are one. -/
def Agr (lo : Nat) (w w' : World) : Prop := (∀ b, lo ≤ b → w'.heap[b]? = w.heap[b]?) ∧ w.heap.size ≤ w'.heap.size
theorem Agr.trans {lo : Nat} {a b c : World} (h : Agr lo a b) (k : Agr lo b c) : Agr lo a c := ⟨fun x hx => (k.1 x hx).trans (h.1 x hx), Nat.le_trans h.2 k.2⟩
theorem Agr.set {lo c : Nat} (w : World) (i : Nat) (v : Value) (h : c < lo) : Agr lo w (w.setCell ⟨c, i, none⟩ v) := ⟨fun b hb => Below.heap_setCell _ _ _ _ (by show b ≠ c; omega), by simp [World.setCell]⟩
/-- Attributes that were laid from some block on. -/
def QA (lo : Nat) (w : World) (v : Value) (l : List AttrB) : Prop := ∃ x c, v = .slice x l.length c ∧ (∀ b o m, x = some ⟨b, o, m⟩ → lo ≤ b) ∧ (∀ b o m, x = some ⟨b, o, m⟩ → b < w.heap.size) ∧ AttrsAt w x l ∧ l.length ≤ c
theorem QA.lies (lo : Nat) : Lies (QA lo) := ⟨fun ⟨x, c, e, h1, h2, h3, h4⟩ hb => ⟨x, c, e, h1, fun b o m h => Nat.lt_of_lt_of_le (h2 b o m h) hb.size, h3.below hb, h4⟩, fun ⟨_, c, e, _⟩ => ⟨_, c, e⟩⟩
mutual
/-- Lists that can be laid. -/
def ElLight : ElB → Prop
  | .mk _ _ _ ats _ ks => ats.length ≤ 1099511627776 ∧ ks.length ≤ 1099511627776 ∧ ElsLight ks
def ElsLight : List ElB → Prop
  | [] => True
  | e :: es => ElLight e ∧ ElsLight es
end
theorem ElsLight.get : ∀ {es : List ElB}, ElsLight es → ∀ e ∈ es, ElLight e
  | [], _, _, h => nomatch h
  | x :: xs, h, e, hm => by
    unfold ElsLight at h
    rcases List.mem_cons.1 hm with rfl | hm
    · exact h.1
    · exact h.2.get e hm

end Go.Proofs.YthipdkagkdnaiaaGreatDoor.Sg
