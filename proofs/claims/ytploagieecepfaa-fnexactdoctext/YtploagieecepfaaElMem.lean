/- Elements in memory. -/
import Derived.Test.YtploagieecepfaaLwToA
namespace Go.Proofs.Ytploagieecepfaa.Sg
open Go.ChangeShapes Go.WideShapes Go.ChangeAt Go.RowKit

/-- An element. -/
inductive ElB where
  | mk (kd sp : Int) (nm : ByteArray) (ats : List AttrB) (tx : ByteArray) (kids : List ElB)
def kindE : ElB → Int
  | .mk kd _ _ _ _ _ => kd

/-- How attributes lie: a slice that holds them. -/
structure Lies (Q : World → Value → List AttrB → Prop) : Prop where
  keep : ∀ {w w' : World} {v : Value} {l : List AttrB}, Q w v l → Below w.heap.size w w' → Q w' v l
  slice : ∀ {w : World} {v : Value} {l : List AttrB}, Q w v l → ∃ a c, v = .slice a l.length c

mutual
/-- An element's six cells from a place on, with all that is in it. -/
def ElIn (Q : World → Value → List AttrB → Prop) (P : Nat → Prop) (W : World) : ElB → Nat → Nat → Prop
  | .mk kd sp nm ats tx ks, b, o => W.cell? ⟨b, o, none⟩ = some (.int .i64 kd) ∧ W.cell? ⟨b, o + 1, none⟩ = some (.int .i64 sp) ∧ W.cell? ⟨b, o + 2, none⟩ = some (.string nm) ∧
    (∃ av, W.cell? ⟨b, o + 3, none⟩ = some av ∧ Q W av ats) ∧ W.cell? ⟨b, o + 4, none⟩ = some (.string tx) ∧
    (∃ ka kc, W.cell? ⟨b, o + 5, none⟩ = some (.slice ka ks.length kc) ∧ (ks.length = 0 ∨ ∃ kb ko, ka = some ⟨kb, ko, none⟩ ∧ P kb ∧ ElsIn Q P W ks kb ko))
/-- Elements one behind the other. -/
def ElsIn (Q : World → Value → List AttrB → Prop) (P : Nat → Prop) (W : World) : List ElB → Nat → Nat → Prop
  | [], _, _ => True
  | e :: es, b, o => ElIn Q P W e b o ∧ ElsIn Q P W es b (o + 6)
end
/-- The kids of an element, as its slice has them. -/
def KidsIn (Q : World → Value → List AttrB → Prop) (P : Nat → Prop) (W : World) (ka : Option Addr) (ks : List ElB) : Prop := ks.length = 0 ∨ ∃ kb ko, ka = some ⟨kb, ko, none⟩ ∧ P kb ∧ ElsIn Q P W ks kb ko
/-- An element as a value. -/
def ElV (Q : World → Value → List AttrB → Prop) (P : Nat → Prop) (W : World) (v : Value) : ElB → Prop
  | .mk kd sp nm ats tx ks => ∃ av ka kc, v = .agg #[.int .i64 kd, .int .i64 sp, .string nm, av, .string tx, .slice ka ks.length kc] ∧ Q W av ats ∧ KidsIn Q P W ka ks

mutual
theorem ElIn.keep {Q : World → Value → List AttrB → Prop} {P : Nat → Prop} (hQ : Lies Q) {w w' : World} (hb : Below w.heap.size w w') : ∀ (e : ElB) (b o : Nat), ElIn Q P w e b o → ElIn Q P w' e b o
  | .mk kd sp nm ats tx ks, b, o, h => by
    unfold ElIn at h ⊢
    obtain ⟨c0, c1, c2, ⟨av, c3, hq⟩, c4, ka, kc, c5, hk⟩ := h
    have hlt : b < w.heap.size := block_lt_of_cell c0
    refine ⟨(hb.cell (by exact hlt)).trans c0, (hb.cell (by exact hlt)).trans c1, (hb.cell (by exact hlt)).trans c2, ⟨av, (hb.cell (by exact hlt)).trans c3, hQ.keep hq hb⟩, (hb.cell (by exact hlt)).trans c4, ka, kc, (hb.cell (by exact hlt)).trans c5, ?_⟩
    rcases hk with h0 | ⟨kb, ko, e, hp, hk⟩
    · exact .inl h0
    · exact .inr ⟨kb, ko, e, hp, ElsIn.keep hQ hb ks kb ko hk⟩
theorem ElsIn.keep {Q : World → Value → List AttrB → Prop} {P : Nat → Prop} (hQ : Lies Q) {w w' : World} (hb : Below w.heap.size w w') : ∀ (es : List ElB) (b o : Nat), ElsIn Q P w es b o → ElsIn Q P w' es b o
  | [], _, _, _ => by unfold ElsIn; trivial
  | e :: es, b, o, h => by
    unfold ElsIn at h ⊢
    exact ⟨ElIn.keep hQ hb e b o h.1, ElsIn.keep hQ hb es b (o + 6) h.2⟩
end
theorem KidsIn.keep {Q : World → Value → List AttrB → Prop} {P : Nat → Prop} (hQ : Lies Q) {w w' : World} (hb : Below w.heap.size w w') {ka : Option Addr} {ks : List ElB} (h : KidsIn Q P w ka ks) : KidsIn Q P w' ka ks := by
  rcases h with h | ⟨kb, ko, e, hp, h⟩
  · exact .inl h
  · exact .inr ⟨kb, ko, e, hp, h.keep hQ hb⟩
theorem ElV.keep {Q : World → Value → List AttrB → Prop} {P : Nat → Prop} (hQ : Lies Q) {w w' : World} (hb : Below w.heap.size w w') {v : Value} {e : ElB} (h : ElV Q P w v e) : ElV Q P w' v e := by
  obtain ⟨kd, sp, nm, ats, tx, ks⟩ := e
  obtain ⟨av, ka, kc, e, hq, hk⟩ := h
  exact ⟨av, ka, kc, e, hQ.keep hq hb, hk.keep hQ hb⟩
/-- Attributes that lie in blocks of some kind stay where these blocks stay. -/
structure LiesP (Q : World → Value → List AttrB → Prop) (P : Nat → Prop) : Prop where
  agree : ∀ {w w' : World} {v : Value} {l : List AttrB}, Q w v l → (∀ b, P b → w'.heap[b]? = w.heap[b]?) → w.heap.size ≤ w'.heap.size → Q w' v l
theorem cell_agree {w w' : World} {b o : Nat} (h : w'.heap[b]? = w.heap[b]?) : w'.cell? ⟨b, o, none⟩ = w.cell? ⟨b, o, none⟩ := by simp [World.cell?, h]
mutual
theorem ElIn.agree {Q : World → Value → List AttrB → Prop} {P : Nat → Prop} (hQ : LiesP Q P) {w w' : World} (hb : ∀ b, P b → w'.heap[b]? = w.heap[b]?) (hs : w.heap.size ≤ w'.heap.size) : ∀ (e : ElB) (b o : Nat), P b → ElIn Q P w e b o → ElIn Q P w' e b o
  | .mk kd sp nm ats tx ks, b, o, hP, h => by
    unfold ElIn at h ⊢
    obtain ⟨c0, c1, c2, ⟨av, c3, hq⟩, c4, ka, kc, c5, hk⟩ := h
    have hc := hb b hP
    refine ⟨(cell_agree hc).trans c0, (cell_agree hc).trans c1, (cell_agree hc).trans c2, ⟨av, (cell_agree hc).trans c3, hQ.agree hq hb hs⟩, (cell_agree hc).trans c4, ka, kc, (cell_agree hc).trans c5, ?_⟩
    rcases hk with h0 | ⟨kb, ko, e, hp, hk⟩
    · exact .inl h0
    · exact .inr ⟨kb, ko, e, hp, ElsIn.agree hQ hb hs ks kb ko hp hk⟩
theorem ElsIn.agree {Q : World → Value → List AttrB → Prop} {P : Nat → Prop} (hQ : LiesP Q P) {w w' : World} (hb : ∀ b, P b → w'.heap[b]? = w.heap[b]?) (hs : w.heap.size ≤ w'.heap.size) : ∀ (es : List ElB) (b o : Nat), P b → ElsIn Q P w es b o → ElsIn Q P w' es b o
  | [], _, _, _, _ => by unfold ElsIn; trivial
  | e :: es, b, o, hP, h => by
    unfold ElsIn at h ⊢
    exact ⟨ElIn.agree hQ hb hs e b o hP h.1, ElsIn.agree hQ hb hs es b (o + 6) hP h.2⟩
end
theorem ElV.agree {Q : World → Value → List AttrB → Prop} {P : Nat → Prop} (hQ : LiesP Q P) {w w' : World} (hb : ∀ b, P b → w'.heap[b]? = w.heap[b]?) (hs : w.heap.size ≤ w'.heap.size) {v : Value} {e : ElB} (h : ElV Q P w v e) : ElV Q P w' v e := by
  obtain ⟨kd, sp, nm, ats, tx, ks⟩ := e
  obtain ⟨av, ka, kc, e, hq, hk⟩ := h
  refine ⟨av, ka, kc, e, hQ.agree hq hb hs, ?_⟩
  rcases hk with h0 | ⟨kb, ko, e, hp, hk⟩
  · exact .inl h0
  · exact .inr ⟨kb, ko, e, hp, ElsIn.agree hQ hb hs ks kb ko hp hk⟩
mutual
theorem ElIn.wider {Q Q' : World → Value → List AttrB → Prop} {P P' : Nat → Prop} {w : World} (hQ : ∀ v l, Q w v l → Q' w v l) (hP : ∀ b, P b → P' b) : ∀ (e : ElB) (b o : Nat), ElIn Q P w e b o → ElIn Q' P' w e b o
  | .mk kd sp nm ats tx ks, b, o, h => by
    unfold ElIn at h ⊢
    obtain ⟨c0, c1, c2, ⟨av, c3, hq⟩, c4, ka, kc, c5, hk⟩ := h
    refine ⟨c0, c1, c2, ⟨av, c3, hQ _ _ hq⟩, c4, ka, kc, c5, ?_⟩
    rcases hk with h0 | ⟨kb, ko, e, hp, hk⟩
    · exact .inl h0
    · exact .inr ⟨kb, ko, e, hP _ hp, ElsIn.wider hQ hP ks kb ko hk⟩
theorem ElsIn.wider {Q Q' : World → Value → List AttrB → Prop} {P P' : Nat → Prop} {w : World} (hQ : ∀ v l, Q w v l → Q' w v l) (hP : ∀ b, P b → P' b) : ∀ (es : List ElB) (b o : Nat), ElsIn Q P w es b o → ElsIn Q' P' w es b o
  | [], _, _, _ => by unfold ElsIn; trivial
  | e :: es, b, o, h => by
    unfold ElsIn at h ⊢
    exact ⟨ElIn.wider hQ hP e b o h.1, ElsIn.wider hQ hP es b (o + 6) h.2⟩
end
theorem ElV.wider {Q Q' : World → Value → List AttrB → Prop} {P P' : Nat → Prop} {w : World} (hQ : ∀ v l, Q w v l → Q' w v l) (hP : ∀ b, P b → P' b) {v : Value} {e : ElB} (h : ElV Q P w v e) : ElV Q' P' w v e := by
  obtain ⟨kd, sp, nm, ats, tx, ks⟩ := e
  obtain ⟨av, ka, kc, e, hq, hk⟩ := h
  refine ⟨av, ka, kc, e, hQ _ _ hq, ?_⟩
  rcases hk with h0 | ⟨kb, ko, e, hp, hk⟩
  · exact .inl h0
  · exact .inr ⟨kb, ko, e, hP _ hp, ElsIn.wider hQ hP ks kb ko hk⟩
/-- Cells that hold an element's value are the element. -/
theorem ElV.cells {Q : World → Value → List AttrB → Prop} {P : Nat → Prop} {W : World} {v0 v1 v2 v3 v4 v5 : Value} {e : ElB} {b o : Nat} (h : ElV Q P W (.agg #[v0, v1, v2, v3, v4, v5]) e) (c0 : W.cell? ⟨b, o, none⟩ = some v0) (c1 : W.cell? ⟨b, o + 1, none⟩ = some v1) (c2 : W.cell? ⟨b, o + 2, none⟩ = some v2) (c3 : W.cell? ⟨b, o + 3, none⟩ = some v3) (c4 : W.cell? ⟨b, o + 4, none⟩ = some v4) (c5 : W.cell? ⟨b, o + 5, none⟩ = some v5) : ElIn Q P W e b o := by
  obtain ⟨kd, sp, nm, ats, tx, ks⟩ := e
  obtain ⟨av, ka, kc, e, hq, hk⟩ := h
  injection e with e
  simp at e
  obtain ⟨rfl, rfl, rfl, rfl, rfl, rfl⟩ := e
  unfold ElIn
  exact ⟨c0, c1, c2, ⟨_, c3, hq⟩, c4, _, _, c5, hk⟩
/-- One of several. -/
theorem ElsIn.get {Q : World → Value → List AttrB → Prop} {P : Nat → Prop} {W : World} : ∀ {es : List ElB} {b o : Nat}, ElsIn Q P W es b o → ∀ (k : Nat) (h : k < es.length), ElIn Q P W (es[k]'h) b (o + k * 6)
  | [], _, _, _, k, hk => absurd hk (by simp)
  | e :: es, b, o, h, 0, _ => by
    unfold ElsIn at h
    simpa using h.1
  | e :: es, b, o, h, k + 1, hk => by
    unfold ElsIn at h
    have := h.2.get k (by simpa using hk)
    rw [show o + (k + 1) * 6 = o + 6 + k * 6 by omega]
    simpa using this
theorem ElsIn.of {Q : World → Value → List AttrB → Prop} {P : Nat → Prop} {W : World} : ∀ {es : List ElB} {b o : Nat}, (∀ (k : Nat) (h : k < es.length), ElIn Q P W (es[k]'h) b (o + k * 6)) → ElsIn Q P W es b o
  | [], _, _, _ => by unfold ElsIn; trivial
  | e :: es, b, o, h => by
    unfold ElsIn
    have h0 := h 0 (by simp)
    rw [Nat.zero_mul, Nat.add_zero] at h0
    refine ⟨h0, ElsIn.of fun k hk => ?_⟩
    have := h (k + 1) (by simpa using hk)
    rw [show o + (k + 1) * 6 = o + 6 + k * 6 by omega] at this
    simpa using this
/-- A kid's cells, and the value that they make. -/
theorem ElIn.cells {Q : World → Value → List AttrB → Prop} {P : Nat → Prop} {W : World} {e : ElB} {b o : Nat} (h : ElIn Q P W e b o) : ∃ v0 v1 v2 v3 v4 v5, W.cell? ⟨b, o, none⟩ = some v0 ∧ W.cell? ⟨b, o + 1, none⟩ = some v1 ∧ W.cell? ⟨b, o + 2, none⟩ = some v2 ∧ W.cell? ⟨b, o + 3, none⟩ = some v3 ∧ W.cell? ⟨b, o + 4, none⟩ = some v4 ∧ W.cell? ⟨b, o + 5, none⟩ = some v5 ∧ ElV Q P W (.agg #[v0, v1, v2, v3, v4, v5]) e := by
  obtain ⟨kd, sp, nm, ats, tx, ks⟩ := e
  unfold ElIn at h
  obtain ⟨c0, c1, c2, ⟨av, c3, hq⟩, c4, ka, kc, c5, hk⟩ := h
  exact ⟨_, _, _, _, _, _, c0, c1, c2, c3, c4, c5, av, ka, kc, rfl, hq, hk⟩

mutual
/-- The kids' slices have room for what they hold; what is in them lies in blocks of some kind. -/
def CapE (P : Nat → Prop) (W : World) : ElB → Nat → Nat → Prop
  | .mk _ _ _ _ _ ks, b, o => ∃ ka kc, W.cell? ⟨b, o + 5, none⟩ = some (.slice ka ks.length kc) ∧ ks.length ≤ kc ∧ (ks.length = 0 ∨ ∃ kb ko, ka = some ⟨kb, ko, none⟩ ∧ P kb ∧ CapS P W ks kb ko)
def CapS (P : Nat → Prop) (W : World) : List ElB → Nat → Nat → Prop
  | [], _, _ => True
  | e :: es, b, o => CapE P W e b o ∧ CapS P W es b (o + 6)
end
def CapK (P : Nat → Prop) (W : World) (ka : Option Addr) (ks : List ElB) : Prop := ks.length = 0 ∨ ∃ kb ko, ka = some ⟨kb, ko, none⟩ ∧ P kb ∧ CapS P W ks kb ko
def CapV (P : Nat → Prop) (W : World) (v : Value) : ElB → Prop
  | .mk _ _ _ _ _ ks => ∃ v0 v1 v2 v3 v4 ka kc, v = .agg #[v0, v1, v2, v3, v4, .slice ka ks.length kc] ∧ ks.length ≤ kc ∧ CapK P W ka ks
mutual
theorem CapE.agree {P P' : Nat → Prop} {w w' : World} (hl : ∀ b, P b → P' b) (hb : ∀ b, P b → w'.heap[b]? = w.heap[b]?) : ∀ (e : ElB) (b o : Nat), P b → CapE P w e b o → CapE P' w' e b o
  | .mk kd sp nm ats tx ks, b, o, hB, h => by
    unfold CapE at h ⊢
    obtain ⟨ka, kc, c5, h1, hk⟩ := h
    refine ⟨ka, kc, (cell_agree (hb b hB)).trans c5, h1, ?_⟩
    rcases hk with h0 | ⟨kb, ko, e, hp, hk⟩
    · exact .inl h0
    · exact .inr ⟨kb, ko, e, hl _ hp, CapS.agree hl hb ks kb ko hp hk⟩
theorem CapS.agree {P P' : Nat → Prop} {w w' : World} (hl : ∀ b, P b → P' b) (hb : ∀ b, P b → w'.heap[b]? = w.heap[b]?) : ∀ (es : List ElB) (b o : Nat), P b → CapS P w es b o → CapS P' w' es b o
  | [], _, _, _, _ => by unfold CapS; trivial
  | e :: es, b, o, hB, h => by
    unfold CapS at h ⊢
    exact ⟨CapE.agree hl hb e b o hB h.1, CapS.agree hl hb es b (o + 6) hB h.2⟩
end
theorem CapK.agree {P P' : Nat → Prop} {w w' : World} (hl : ∀ b, P b → P' b) (hb : ∀ b, P b → w'.heap[b]? = w.heap[b]?) {ka : Option Addr} {ks : List ElB} (h : CapK P w ka ks) : CapK P' w' ka ks := by
  rcases h with h0 | ⟨kb, ko, e, hp, hk⟩
  · exact .inl h0
  · exact .inr ⟨kb, ko, e, hl _ hp, CapS.agree hl hb ks kb ko hp hk⟩
theorem CapV.agree {P P' : Nat → Prop} {w w' : World} (hl : ∀ b, P b → P' b) (hb : ∀ b, P b → w'.heap[b]? = w.heap[b]?) {v : Value} {e : ElB} (h : CapV P w v e) : CapV P' w' v e := by
  obtain ⟨kd, sp, nm, ats, tx, ks⟩ := e
  obtain ⟨v0, v1, v2, v3, v4, ka, kc, e, h1, hk⟩ := h
  exact ⟨v0, v1, v2, v3, v4, ka, kc, e, h1, hk.agree hl hb⟩
mutual
theorem CapE.keep {P : Nat → Prop} {w w' : World} (hb : Below w.heap.size w w') : ∀ (e : ElB) (b o : Nat), CapE P w e b o → CapE P w' e b o
  | .mk kd sp nm ats tx ks, b, o, h => by
    unfold CapE at h ⊢
    obtain ⟨ka, kc, c5, h1, hk⟩ := h
    refine ⟨ka, kc, (hb.cell (by exact block_lt_of_cell c5)).trans c5, h1, ?_⟩
    rcases hk with h0 | ⟨kb, ko, e, hp, hk⟩
    · exact .inl h0
    · exact .inr ⟨kb, ko, e, hp, CapS.keep hb ks kb ko hk⟩
theorem CapS.keep {P : Nat → Prop} {w w' : World} (hb : Below w.heap.size w w') : ∀ (es : List ElB) (b o : Nat), CapS P w es b o → CapS P w' es b o
  | [], _, _, _ => by unfold CapS; trivial
  | e :: es, b, o, h => by
    unfold CapS at h ⊢
    exact ⟨CapE.keep hb e b o h.1, CapS.keep hb es b (o + 6) h.2⟩
end
theorem CapK.keep {P : Nat → Prop} {w w' : World} (hb : Below w.heap.size w w') {ka : Option Addr} {ks : List ElB} (h : CapK P w ka ks) : CapK P w' ka ks := by
  rcases h with h0 | ⟨kb, ko, e, hp, hk⟩
  · exact .inl h0
  · exact .inr ⟨kb, ko, e, hp, CapS.keep hb ks kb ko hk⟩
theorem CapV.keep {P : Nat → Prop} {w w' : World} (hb : Below w.heap.size w w') {v : Value} {e : ElB} (h : CapV P w v e) : CapV P w' v e := by
  obtain ⟨kd, sp, nm, ats, tx, ks⟩ := e
  obtain ⟨v0, v1, v2, v3, v4, ka, kc, e, h1, hk⟩ := h
  exact ⟨v0, v1, v2, v3, v4, ka, kc, e, h1, hk.keep hb⟩
theorem CapV.cells {P : Nat → Prop} {W : World} {v0 v1 v2 v3 v4 v5 : Value} {e : ElB} {b o : Nat} (h : CapV P W (.agg #[v0, v1, v2, v3, v4, v5]) e) (c5 : W.cell? ⟨b, o + 5, none⟩ = some v5) : CapE P W e b o := by
  obtain ⟨kd, sp, nm, ats, tx, ks⟩ := e
  obtain ⟨u0, u1, u2, u3, u4, ka, kc, e, h1, hk⟩ := h
  injection e with e
  simp at e
  obtain ⟨_, _, _, _, _, rfl⟩ := e
  unfold CapE
  exact ⟨ka, kc, c5, h1, hk⟩
theorem CapS.get {P : Nat → Prop} {W : World} : ∀ {es : List ElB} {b o : Nat}, CapS P W es b o → ∀ (k : Nat) (h : k < es.length), CapE P W (es[k]'h) b (o + k * 6)
  | [], _, _, _, k, hk => absurd hk (by simp)
  | e :: es, b, o, h, 0, _ => by
    unfold CapS at h
    simpa using h.1
  | e :: es, b, o, h, k + 1, hk => by
    unfold CapS at h
    have := h.2.get k (by simpa using hk)
    rw [show o + (k + 1) * 6 = o + 6 + k * 6 by omega]
    simpa using this
theorem CapS.of {P : Nat → Prop} {W : World} : ∀ {es : List ElB} {b o : Nat}, (∀ (k : Nat) (h : k < es.length), CapE P W (es[k]'h) b (o + k * 6)) → CapS P W es b o
  | [], _, _, _ => by unfold CapS; trivial
  | e :: es, b, o, h => by
    unfold CapS
    have h0 := h 0 (by simp)
    rw [Nat.zero_mul, Nat.add_zero] at h0
    refine ⟨h0, CapS.of fun k hk => ?_⟩
    have := h (k + 1) (by simpa using hk)
    rw [show o + (k + 1) * 6 = o + 6 + k * 6 by omega] at this
    simpa using this
theorem CapS.lt {P : Nat → Prop} {w : World} {e : ElB} {es : List ElB} {b o : Nat} (h : CapS P w (e :: es) b o) : b < w.heap.size := by
  unfold CapS at h
  obtain ⟨kd, sp, nm, ats, tx, ks⟩ := e
  have h1 := h.1
  unfold CapE at h1
  obtain ⟨ka, kc, c5, _⟩ := h1
  exact block_lt_of_cell c5
mutual
theorem CapE.lts {P : Nat → Prop} {w : World} : ∀ (e : ElB) (b o : Nat), CapE P w e b o → CapE (fun b => P b ∧ b < w.heap.size) w e b o
  | .mk kd sp nm ats tx ks, b, o, h => by
    unfold CapE at h ⊢
    obtain ⟨ka, kc, c5, h1, hk⟩ := h
    refine ⟨ka, kc, c5, h1, ?_⟩
    rcases hk with h0 | ⟨kb, ko, e, hp, hk⟩
    · exact .inl h0
    · cases ks with
      | nil => exact .inl rfl
      | cons x xs => exact .inr ⟨kb, ko, e, ⟨hp, CapS.lt hk⟩, CapS.lts (x :: xs) kb ko hk⟩
theorem CapS.lts {P : Nat → Prop} {w : World} : ∀ (es : List ElB) (b o : Nat), CapS P w es b o → CapS (fun b => P b ∧ b < w.heap.size) w es b o
  | [], _, _, _ => by unfold CapS; trivial
  | e :: es, b, o, h => by
    unfold CapS at h ⊢
    exact ⟨CapE.lts e b o h.1, CapS.lts es b (o + 6) h.2⟩
end
theorem CapK.lts {P : Nat → Prop} {w : World} {ka : Option Addr} {ks : List ElB} (h : CapK P w ka ks) : CapK (fun b => P b ∧ b < w.heap.size) w ka ks := by
  rcases h with h0 | ⟨kb, ko, e, hp, hk⟩
  · exact .inl h0
  · cases ks with
    | nil => exact .inl rfl
    | cons x xs => exact .inr ⟨kb, ko, e, ⟨hp, CapS.lt hk⟩, CapS.lts (x :: xs) kb ko hk⟩

/-- Wherever it lies. -/
def anyB : Nat → Prop := fun _ => True
mutual
/-- How many elements there are, how deep they are. -/
def elN : ElB → Nat
  | .mk _ _ _ _ _ ks => elsN ks + 1
def elsN : List ElB → Nat
  | [] => 0
  | e :: es => elN e + elsN es
end
mutual
def elD : ElB → Nat
  | .mk _ _ _ _ _ ks => elsD ks + 1
def elsD : List ElB → Nat
  | [] => 0
  | e :: es => max (elD e) (elsD es)
end
mutual
/-- What an element weighs in the laws. -/
def elW : ElB → Nat
  | .mk _ _ nm ats tx ks => nm.size + (attrsW ats + (tx.size + (ks.length + elsW ks)))
def elsW : List ElB → Nat
  | [] => 0
  | e :: es => elW e + elsW es
end
mutual
/-- Texts that a machine can hold. -/
def ElHeld : ElB → Prop
  | .mk _ _ nm ats tx ks => nm.size ≤ 9223372036854775807 ∧ AttrsHeld ats ∧ tx.size ≤ 9223372036854775807 ∧ ks.length ≤ 9223372036854775807 ∧ ElsHeld ks
def ElsHeld : List ElB → Prop
  | [] => True
  | e :: es => ElHeld e ∧ ElsHeld es
end
theorem ElsHeld.get : ∀ {es : List ElB}, ElsHeld es → ∀ (k : Nat) (h : k < es.length), ElHeld (es[k]'h)
  | [], _, k, hk => absurd hk (by simp)
  | e :: es, h, 0, _ => by unfold ElsHeld at h; exact h.1
  | e :: es, h, k + 1, hk => by
    unfold ElsHeld at h
    exact h.2.get k (by simpa using hk)
theorem ElsHeld.of : ∀ {es : List ElB}, (∀ e ∈ es, ElHeld e) → ElsHeld es
  | [], _ => by unfold ElsHeld; trivial
  | e :: es, h => by unfold ElsHeld; exact ⟨h e List.mem_cons_self, ElsHeld.of fun x hx => h x (List.mem_cons_of_mem _ hx)⟩

end Go.Proofs.Ytploagieecepfaa.Sg
