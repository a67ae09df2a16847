/- Rows of elements that wait in a list; the words that are still to come; a builder beside them. -/
import Derived.Test.YtploagieecepfaaRwP
import Derived.Test.YtploagieecepfaaElWords
import Derived.Test.YtploagieecepfaaEwPut
namespace Go.Proofs.Ytploagieecepfaa.Sg
open Go.ChangeShapes Go.WideShapes Go.ChangeAt Go.RowKit

/-- A row as it lies. -/
structure RowW where
  a : Option Addr
  cap : Nat
  els : List ElB
def rowWs (st : List RowW) : List Value := st.map fun r => .slice r.a r.els.length r.cap
theorem rowWs_append (a b : List RowW) : rowWs (a ++ b) = rowWs a ++ rowWs b := by simp [rowWs]
theorem rowWs_len (st : List RowW) : (rowWs st).length = st.length := by simp [rowWs]
theorem rowWs_last (st : List RowW) (r : RowW) : (rowWs (st ++ [r]))[st.length]? = some (.slice r.a r.els.length r.cap) := by
  rw [rowWs_append, List.getElem?_append_right (by rw [rowWs_len]; omega), rowWs_len, Nat.sub_self]
  rfl
theorem rowWs_cut (st : List RowW) (r : RowW) : (rowWs (st ++ [r])).take st.length = rowWs st := by
  rw [rowWs_append, ← rowWs_len st, List.take_left]
/-- The words in rows, the last of which comes first; how many elements are in them. -/
def waitW : List RowW → List UInt8
  | [] => []
  | r :: st => waitW st ++ (wordsL r.els).data.toList
def waitN : List RowW → Nat
  | [] => 0
  | r :: st => waitN st + elsN r.els
theorem waitW_snoc : ∀ (st : List RowW) (r : RowW), waitW (st ++ [r]) = (wordsL r.els).data.toList ++ waitW st
  | [], r => by simp [waitW]
  | q :: st, r => by rw [List.cons_append, waitW, waitW, waitW_snoc st r, List.append_assoc]
theorem waitN_snoc : ∀ (st : List RowW) (r : RowW), waitN (st ++ [r]) = waitN st + elsN r.els
  | [], r => by simp [waitN]
  | q :: st, r => by rw [List.cons_append, waitN, waitN, waitN_snoc st r]; omega
theorem app_bytes (a b : ByteArray) : (a ++ b).data.toList = a.data.toList ++ b.data.toList := by simp
theorem words_none {es : List ElB} (h : es.length = 0) : (wordsL es).data.toList = [] := by
  rw [List.length_eq_zero_iff.1 h]
  rfl
/-- The text of an element, where it is one. -/
def textE : ElB → List UInt8
  | .mk kd _ _ _ tx _ => if kd = 2 then tx.data.toList else []
theorem words_at (es : List ElB) (k : Nat) (h : k < es.length) : (wordsL (es.drop k)).data.toList = textE (es[k]'h) ++ ((wordsL (kidsE (es[k]'h))).data.toList ++ (wordsL (es.drop (k + 1))).data.toList) := by
  rw [wordsL_drop es k h]
  generalize es[k]'h = e
  obtain ⟨kd, sp, nm, ats, tx, ks⟩ := e
  rw [wordsE, app_bytes, app_bytes, textE, kidsE, List.append_assoc]
  congr 1
  split <;> rfl
theorem elsN_kid (es : List ElB) (k : Nat) (h : k < es.length) : elsN (es.drop k) = elsN (kidsE (es[k]'h)) + 1 + elsN (es.drop (k + 1)) := by
  rw [elsN_drop es k h, elN_kids]
theorem elsN_drop_le (es : List ElB) (k : Nat) : elsN (es.drop k) ≤ elsN es := by
  induction es generalizing k with
  | nil => simp
  | cons e es ih =>
    cases k with
    | zero => simp
    | succ k =>
      have := ih k
      rw [List.drop_succ_cons, elsN]
      omega

/-- Elements from a place on. -/
theorem ElsIn.drop {Q : World → Value → List AttrB → Prop} {P : Nat → Prop} {W : World} : ∀ {es : List ElB} {b o : Nat} (k : Nat), ElsIn Q P W es b o → ElsIn Q P W (es.drop k) b (o + k * 6)
  | _, b, o, 0, h => by simpa using h
  | [], b, o, k + 1, h => by simp only [List.drop_nil]; unfold ElsIn; trivial
  | e :: es, b, o, k + 1, h => by
    unfold ElsIn at h
    have := h.2.drop k
    rw [show o + (k + 1) * 6 = o + 6 + k * 6 by omega]
    simpa using this
theorem CapS.drop {P : Nat → Prop} {W : World} : ∀ {es : List ElB} {b o : Nat} (k : Nat), CapS P W es b o → CapS P W (es.drop k) b (o + k * 6)
  | _, b, o, 0, h => by simpa using h
  | [], b, o, k + 1, h => by simp only [List.drop_nil]; unfold CapS; trivial
  | e :: es, b, o, k + 1, h => by
    unfold CapS at h
    have := h.2.drop k
    rw [show o + (k + 1) * 6 = o + 6 + k * 6 by omega]
    simpa using this

/-- A row that waits: it lies in blocks of some kind, with room in all slices. -/
structure RowAt (P : Nat → Prop) (W : World) (r : RowW) : Prop where
  kids : KidsIn QSh P W r.a r.els
  caps : CapK P W r.a r.els
  cap : r.els.length ≤ r.cap
theorem RowAt.agree {P : Nat → Prop} {w w' : World} {r : RowW} (h : RowAt P w r) (hb : ∀ b, P b → w'.heap[b]? = w.heap[b]?) (hs : w.heap.size ≤ w'.heap.size) : RowAt P w' r :=
  ⟨h.kids.agree (QSh.liesP P) hb hs, h.caps.agree (fun _ h => h) hb, h.cap⟩
/-- What the walk reads of an element in a row: its cells, its text, its kids. -/
theorem RowAt.at {P : Nat → Prop} {W : World} {r : RowW} (h : RowAt P W r) (k : Nat) (hk : k < r.els.length) : ∃ b o, r.a = some ⟨b, o, none⟩ ∧ P b ∧
    ∃ kd sp nm xa n xc tx ka kc, W.cell? ⟨b, o + k * 6, none⟩ = some (.int .i64 kd) ∧ W.cell? ⟨b, o + k * 6 + 1, none⟩ = some (.int .i64 sp) ∧ W.cell? ⟨b, o + k * 6 + 2, none⟩ = some (.string nm) ∧ W.cell? ⟨b, o + k * 6 + 3, none⟩ = some (.slice xa n xc) ∧ W.cell? ⟨b, o + k * 6 + 4, none⟩ = some (.string tx) ∧ W.cell? ⟨b, o + k * 6 + 5, none⟩ = some (.slice ka (kidsE (r.els[k]'hk)).length kc) ∧
    textE (r.els[k]'hk) = (if kd = 2 then tx.data.toList else []) ∧ RowAt P W ⟨ka, kc, kidsE (r.els[k]'hk)⟩ ∧ RowAt P W ⟨if r.cap = k + 1 then r.a else some ⟨b, o + (k + 1) * 6, none⟩, r.cap - (k + 1), r.els.drop (k + 1)⟩ := by
  obtain ⟨a, cap, els⟩ := r
  obtain ⟨h1, h2, h3⟩ := h
  simp only at h1 h2 h3 hk ⊢
  rcases h1 with h1 | ⟨b, o, rfl, hp, h1⟩
  · omega
  rcases h2 with h2 | ⟨b', o', e, _, h2⟩
  · omega
  cases e
  refine ⟨b, o, rfl, hp, ?_⟩
  have hI := h1.get k hk
  have hC := h2.get k hk
  have hd1 := h1.drop (k + 1)
  have hd2 := h2.drop (k + 1)
  have hrest : RowAt P W ⟨if cap = k + 1 then some ⟨b, o, none⟩ else some ⟨b, o + (k + 1) * 6, none⟩, cap - (k + 1), els.drop (k + 1)⟩ := by
    have hlen : (els.drop (k + 1)).length ≤ cap - (k + 1) := by rw [List.length_drop]; omega
    by_cases hc : cap = k + 1
    · have h0 : (els.drop (k + 1)).length = 0 := by rw [List.length_drop]; omega
      exact ⟨.inl h0, .inl h0, hlen⟩
    · refine ⟨.inr ⟨b, o + (k + 1) * 6, by simp [hc], hp, hd1⟩, .inr ⟨b, o + (k + 1) * 6, by simp [hc], hp, hd2⟩, hlen⟩
  generalize els[k]'hk = e at *
  obtain ⟨kd, sp, nm, ats, tx, ks⟩ := e
  unfold ElIn at hI
  unfold CapE at hC
  obtain ⟨c0, c1, c2, ⟨av, c3, hq⟩, c4, ka, kc, c5, hk1⟩ := hI
  obtain ⟨xa, xc, rfl⟩ := hq
  obtain ⟨ka', kc', c5', hc1, hk2⟩ := hC
  rw [c5] at c5'
  injection c5' with c5'
  injection c5' with e1 _ e2
  subst e1
  subst e2
  exact ⟨kd, sp, nm, xa, _, xc, tx, ka, kc, c0, c1, c2, c3, c4, c5, rfl, ⟨hk1, hk2, hc1⟩, hrest⟩
/-- Where a list came in. -/
theorem rowAt_of {lo n : Nat} {W : World} {x : Option Addr} {z : List ElB} (h : KidsIn (QA lo) (lo ≤ ·) W x z) (hc : CapK (lo ≤ ·) W x z) (hn : z.length ≤ n) : RowAt (fun b => b < W.heap.size) W ⟨x, n, z⟩ := by
  refine ⟨?_, hc.lts.agree (fun b hb => hb.2) (fun b hb => rfl), hn⟩
  rcases h with h | ⟨b, o, e, hp, h⟩
  · exact .inl h
  · by_cases hz : z.length = 0
    · exact .inl hz
    · exact .inr ⟨b, o, e, ElsIn.lt hz h, (h.lts).wider (fun v l h => by obtain ⟨x, c, e, _⟩ := h; exact ⟨x, c, e⟩) (fun b hb => hb.2) _ _ _⟩

/-- A builder stays where a row of lists turns. -/
theorem Bl.grown {B b : Nat} {acc : List UInt8} {w w' : World} {g : Option Nat} (h : Bl B b acc w) (hg : w.grownBy w' g) (hne : ∀ k, g = some k → ∃ c fr, w.heap[k]? = some (.cells c 25 fr)) : Bl B b acc w' := by
  have key : ∀ p, Lib.BuilderAtF 40 5 B b p (Lib.byteCells acc) w → Lib.BuilderAtF 40 5 B b p (Lib.byteCells acc) w' := by
    rintro p ⟨hB, v, hk, ho, hn⟩
    refine ⟨hB, v, (hg.block b (Array.getElem?_eq_some_iff.1 hk).1 fun e => ?_).trans hk, ?_, hn⟩
    · obtain ⟨c, fr, hc⟩ := hne b e.symm
      rw [hk] at hc
      injection hc with hc
      injection hc with _ ht _
      exact absurd ht (by decide)
    · obtain ⟨h1, h2⟩ := ho
      refine ⟨h1, ?_⟩
      rcases h2 with h2 | ⟨k, cap, cur, fz, e, h3, h4, h5⟩
      · exact .inl h2
      · refine .inr ⟨k, cap, cur, fz, e, h3, (hg.block k (Array.getElem?_eq_some_iff.1 h4).1 fun e => ?_).trans h4, h5⟩
        obtain ⟨c, fr, hc⟩ := hne k e.symm
        rw [h4] at hc
        injection hc with hc
        injection hc with _ ht _
        exact absurd ht (by decide)
  exact h.imp (key _) (key _)
/-- The block of a row of lists. -/
theorem own_lists {w : World} {base n : Nat} {v : Value} {xs : List Value} (h : w.ownsRow base 25 1 v n xs) : ∀ k, v.ownBlock = some k → ∃ c fr, w.heap[k]? = some (.cells c 25 fr) := by
  intro k hk
  rcases h.2 with ⟨rfl, _⟩ | ⟨g, cap, cur, rfl, _, h4, _⟩
  · simp [Value.ownBlock] at hk
  · simp [Value.ownBlock] at hk
    subst hk
    exact ⟨_, _, h4⟩
/-- A row of lists stays while something is written. -/
theorem Kp.lists {B b base n : Nat} {w w' : World} {v : Value} {xs : List Value} {acc : List UInt8} (h : Kp B b w w') (hB : Bl B b acc w) (ho : w.ownsRow base 25 1 v n xs) : w'.ownsRow base 25 1 v n xs := by
  obtain ⟨h1, h2⟩ := ho
  refine ⟨h1, ?_⟩
  rcases h2 with h2 | ⟨g, cap, cur, e, h3, h4, h5⟩
  · exact .inl h2
  · refine .inr ⟨g, cap, cur, e, h3, h.obj h4 (by decide) fun e => ?_, h5⟩
    subst e
    obtain ⟨_, c, hc⟩ := hB.block
    rw [hc] at h4
    injection h4 with h4
    injection h4 with _ ht _
    exact absurd ht (by decide)

/-- What holds between two rounds: the rows that wait, what is written. -/
def WdI (n₁ b : Nat) (w : World) (Tot : List UInt8) (N : Nat) (v : Value) (wr : World) (m : Nat) : Prop :=
  ∃ (st : List RowW) (acc : List UInt8), wr.ownsRow n₁ 25 1 v st.length (rowWs st) ∧ (∀ r ∈ st, RowAt (· < n₁) wr r) ∧ 2 * waitN st + st.length = m ∧ waitN st + st.length ≤ N ∧ Bl n₁ b acc wr ∧ acc ++ waitW st = Tot ∧ Below n₁ w wr

end Go.Proofs.Ytploagieecepfaa.Sg
