/- Plain: rows of elements, one taken from behind, the kids of its elements put behind. -/
import Derived.Test.YtploagieecepfaaElSpec
namespace Go.Proofs.Ytploagieecepfaa.Sg
open Go.ChangeShapes Go.WideShapes Go.ChangeAt Go.RowKit

/-- The kids of an element. -/
def kidsE : ElB → List ElB
  | .mk _ _ _ _ _ ks => ks
theorem elN_kids (e : ElB) : elN e = elsN (kidsE e) + 1 := by obtain ⟨kd, sp, nm, ats, tx, ks⟩ := e; rw [elN, kidsE]
theorem elD_kids (e : ElB) : elD e = elsD (kidsE e) + 1 := by obtain ⟨kd, sp, nm, ats, tx, ks⟩ := e; rw [elD, kidsE]
/-- The rows that are put behind for these. -/
def pushP (d : Nat) : List ElB → List (List ElB × Nat)
  | [] => []
  | e :: es => if (kidsE e).length = 0 then pushP d es else (kidsE e, d) :: pushP d es
theorem pushP_append (d : Nat) : ∀ (a b : List ElB), pushP d (a ++ b) = pushP d a ++ pushP d b
  | [], b => rfl
  | e :: a, b => by
    rw [List.cons_append, pushP, pushP, pushP_append d a b]
    split <;> rfl
theorem pushP_step (d : Nat) (els : List ElB) (k : Nat) (h : k < els.length) : pushP d (els.take (k + 1)) = pushP d (els.take k) ++ if (kidsE (els[k]'h)).length = 0 then [] else [(kidsE (els[k]'h), d)] := by
  rw [List.take_succ_eq_append_getElem h, pushP_append]
  rfl
/-- Rows that wait, and those that come, in their order. -/
inductive Vis : List (List ElB × Nat) → List (List ElB × Nat) → Prop where
  | nil : Vis [] []
  | pop (st : List (List ElB × Nat)) (r : List ElB × Nat) (ys : List (List ElB × Nat)) : Vis (st ++ pushP (r.2 + 1) r.1) ys → Vis (st ++ [r]) (r :: ys)
/-- How many elements are in rows, how many rounds there are at most. -/
def wN (st : List (List ElB × Nat)) : Nat := (st.map fun r => elsN r.1).sum
def wM (st : List (List ElB × Nat)) : Nat := (st.map fun r => elsN r.1 + 1).sum
theorem wN_append (a b : List (List ElB × Nat)) : wN (a ++ b) = wN a + wN b := by simp [wN]
theorem wM_append (a b : List (List ElB × Nat)) : wM (a ++ b) = wM a + wM b := by simp [wM]
theorem wM_len : ∀ st : List (List ElB × Nat), st.length ≤ wM st
  | [] => Nat.zero_le _
  | r :: st => by
    have := wM_len st
    rw [show r :: st = [r] ++ st from rfl, wM_append]
    simp [wM] at *
    omega
theorem wN_push (d : Nat) : ∀ els : List ElB, wN (pushP d els) + els.length = elsN els
  | [] => rfl
  | e :: es => by
    have ih := wN_push d es
    have hn := elN_kids e
    rw [pushP, elsN, List.length_cons]
    split
    · rename_i h
      have h0 : elsN (kidsE e) = 0 := by rw [List.length_eq_zero_iff.1 h]; rfl
      omega
    · rw [show (kidsE e, d) :: pushP d es = [(kidsE e, d)] ++ pushP d es from rfl, wN_append]
      have h1 : wN [(kidsE e, d)] = elsN (kidsE e) := by simp [wN]
      omega
theorem wM_push (d : Nat) : ∀ els : List ElB, wM (pushP d els) ≤ elsN els
  | [] => Nat.le_refl _
  | e :: es => by
    have ih := wM_push d es
    have hn := elN_kids e
    rw [pushP, elsN]
    split
    · omega
    · rw [show (kidsE e, d) :: pushP d es = [(kidsE e, d)] ++ pushP d es from rfl, wM_append]
      have h1 : wM [(kidsE e, d)] = elsN (kidsE e) + 1 := by simp [wM]
      omega
theorem wM_pop (st : List (List ElB × Nat)) (r : List ElB × Nat) : wM (st ++ pushP (r.2 + 1) r.1) < wM (st ++ [r]) := by
  have := wM_push (r.2 + 1) r.1
  have h1 : wM [r] = elsN r.1 + 1 := by simp [wM]
  rw [wM_append, wM_append]
  omega
/-- All rows come. -/
theorem vis_any : ∀ (m : Nat) (st : List (List ElB × Nat)), wM st ≤ m → ∃ ys, Vis st ys
  | m, st, h => by
    rcases List.eq_nil_or_concat st with rfl | ⟨s, r, rfl⟩
    · exact ⟨[], .nil⟩
    · rw [List.concat_eq_append] at h ⊢
      have hp := wM_pop s r
      match m, h with
      | 0, h => omega
      | m + 1, h =>
        obtain ⟨ys, hy⟩ := vis_any m (s ++ pushP (r.2 + 1) r.1) (by omega)
        exact ⟨r :: ys, .pop s r ys hy⟩
theorem elsN_take : ∀ (es : List ElB) (k : Nat), elsN (es.take k) ≤ elsN es
  | [], k => by simp
  | e :: es, 0 => by simp [elsN]
  | e :: es, k + 1 => by
    have := elsN_take es k
    rw [List.take_succ_cons, elsN, elsN]
    omega
/-- How many come. -/
def lenR (ys : List (List ElB × Nat)) : Nat := (ys.map fun r => r.1.length).sum
theorem lenR_snoc (ys : List (List ElB × Nat)) (r : List ElB × Nat) : lenR (ys ++ [r]) = lenR ys + r.1.length := by simp [lenR]
theorem vis_len {st ys : List (List ElB × Nat)} (h : Vis st ys) : lenR ys = wN st := by
  induction h with
  | nil => rfl
  | pop st r ys _ ih =>
    rw [wN_append] at ih ⊢
    have := wN_push (r.2 + 1) r.1
    have h1 : wN [r] = elsN r.1 := by simp [wN]
    have h2 : lenR (r :: ys) = r.1.length + lenR ys := by simp [lenR]
    omega
/-- How deep they are. -/
def maxR : List (List ElB × Nat) → Nat
  | [] => 0
  | r :: ys => max r.2 (maxR ys)
theorem maxR_snoc : ∀ (ys : List (List ElB × Nat)) (r : List ElB × Nat), maxR (ys ++ [r]) = max (maxR ys) r.2
  | [], r => by simp [maxR]
  | y :: ys, r => by
    rw [List.cons_append, maxR, maxR, maxR_snoc ys r]
    omega
def mD : List (List ElB × Nat) → Nat
  | [] => 0
  | r :: st => max (r.2 - 1 + elsD r.1) (mD st)
theorem mD_append : ∀ a b : List (List ElB × Nat), mD (a ++ b) = max (mD a) (mD b)
  | [], b => by simp [mD]
  | r :: a, b => by
    rw [List.cons_append, mD, mD, mD_append a b]
    omega
theorem elsD_pos : ∀ es : List ElB, es ≠ [] → 1 ≤ elsD es
  | [], h => absurd rfl h
  | e :: es, _ => by
    have := elD_kids e
    rw [elsD]
    omega
theorem mD_push (d : Nat) : ∀ els : List ElB, max (d + 1) (mD (pushP (d + 2) els)) = max (d + 1) (d + elsD els)
  | [] => by simp [pushP, mD, elsD]
  | e :: es => by
    have ih := mD_push d es
    have hn := elD_kids e
    rw [pushP, elsD]
    split
    · rename_i h
      have h0 : elsD (kidsE e) = 0 := by rw [List.length_eq_zero_iff.1 h]; rfl
      omega
    · rw [mD]
      simp only
      omega
theorem pushP_kids (d : Nat) : ∀ (els : List ElB) (r : List ElB × Nat), r ∈ pushP d els → r.1 ≠ [] ∧ r.2 = d
  | [], r, h => nomatch h
  | e :: es, r, h => by
    rw [pushP] at h
    split at h
    · exact pushP_kids d es r h
    · rename_i hk
      rcases List.mem_cons.1 h with h | h
      · rw [h]
        exact ⟨fun h0 => hk (by rw [show kidsE e = [] from h0]; rfl), rfl⟩
      · exact pushP_kids d es r h
theorem pushP_deep (d : Nat) : ∀ (els : List ElB) (r : List ElB × Nat), r ∈ pushP d els → elsD r.1 + 1 ≤ elsD els
  | [], r, h => nomatch h
  | e :: es, r, h => by
    have he := elD_kids e
    rw [pushP] at h
    rw [elsD]
    split at h
    · have := pushP_deep d es r h
      omega
    · rcases List.mem_cons.1 h with h | h
      · rw [h]
        simp only
        omega
      · have := pushP_deep d es r h
        omega
theorem vis_deep {st ys : List (List ElB × Nat)} (h : Vis st ys) : (∀ r ∈ st, r.1 ≠ [] ∧ 1 ≤ r.2) → maxR ys = mD st := by
  induction h with
  | nil => intro; rfl
  | pop st r ys _ ih =>
    intro hr
    have hr1 := hr r (by simp)
    have hp := elsD_pos r.1 hr1.1
    have hm := mD_push (r.2 - 1) r.1
    rw [show r.2 - 1 + 1 = r.2 by omega, show r.2 - 1 + 2 = r.2 + 1 by omega] at hm
    have h1 := ih (fun q hq => by
      rcases List.mem_append.1 hq with hq | hq
      · exact hr q (by simp [hq])
      · have := pushP_kids _ _ q hq
        exact ⟨this.1, by omega⟩)
    rw [mD_append] at h1 ⊢
    have h2 : mD [r] = r.2 - 1 + elsD r.1 := by simp [mD]
    rw [maxR, h1, h2]
    omega

/-- A row as it lies. -/
structure RowX where
  a : Option Addr
  cap : Nat
  els : List ElB
  deep : Nat
def RowX.p (r : RowX) : List ElB × Nat := (r.els, r.deep)
def rowCs (st : List RowX) : List Value := st.flatMap fun r => [.slice r.a r.els.length r.cap, .int .i64 (r.deep : Int)]
theorem rowCs_append (a b : List RowX) : rowCs (a ++ b) = rowCs a ++ rowCs b := by simp [rowCs]
theorem rowCs_len : ∀ st : List RowX, (rowCs st).length = st.length * 2
  | [] => rfl
  | r :: st => by
    have := rowCs_len st
    rw [show r :: st = [r] ++ st from rfl, rowCs_append, List.length_append, this]
    simp [rowCs]
    omega
theorem rowCs_last (st : List RowX) (r : RowX) : (rowCs (st ++ [r]))[st.length * 2]? = some (.slice r.a r.els.length r.cap) ∧ (rowCs (st ++ [r]))[st.length * 2 + 1]? = some (.int .i64 (r.deep : Int)) := by
  have h := rowCs_len st
  rw [rowCs_append, List.getElem?_append_right (by omega), List.getElem?_append_right (by omega), h]
  have e1 : st.length * 2 - st.length * 2 = 0 := by omega
  have e2 : st.length * 2 + 1 - st.length * 2 = 1 := by omega
  rw [e1, e2]
  exact ⟨rfl, rfl⟩
theorem rowCs_cut (st : List RowX) (r : RowX) : (rowCs (st ++ [r])).take (st.length * 2) = rowCs st := by
  rw [rowCs_append, ← rowCs_len st, List.take_left]
/-- The beginning of a row that is owned. -/
theorem owns_cutn {w : World} {base g cap n m z : Nat} {e : TypeId} {xs : List Value} (h : w.ownsRow base e z (.slice (some ⟨g, 0, none⟩) n cap) n xs) (hm : m ≤ n) : w.ownsRow base e z (.slice (some ⟨g, 0, none⟩) m cap) m (xs.take (m * z)) := by
  have hmz : m * z ≤ n * z := Nat.mul_le_mul_right z hm
  obtain ⟨h1, h2⟩ := h
  rcases h2 with ⟨h2, _⟩ | ⟨g', cap', cur, hv, h3, h4, h5, h6, h7, h8⟩
  · cases h2
  · cases hv
    refine ⟨by rw [List.length_take, h1]; omega, .inr ⟨g, cap, cur, rfl, h3, h4, by omega, h6, h7, ?_⟩⟩
    rw [← h8, List.take_take]
    congr 1
    omega
theorem KidsIn.agree {Q : World → Value → List AttrB → Prop} {P : Nat → Prop} (hQ : LiesP Q P) {w w' : World} (hb : ∀ b, P b → w'.heap[b]? = w.heap[b]?) (hs : w.heap.size ≤ w'.heap.size) {ka : Option Addr} {ks : List ElB} (h : KidsIn Q P w ka ks) : KidsIn Q P w' ka ks := by
  rcases h with h | ⟨kb, ko, e, hp, h⟩
  · exact .inl h
  · exact .inr ⟨kb, ko, e, hp, ElsIn.agree hQ hb hs ks kb ko hp h⟩
theorem ElIn.parts2 {Q : World → Value → List AttrB → Prop} {P : Nat → Prop} (hs : ∀ {w v l}, Q w v l → ∃ a c, v = .slice a l.length c) {W : World} {e : ElB} {b o : Nat} (h : ElIn Q P W e b o) : ∃ kd sp nm xa n xc tx ka kc, W.cell? ⟨b, o, none⟩ = some (.int .i64 kd) ∧ W.cell? ⟨b, o + 1, none⟩ = some (.int .i64 sp) ∧ W.cell? ⟨b, o + 2, none⟩ = some (.string nm) ∧ W.cell? ⟨b, o + 3, none⟩ = some (.slice xa n xc) ∧ W.cell? ⟨b, o + 4, none⟩ = some (.string tx) ∧ W.cell? ⟨b, o + 5, none⟩ = some (.slice ka (kidsE e).length kc) ∧ KidsIn Q P W ka (kidsE e) := by
  obtain ⟨kd, sp, nm, ats, tx, ks⟩ := e
  unfold ElIn at h
  obtain ⟨c0, c1, c2, ⟨av, c3, hq⟩, c4, ka, kc, c5, hk⟩ := h
  obtain ⟨xa, xc, rfl⟩ := hs hq
  exact ⟨kd, sp, nm, xa, _, xc, tx, ka, kc, c0, c1, c2, c3, c4, c5, hk⟩
theorem ElsIn.lt {Q : World → Value → List AttrB → Prop} {P : Nat → Prop} {w : World} {es : List ElB} {b o : Nat} (hz : ¬ es.length = 0) (h : ElsIn Q P w es b o) : b < w.heap.size := by
  cases es with
  | nil => exact absurd rfl hz
  | cons e es =>
    obtain ⟨kd, sp, nm, ats, tx, ks⟩ := e
    unfold ElsIn at h
    have h1 := h.1
    unfold ElIn at h1
    exact block_lt_of_cell h1.1

/-- Attributes as a slice, wherever they lie. -/
def QSh (_ : World) (v : Value) (l : List AttrB) : Prop := ∃ a c, v = .slice a l.length c
theorem QSh.liesP (P : Nat → Prop) : LiesP QSh P := ⟨fun h _ _ => h⟩
mutual
/-- Kids lie where something lies. -/
theorem ElIn.lts {Q : World → Value → List AttrB → Prop} {P : Nat → Prop} {w : World} : ∀ (e : ElB) (b o : Nat), ElIn Q P w e b o → ElIn Q (fun b => P b ∧ b < w.heap.size) w e b o
  | .mk kd sp nm ats tx ks, b, o, h => by
    unfold ElIn at h ⊢
    obtain ⟨c0, c1, c2, c3, c4, ka, kc, c5, hk⟩ := h
    refine ⟨c0, c1, c2, c3, c4, ka, kc, c5, ?_⟩
    rcases hk with h0 | ⟨kb, ko, e, hp, hk⟩
    · exact .inl h0
    · by_cases hz : ks.length = 0
      · exact .inl hz
      · exact .inr ⟨kb, ko, e, ⟨hp, ElsIn.lt hz hk⟩, ElsIn.lts ks kb ko hk⟩
theorem ElsIn.lts {Q : World → Value → List AttrB → Prop} {P : Nat → Prop} {w : World} : ∀ (es : List ElB) (b o : Nat), ElsIn Q P w es b o → ElsIn Q (fun b => P b ∧ b < w.heap.size) w es b o
  | [], _, _, _ => by unfold ElsIn; trivial
  | e :: es, b, o, h => by
    unfold ElsIn at h ⊢
    exact ⟨ElIn.lts e b o h.1, ElsIn.lts es b (o + 6) h.2⟩
end
theorem ElV.lts {Q : World → Value → List AttrB → Prop} {P : Nat → Prop} {w : World} {v : Value} {e : ElB} (h : ElV Q P w v e) : ElV Q (fun b => P b ∧ b < w.heap.size) w v e := by
  obtain ⟨kd, sp, nm, ats, tx, ks⟩ := e
  obtain ⟨av, ka, kc, e, hq, hk⟩ := h
  refine ⟨av, ka, kc, e, hq, ?_⟩
  rcases hk with h0 | ⟨kb, ko, e, hp, hk⟩
  · exact .inl h0
  · by_cases hz : ks.length = 0
    · exact .inl hz
    · exact .inr ⟨kb, ko, e, ⟨hp, ElsIn.lt hz hk⟩, ElsIn.lts ks kb ko hk⟩

end Go.Proofs.Ytploagieecepfaa.Sg
