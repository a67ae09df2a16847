/- A row of elements that grows beside the reader's block p, which may lie behind it: none of it lies in p. -/
import Derived.Test.YtbmmghkieolpkaaGreatDoorMR2124
import Derived.Test.YtbmmghkieolpkaaGreatDoorMR2116
namespace Go.Proofs.YtbmmghkieolpkaaGreatDoor.Sg
open Go.ChangeShapes Go.WideShapes Go.ChangeAt Go.RowKit

def RowP (p : Nat) (w : World) (lo : Nat) (v : Value) (l : List ElB) : Prop :=
  ∃ g cap C, v = .slice (some ⟨g, 0, none⟩) l.length cap ∧ g ≠ p ∧ w.ownsRow lo 25 6 v l.length C ∧ ∀ i (hi : i < l.length), ElP (fun b => (lo ≤ b ∧ b ≠ g) ∧ b ≠ p) w (sixV C i) (l[i]'hi)
theorem Fr.ownsP {p base g : Nat} {a b : World} (h : Fr p a b) {e : TypeId} {size n c : Nat} {xs : List Value} (hp : g ≠ p) (ho : a.ownsRow base e size (.slice (some ⟨g, 0, none⟩) n c) n xs) : b.ownsRow base e size (.slice (some ⟨g, 0, none⟩) n c) n xs := by
  obtain ⟨h1, h2⟩ := ho
  refine ⟨h1, ?_⟩
  rcases h2 with ⟨h2, _⟩ | ⟨g', cap, cur, e', h3, h4, h5⟩
  · cases h2
  · injection e' with e1 e2 e3
    injection e1 with e1
    injection e1 with e1
    subst e1 e3
    exact .inr ⟨g, c, cur, rfl, h3, (h.block g (Array.getElem?_eq_some_iff.1 h4).1 hp).trans h4, h5⟩
theorem RowP.empty (p : Nat) (w : World) (lo : Nat) (h : lo ≤ w.heap.size) (hp : w.heap.size ≠ p) : RowP p (w.alloc (.cells #[] 25)) lo (.slice (some ⟨w.heap.size, 0, none⟩) 0 0) [] :=
  ⟨w.heap.size, 0, [], rfl, hp, ⟨rfl, .inr ⟨w.heap.size, 0, #[], rfl, h, by show (w.heap.push _)[w.heap.size]? = _; simp, Nat.le_refl _, Nat.zero_le _, rfl, rfl⟩⟩, fun i hi => absurd hi (Nat.not_lt_zero _)⟩
theorem RowP.keep {p : Nat} {w w' : World} {lo : Nat} {v : Value} {l : List ElB} (h : RowP p w lo v l) (hb : Below w.heap.size w w') : RowP p w' lo v l := by
  obtain ⟨g, cap, C, e, hp, ho, hv⟩ := h
  exact ⟨g, cap, C, e, hp, owns_below ho (Nat.le_refl _) hb, fun i hi => (hv i hi).stay (fun b _ h2 => hb.block b h2) hb.size⟩
theorem RowP.fr {p : Nat} {w w' : World} {lo : Nat} {v : Value} {l : List ElB} (h : RowP p w lo v l) (hf : Fr p w w') : RowP p w' lo v l := by
  obtain ⟨g, cap, C, e, hp, ho, hv⟩ := h
  subst e
  exact ⟨g, cap, C, rfl, hp, hf.ownsP hp ho, fun i hi => (hv i hi).fr hf (fun h => h.2 rfl)⟩
theorem RowP.form {p : Nat} {w : World} {lo : Nat} {v : Value} {l : List ElB} (h : RowP p w lo v l) : ∃ g cap, v = .slice (some ⟨g, 0, none⟩) l.length cap ∧ g ≠ p ∧ lo ≤ g ∧ g < w.heap.size := by
  obtain ⟨g, cap, C, e, hp, ho, hv⟩ := h
  subst e
  have := ho.lt g rfl
  exact ⟨g, cap, rfl, hp, this.1, this.2⟩
theorem RowP.kids {p : Nat} {w : World} {lo : Nat} {v : Value} {l : List ElB} (h : RowP p w lo v l) : ∃ g cap, v = .slice (some ⟨g, 0, none⟩) l.length cap ∧ KidsIn (QP (lo ≤ ·)) (lo ≤ ·) w (some ⟨g, 0, none⟩) l := by
  obtain ⟨g, cap, C, e, hp, ho, hv⟩ := h
  exact RowL.kids ⟨g, cap, C, e, ho, fun i hi => (hv i hi).wide (fun b _ h => h.1)⟩
theorem RdAt.grownP {p g n c : Nat} {a b : World} {s : ByteArray} {k : Int} {ok : Bool} (h : RdAt a p s k ok) (hp : g ≠ p) (hg : a.grownBy b (Value.slice (some ⟨g, 0, none⟩) n c).ownBlock) : RdAt b p s k ok :=
  (hg.block p h.lt (fun e => by
    have e' : some p = some g := e
    injection e' with e'
    exact hp e'.symm)).trans h
/-- One more is appended. -/
theorem RowP.more {p : Nat} {w w' : World} {lo N : Nat} {v v' : Value} {l : List ElB} {C : List Value} {g : Nat} {a0 a1 a2 a3 a4 a5 : Value} {e : ElB}
    (hv : v.ownBlock = some g) (hgp : g ≠ p) (hpw : p < w.heap.size) (hC : C.length = l.length * 6) (hl : ∀ i (hi : i < l.length), ElP (fun b => (lo ≤ b ∧ b ≠ g) ∧ b ≠ p) w (sixV C i) (l[i]'hi)) (hN : g < N) (hpN : p < N) (hlo : lo ≤ N) (he : ElP (N ≤ ·) w (.agg #[a0, a1, a2, a3, a4, a5]) e)
    (ho : w'.ownsRow lo 25 6 v' (l.length + 1) (C ++ [a0, a1, a2, a3, a4, a5])) (hg : w.grownBy w' v.ownBlock) (hb : ∀ b, v'.ownBlock = some b → v.ownBlock = some b ∨ w.heap.size ≤ b) : RowP p w' lo v' (l ++ [e]) := by
  rcases ho.2 with ⟨rfl, h0⟩ | ⟨g', cap', cur, rfl, h3, h4, h5⟩
  · omega
  have hlen : (l ++ [e]).length = l.length + 1 := by simp
  have hg' := hb g' rfl
  have kept : ∀ b, (lo ≤ b ∧ b ≠ g) → b < w.heap.size → w'.heap[b]? = w.heap[b]? := fun b h1 h2 => hg.block b h2 (fun e => h1.2 (by rw [hv] at e; injection e))
  have new : ∀ b, b < w.heap.size → b ≠ g → b ≠ g' := fun b h1 h2 => by
    rcases hg' with h | h
    · rw [hv] at h
      injection h with h
      omega
    · omega
  have hg'p : g' ≠ p := by
    rcases hg' with h | h
    · rw [hv] at h
      injection h with h
      omega
    · omega
  refine ⟨g', cap', C ++ [a0, a1, a2, a3, a4, a5], by rw [hlen], hg'p, by rw [hlen]; exact ho, fun i hi => ?_⟩
  have e1 : ∀ j, j < C.length → (C ++ [a0, a1, a2, a3, a4, a5]).getD j undef = C.getD j undef := fun j hj => getD_old hj
  by_cases hil : i < l.length
  · have h1 := (((hl i hil).wide (P' := fun b => ((lo ≤ b ∧ b ≠ g) ∧ b ≠ p) ∧ b ≠ g') (fun b h1 h2 => ⟨h2, new b h1 h2.1.2⟩)).stay (w' := w') (fun b h1 h2 => kept b h1.1.1 h2) hg.size).wide (P' := fun b => (lo ≤ b ∧ b ≠ g') ∧ b ≠ p) (fun b _ h => ⟨⟨h.1.1.1, h.2⟩, h.1.2⟩)
    have eS : sixV (C ++ [a0, a1, a2, a3, a4, a5]) i = sixV C i := by
      unfold sixV
      rw [e1 _ (by omega), e1 _ (by omega), e1 _ (by omega), e1 _ (by omega), e1 _ (by omega), e1 _ (by omega)]
    have eL : (l ++ [e])[i]'hi = l[i]'hil := List.getElem_append_left hil
    rw [eS, eL]
    exact h1
  · have hie : i = l.length := by rw [hlen] at hi; omega
    subst hie
    have h1 := ((he.wide (P' := fun b => ((lo ≤ b ∧ b ≠ g) ∧ b ≠ p) ∧ b ≠ g') (fun b h1 h2 => by
      have h3 : b ≠ g := by omega
      exact ⟨⟨⟨Nat.le_trans hlo h2, h3⟩, by omega⟩, new b h1 h3⟩)).stay (w' := w') (fun b h1 h2 => kept b h1.1.1 h2) hg.size).wide (P' := fun b => (lo ≤ b ∧ b ≠ g') ∧ b ≠ p) (fun b _ h => ⟨⟨h.1.1.1, h.2⟩, h.1.2⟩)
    have e2 : ∀ j, (C ++ [a0, a1, a2, a3, a4, a5]).getD (l.length * 6 + j) undef = [a0, a1, a2, a3, a4, a5].getD j undef := fun j => by rw [← hC]; exact getD_new
    have eS : sixV (C ++ [a0, a1, a2, a3, a4, a5]) l.length = .agg #[a0, a1, a2, a3, a4, a5] := by
      have e20 := e2 0
      rw [Nat.add_zero] at e20
      unfold sixV
      rw [e20, e2 1, e2 2, e2 3, e2 4, e2 5]
      rfl
    have eL : (l ++ [e])[l.length]'hi = e := by simp
    rw [eS, eL]
    exact h1

/-- Elements and notes from place i on, a byte 10 behind each, to the end; none: refused. -/
def nlS : ByteArray := ⟨#[10]⟩
def docL (s : ByteArray) (el : Nat → Option (ElB × Nat)) : Nat → Nat → Option (List ElB)
  | 0, _ => none
  | f + 1, i =>
    if ¬ i < s.size then some []
    else if standsB s i openNoteB = true then
      if xoI s (i : Int) < 0 then none
      else if standsB s (xoI s (i : Int)).toNat nlS = true then (docL s el f ((xoI s (i : Int)).toNat + 1)).map fun r => .mk 3 0 ⟨#[]⟩ [] (xoS s (i : Int)) [] :: r else none
    else match el i with
      | none => none
      | some x => if standsB s x.2 nlS = true then (docL s el f (x.2 + 1)).map fun r => x.1 :: r else none
/-- What is read of a strict text; none: refused. -/
def readR (s : ByteArray) : Option (List ElB) :=
  if 200000 < s.size ∨ standsB s 0 xmlHead = false then none
  else match docL s (fun q => elM s (s.size + 1) 60 q (-1)) (s.size + 1) 22 with
    | none => none
    | some l => if docF 0 0 l = true then some l else none
theorem docL_size (s : ByteArray) (el : Nat → Option (ElB × Nat)) (hE : ElSz s el) : ∀ (f i : Nat) (r : List ElB), docL s el f i = some r → i ≤ s.size → r.length + elsW r ≤ 5 * (s.size - i)
  | 0, _, _, h, _ => by cases h
  | f + 1, i, r, h, hi => by
    have u : nlS.size = 1 := rfl
    rw [docL] at h
    split at h
    · injection h with h
      rw [← h]
      simp [elsW]
    · split at h
      · split at h
        · cases h
        · rename_i hx
          obtain ⟨j, ej, hj, hj2, hj3⟩ := xoI_le hx
          have et : (xoI s (i : Int)).toNat = j := by omega
          rw [et] at h
          split at h
          · rename_i hst
            have h1 := stands_le hst
            obtain ⟨r', hr', rfl⟩ := Option.map_eq_some_iff.1 h
            have h2 := docL_size s el hE f (j + 1) r' hr' (by omega)
            have hw : elW (.mk 3 0 ⟨#[]⟩ [] (xoS s (i : Int)) []) ≤ (xoS s (i : Int)).size := Nat.le_of_eq (elW_bare 3 _)
            simp only [List.length_cons, elsW]
            omega
          · cases h
      · split at h
        · cases h
        · rename_i x hx
          obtain ⟨e, j⟩ := x
          have h1 := hE i e j hi hx
          split at h
          · rename_i hst
            have h3 := stands_le hst
            obtain ⟨r', hr', rfl⟩ := Option.map_eq_some_iff.1 h
            have h2 := docL_size s el hE f (j + 1) r' hr' (by omega)
            simp only [List.length_cons, elsW]
            omega
          · cases h
theorem readR_size {s : ByteArray} {l : List ElB} (h : readR s = some l) : l.length + elsW l ≤ 1000000 ∧ docF 0 0 l = true := by
  unfold readR at h
  split at h
  · cases h
  · rename_i h0
    split at h
    · cases h
    · rename_i l' hl
      split at h
      · rename_i hd
        injection h with h
        subst h
        by_cases h22 : 22 ≤ s.size
        · have h1 := docL_size s _ (el_size s (s.size + 1) 60 (-1)) _ _ _ hl h22
          have h2 : ¬ 200000 < s.size := fun h => h0 (.inl h)
          exact ⟨by omega, hd⟩
        · exfalso
          apply h0
          right
          cases hst : standsB s 0 xmlHead
          · rfl
          · have h3 := stands_le hst
            have u : xmlHead.size = 22 := rfl
            omega
      · cases h

end Go.Proofs.YtbmmghkieolpkaaGreatDoor.Sg
