/- A row of elements that grows: each with all that is in it in other blocks. -/
import Derived.Test.YthipdkagkdnaiaaGreatDoorRdMem
import Derived.Test.YthipdkagkdnaiaaGreatDoorGAppAt
import Derived.Test.YthipdkagkdnaiaaGreatDoorElToS
namespace Go.Proofs.YthipdkagkdnaiaaGreatDoor.Sg
open Go.ChangeShapes Go.WideShapes Go.ChangeAt Go.RowKit

def RowL (w : World) (lo : Nat) (v : Value) (l : List ElB) : Prop :=
  ∃ g cap C, v = .slice (some ⟨g, 0, none⟩) l.length cap ∧ w.ownsRow lo 25 6 v l.length C ∧ ∀ i (hi : i < l.length), ElP (fun b => lo ≤ b ∧ b ≠ g) w (sixV C i) (l[i]'hi)
theorem RowL.empty (w : World) (lo : Nat) (h : lo ≤ w.heap.size) : RowL (w.alloc (.cells #[] 25)) lo (.slice (some ⟨w.heap.size, 0, none⟩) 0 0) [] :=
  ⟨w.heap.size, 0, [], rfl, ⟨rfl, .inr ⟨w.heap.size, 0, #[], rfl, h, by show (w.heap.push _)[w.heap.size]? = _; simp, Nat.le_refl _, Nat.zero_le _, rfl, rfl⟩⟩, fun i hi => absurd hi (Nat.not_lt_zero _)⟩
theorem RowL.keep {w w' : World} {lo : Nat} {v : Value} {l : List ElB} (h : RowL w lo v l) (hb : Below w.heap.size w w') : RowL w' lo v l := by
  obtain ⟨g, cap, C, e, ho, hv⟩ := h
  exact ⟨g, cap, C, e, owns_below ho (Nat.le_refl _) hb, fun i hi => (hv i hi).stay (fun b _ h2 => hb.block b h2) hb.size⟩
theorem RowL.fr {p : Nat} {w w' : World} {lo : Nat} {v : Value} {l : List ElB} (h : RowL w lo v l) (hf : Fr p w w') (hp : p < lo) : RowL w' lo v l := by
  obtain ⟨g, cap, C, e, ho, hv⟩ := h
  exact ⟨g, cap, C, e, hf.owns hp ho, fun i hi => (hv i hi).fr hf (by intro h; omega)⟩
theorem RowL.form {w : World} {lo : Nat} {v : Value} {l : List ElB} (h : RowL w lo v l) : ∃ g cap, v = .slice (some ⟨g, 0, none⟩) l.length cap ∧ lo ≤ g ∧ g < w.heap.size := by
  obtain ⟨g, cap, C, e, ho, hv⟩ := h
  subst e
  have := ho.lt g rfl
  exact ⟨g, cap, rfl, this.1, this.2⟩
/-- The kids of an element. -/
theorem RowL.kids {w : World} {lo : Nat} {v : Value} {l : List ElB} (h : RowL w lo v l) : ∃ g cap, v = .slice (some ⟨g, 0, none⟩) l.length cap ∧ KidsIn (QP (lo ≤ ·)) (lo ≤ ·) w (some ⟨g, 0, none⟩) l := by
  obtain ⟨g, cap, C, e, ho, hv⟩ := h
  subst e
  have hg := (ho.lt g rfl).1
  refine ⟨g, cap, rfl, .inr ⟨g, 0, rfl, hg, ElsIn.of fun i hi => ?_⟩⟩
  have hw := (hv i hi).wide (P' := (lo ≤ ·)) (fun b _ h => h.1)
  have hC : C.length = l.length * 6 := ho.1
  have cell : ∀ j, j < 6 → w.cell? ⟨g, i * 6 + j, none⟩ = some (C.getD (i * 6 + j) undef) := fun j hj => by
    have hlt : i * 6 + j < l.length * 6 := by omega
    rw [(own_cell ho hlt).1]
    simp [List.getD, show i * 6 + j < C.length by omega]
  rw [Nat.zero_add]
  exact ElV.cells hw (cell 0 (by omega)) (cell 1 (by omega)) (cell 2 (by omega)) (cell 3 (by omega)) (cell 4 (by omega)) (cell 5 (by omega))
/-- One more is appended. -/
theorem RowL.more {w w' : World} {lo N : Nat} {v v' : Value} {l : List ElB} {C : List Value} {g : Nat} {a0 a1 a2 a3 a4 a5 : Value} {e : ElB}
    (hv : v.ownBlock = some g) (hC : C.length = l.length * 6) (hl : ∀ i (hi : i < l.length), ElP (fun b => lo ≤ b ∧ b ≠ g) w (sixV C i) (l[i]'hi)) (hN : g < N) (hlo : lo ≤ N) (he : ElP (N ≤ ·) w (.agg #[a0, a1, a2, a3, a4, a5]) e)
    (ho : w'.ownsRow lo 25 6 v' (l.length + 1) (C ++ [a0, a1, a2, a3, a4, a5])) (hg : w.grownBy w' v.ownBlock) (hb : ∀ b, v'.ownBlock = some b → v.ownBlock = some b ∨ w.heap.size ≤ b) : RowL w' lo v' (l ++ [e]) := by
  rcases ho.2 with ⟨rfl, h0⟩ | ⟨g', cap', cur, rfl, h3, h4, h5⟩
  · omega
  have hlen : (l ++ [e]).length = l.length + 1 := by simp
  have hg' := hb g' rfl
  have kept : ∀ b, (lo ≤ b ∧ b ≠ g) → b < w.heap.size → w'.heap[b]? = w.heap[b]? := fun b h1 h2 => hg.block b h2 (fun e => h1.2 (by rw [hv] at e; injection e))
  have new : ∀ b, b < w.heap.size → b ≠ g → b ≠ g' := fun b h1 h2 => by
    rcases hg' with h | h
    · rw [hv] at h
      injection h with h
      omega
    · omega
  refine ⟨g', cap', C ++ [a0, a1, a2, a3, a4, a5], by rw [hlen], by rw [hlen]; exact ho, fun i hi => ?_⟩
  have e1 : ∀ j, j < C.length → (C ++ [a0, a1, a2, a3, a4, a5]).getD j undef = C.getD j undef := fun j hj => getD_old hj
  by_cases hil : i < l.length
  · have h1 := (((hl i hil).wide (P' := fun b => (lo ≤ b ∧ b ≠ g) ∧ b ≠ g') (fun b h1 h2 => ⟨h2, new b h1 h2.2⟩)).stay (w' := w') (fun b h1 h2 => kept b h1.1 h2) hg.size).wide (P' := fun b => lo ≤ b ∧ b ≠ g') (fun b _ h => ⟨h.1.1, h.2⟩)
    have eS : sixV (C ++ [a0, a1, a2, a3, a4, a5]) i = sixV C i := by
      unfold sixV
      rw [e1 _ (by omega), e1 _ (by omega), e1 _ (by omega), e1 _ (by omega), e1 _ (by omega), e1 _ (by omega)]
    have eL : (l ++ [e])[i]'hi = l[i]'hil := List.getElem_append_left hil
    rw [eS, eL]
    exact h1
  · have hie : i = l.length := by rw [hlen] at hi; omega
    subst hie
    have h1 := ((he.wide (P' := fun b => (lo ≤ b ∧ b ≠ g) ∧ b ≠ g') (fun b h1 h2 => by
      have h3 : b ≠ g := by omega
      exact ⟨⟨Nat.le_trans hlo h2, h3⟩, new b h1 h3⟩)).stay (w' := w') (fun b h1 h2 => kept b h1.1 h2) hg.size).wide (P' := fun b => lo ≤ b ∧ b ≠ g') (fun b _ h => ⟨h.1.1, h.2⟩)
    have e2 : ∀ j, (C ++ [a0, a1, a2, a3, a4, a5]).getD (l.length * 6 + j) undef = [a0, a1, a2, a3, a4, a5].getD j undef := fun j => by rw [← hC]; exact getD_new
    have eS : sixV (C ++ [a0, a1, a2, a3, a4, a5]) l.length = .agg #[a0, a1, a2, a3, a4, a5] := by
      have e20 := e2 0
      rw [Nat.add_zero] at e20
      unfold sixV
      rw [e20, e2 1, e2 2, e2 3, e2 4, e2 5]
      rfl
    have eL : (l ++ [e])[l.length]'hi = e := by simp
    rw [eS, eL]
    exact h1

end Go.Proofs.YthipdkagkdnaiaaGreatDoor.Sg
