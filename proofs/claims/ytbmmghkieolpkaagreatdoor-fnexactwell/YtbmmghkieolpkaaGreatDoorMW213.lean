/- The deferred functions of the program's ReadEl and Read: what a panic within leaves in the results. A row that was appended to by a nought, which is filled then; what Read holds in memory. Contracts of the program's isNoStrictAttr, and of slices.ContainsFunc with it over attributes. Contract of the program's elementOf: an element as what its kind says. Written by mk_emof.py. Contracts of the program's methods 'strict', and of their calls through the interface. Plain: rows of elements, one taken from behind, the kids of its elements put behind. Plain: elements are strict just where each row in them is so, none of them too deep. A range over a function that keeps lists of its own in memory: what it writes lies where nothing lay when its call began. The program's rowsOf: the function that it hands back tells a list, and the kids of each element within it; what is still to come waits in a list. Elements all of whose lists lie ahead of a block. (Out of SmEl.) -/
import Derived.Test.YtbmmghkieolpkaaGreatDoorRqTag
import Derived.Defers
import Derived.Recover
import Derived.Laws.Pointers
import Derived.Test.YtbmmghkieolpkaaGreatDoorMW211
import Derived.Test.YtbmmghkieolpkaaGreatDoorMW212
import Derived.Test.YtbmmghkieolpkaaGreatDoorMW214
import Derived.RangeFuncNested
import Derived.RangeFuncBound
import Derived.RangeFuncCalls
import Derived.RangeFuncLeaves
import Derived.Shelf.Abstract
import Derived.Shelf.RegionOpen
import Derived.WalkKit
import Derived.OwnWalkIn
import Derived.Maps.OwnIn
import Derived.TacticsInMore
import Derived.LoopNIn
import Derived.LoopIn
import Derived.Test.YtbmmghkieolpkaaGreatDoorMW202
namespace Go.Proofs.YtbmmghkieolpkaaGreatDoor.Sg
open Go.ChangeShapes Go.WideShapes Go.ChangeAt Go.RowKit

set_option maxHeartbeats 4000000 in
theorem rdFace_panics (b c : Nat) (v u : Value) (a : Addr) (older : List PanicEntry) (w : World) (h0 : w.cell? ⟨b, 0, none⟩ = some v) (g0 : w.frozen? ⟨b, 0, none⟩ = false) (h1 : w.cell? ⟨c, 0, none⟩ = some u) (g1 : w.frozen? ⟨c, 0, none⟩ = false) (hbc : b ≠ c) :
    CallsD Tryz.prog 32 #[.pointer (some ⟨b, 0, none⟩), .pointer (some ⟨c, 0, none⟩)] (.panicking ({ v := errV a, recovered := false } :: older)) w fun e u' w' =>
      e = .returned (.tuple #[]) ∧ u' = .panicking ({ v := errV a, recovered := true } :: older) ∧ w' = (w.setCell ⟨b, 0, none⟩ (.slice none 0 0)).setCell ⟨c, 0, none⟩ (.bool false) := by
  have e0 : (w.setCell ⟨b, 0, none⟩ (.slice none 0 0)).cell? ⟨c, 0, none⟩ = some u := (World.cell?_setCell_other _ _ _ _ (fun e => hbc (congrArg Addr.block e))).trans h1
  clear h1
  refine callsD_of_wpS Tryz.func32 rfl fun c₀ cs hu => ?_
  apply wpS_seq
  apply wpS_region
  simp [wpOpsS, go_sem, recoverD, hu, Tryz.ntmps32, Exit.thenS]
  refine wpS_of_wp ?_
  generalize hcs : (_ :: cs) = fs
  simp only [Array.replicate_succ, Array.replicate_zero, List.push_toArray, List.append_toArray, List.nil_append, List.cons_append, List.setIfInBounds_toArray, List.set_cons_zero, List.set_cons_succ]
  go_wp2
  subst hcs
  simp [bodyPostS, results, Tryz.results32]
theorem rdFace_returns (b c : Nat) (w : World) : CallsD Tryz.prog 32 #[.pointer (some ⟨b, 0, none⟩), .pointer (some ⟨c, 0, none⟩)] .returning w fun e u' w' => e = .returned (.tuple #[]) ∧ u' = .returning ∧ w' = w := by
  refine callsD_of_wpS Tryz.func32 rfl fun c₀ cs hu => ?_
  apply wpS_seq
  apply wpS_region
  simp [wpOpsS, go_sem, recoverD, hu, Tryz.ntmps32, Exit.thenS]
  refine wpS_of_wp ?_
  simp only [Array.replicate_succ, Array.replicate_zero, List.push_toArray, List.append_toArray, List.nil_append, List.cons_append, List.setIfInBounds_toArray, List.set_cons_zero, List.set_cons_succ]
  go_wp2
  cases c₀
  simp_all [bodyPostS, results, Tryz.results32]

end Go.Proofs.YtbmmghkieolpkaaGreatDoor.Sg

namespace Go.Proofs.YtbmmghkieolpkaaGreatDoor.Sg
open Go.ChangeShapes Go.WideShapes Go.ChangeAt Go.RowKit

theorem set_behind {α : Type} (C l : List α) (k j : Nat) (u : α) (hk : C.length = k) : (C ++ l).set (k + j) u = C ++ l.set j u := by
  rw [List.set_append_right _ _ (by omega)]
  congr 2
  omega
/-- The six cells of an element, written. -/
def set6 (W : World) (g o : Nat) (a0 a1 a2 a3 a4 a5 : Value) : World := (((((W.setCell ⟨g, o, none⟩ a0).setCell ⟨g, o + 1, none⟩ a1).setCell ⟨g, o + 2, none⟩ a2).setCell ⟨g, o + 3, none⟩ a3).setCell ⟨g, o + 4, none⟩ a4).setCell ⟨g, o + 5, none⟩ a5
theorem set6_block (W : World) (g o : Nat) (a0 a1 a2 a3 a4 a5 : Value) (b : Nat) (h : b ≠ g) : (set6 W g o a0 a1 a2 a3 a4 a5).heap[b]? = W.heap[b]? := by
  have o1 : ∀ (X : World) (j : Nat) (u : Value), (X.setCell ⟨g, j, none⟩ u).heap[b]? = X.heap[b]? := fun X j u => Below.heap_setCell _ _ _ _ (by show b ≠ g; exact h)
  unfold set6
  rw [o1, o1, o1, o1, o1, o1]
theorem set6_size (W : World) (g o : Nat) (a0 a1 a2 a3 a4 a5 : Value) : (set6 W g o a0 a1 a2 a3 a4 a5).heap.size = W.heap.size := by simp [set6]
theorem set6_below {B : Nat} {w W : World} (g o : Nat) (a0 a1 a2 a3 a4 a5 : Value) (h : Below B w W) (hg : B ≤ g) : Below B w (set6 W g o a0 a1 a2 a3 a4 a5) :=
  (((((h.setCell hg _).setCell hg _).setCell hg _).setCell hg _).setCell hg _).setCell hg _
theorem RowO.fill {W : World} {lo n g cap : Nat} {l : List ElB} {z x : ElB} {C : List Value} {Fs : Nat → Foot} {F : Foot} {z0 z1 z2 z3 z4 z5 a0 a1 a2 a3 a4 a5 : Value}
    (h : RowO W lo n (.slice (some ⟨g, 0, none⟩) (l.length + 1) cap) (l ++ [z]) (C ++ [z0, z1, z2, z3, z4, z5]) Fs) (hC : C.length = l.length * 6) (hx : ElOwn (OwnS W lo n) W lo x (.agg #[a0, a1, a2, a3, a4, a5]) F) (hF : ∀ b, F b → Since lo W b ∧ b ≠ g) (hFs : ∀ i, i < l.length → ∀ b, Fs i b → ¬ F b) :
    RowO (set6 W g (l.length * 6) a0 a1 a2 a3 a4 a5) lo n (.slice (some ⟨g, 0, none⟩) (l.length + 1) cap) (l ++ [x]) (C ++ [a0, a1, a2, a3, a4, a5]) (fun i => if i = l.length then F else Fs i) := by
  obtain ⟨h1, h2, h3, h4⟩ := h
  have hl1 : (l ++ [z]).length = l.length + 1 := by simp
  have hl2 : (l ++ [x]).length = l.length + 1 := by simp
  rw [hl1] at h1 h2 h3
  have kept : ∀ b, b ≠ g → (set6 W g (l.length * 6) a0 a1 a2 a3 a4 a5).heap[b]? = W.heap[b]? := fun b h => set6_block W g _ a0 a1 a2 a3 a4 a5 b h
  have hsz := set6_size W g (l.length * 6) a0 a1 a2 a3 a4 a5
  have e1 : ∀ (D : List Value) (j : Nat), j < C.length → (C ++ D).getD j undef = C.getD j undef := fun D j hj => getD_old hj
  have old : ∀ (D : List Value) (i : Nat), i < l.length → sixV (C ++ D) i = sixV C i := fun D i hi => by
    unfold sixV
    rw [e1 D _ (by omega), e1 D _ (by omega), e1 D _ (by omega), e1 D _ (by omega), e1 D _ (by omega), e1 D _ (by omega)]
  refine ⟨?_, ?_, ?_, ?_⟩
  · rw [hl2]
    have q := owns_set (owns_set (owns_set (owns_set (owns_set (owns_set h1 (l.length * 6) a0) (l.length * 6 + 1) a1) (l.length * 6 + 2) a2) (l.length * 6 + 3) a3) (l.length * 6 + 4) a4) (l.length * 6 + 5) a5
    have s0 := set_behind C [z0, z1, z2, z3, z4, z5] (l.length * 6) 0 a0 hC
    rw [Nat.add_zero] at s0
    rw [s0, set_behind C _ _ 1 a1 hC, set_behind C _ _ 2 a2 hC, set_behind C _ _ 3 a3 hC, set_behind C _ _ 4 a4 hC, set_behind C _ _ 5 a5 hC] at q
    exact q
  · intro i hi b hb
    rw [hl2] at hi
    by_cases hie : i = l.length
    · rw [if_pos hie] at hb
      have := hF b hb
      exact ⟨⟨this.1.1, by rw [hsz]; exact this.1.2⟩, fun e => this.2 (Option.some.inj e).symm⟩
    · rw [if_neg hie] at hb
      have := h2 i (by omega) b hb
      exact ⟨⟨this.1.1, by rw [hsz]; exact this.1.2⟩, this.2⟩
  · intro i j hi hj hij b hb hc
    rw [hl2] at hi hj
    by_cases hie : i = l.length
    · rw [if_pos hie] at hb
      rw [if_neg (by omega)] at hc
      exact hFs j (by omega) b hc hb
    · rw [if_neg hie] at hb
      by_cases hje : j = l.length
      · rw [if_pos hje] at hc
        exact hFs i (by omega) b hb hc
      · rw [if_neg hje] at hc
        exact h3 i j hi hj hij b hb hc
  · intro i hi
    by_cases hil : i < l.length
    · have eL : (l ++ [x])[i]'hi = l[i]'hil := List.getElem_append_left hil
      have h5 := h4 i (by rw [hl1]; omega)
      have eL' : (l ++ [z])[i]'(by rw [hl1]; omega) = l[i]'hil := List.getElem_append_left hil
      rw [old _ i hil, eL'] at h5
      rw [old _ i hil, eL]
      show ElOwn _ _ _ _ _ (if i = l.length then _ else _)
      rw [if_neg (by omega)]
      have hg : ∀ b, Fs i b → b ≠ g := fun b hb e => (h2 i (by omega) b hb).2 (by rw [e]; rfl)
      exact h5.stay (fun _ _ _ hS hO => OwnS.stay n hO (fun b hb1 _ => kept b (hg b (hS b hb1)))) (fun b hb _ => kept b (hg b hb))
    · have hie : i = l.length := by rw [hl2] at hi; omega
      subst hie
      have e2 : ∀ j, (C ++ [a0, a1, a2, a3, a4, a5]).getD (l.length * 6 + j) undef = [a0, a1, a2, a3, a4, a5].getD j undef := fun j => by rw [← hC]; exact getD_new
      have eS : sixV (C ++ [a0, a1, a2, a3, a4, a5]) l.length = .agg #[a0, a1, a2, a3, a4, a5] := by
        have e20 := e2 0
        rw [Nat.add_zero] at e20
        unfold sixV
        rw [e20, e2 1, e2 2, e2 3, e2 4, e2 5]
        rfl
      have eL : (l ++ [x])[l.length]'hi = x := by simp
      rw [eS, eL]
      show ElOwn _ _ _ _ _ (if l.length = l.length then _ else _)
      rw [if_pos rfl]
      exact hx.stay (fun _ _ _ hS hO => OwnS.stay n hO (fun b hb1 _ => kept b (hF b (hS b hb1)).2)) (fun b hb _ => kept b (hF b hb).2)

/-- What Read holds: its results' cells (u: in the first), its reader, and the row that it has read. -/
structure ReadW (s : ByteArray) (n : Nat) (w W : World) (j : Nat) (u : Value) (l : List ElB) (v : Value) (C : List Value) (Fs : Nat → Foot) : Prop where
  b : Below w.heap.size w W
  q : RqAt W (w.heap.size + 2) s (j : Int)
  c : W.cell? ⟨w.heap.size, 0, none⟩ = some u
  z : W.frozen? ⟨w.heap.size, 0, none⟩ = false
  c1 : W.cell? ⟨w.heap.size + 1, 0, none⟩ = some (.bool false)
  z1 : W.frozen? ⟨w.heap.size + 1, 0, none⟩ = false
  row : RowO W (w.heap.size + 3) n v l C Fs
theorem ReadW.fr {s : ByteArray} {n : Nat} {w W W' : World} {j j' : Nat} {u : Value} {l : List ElB} {v : Value} {C : List Value} {Fs : Nat → Foot} (h : ReadW s n w W j u l v C Fs) (hf : Fr (w.heap.size + 2) W W') (hq : RqAt W' (w.heap.size + 2) s (j' : Int)) : ReadW s n w W' j' u l v C Fs := by
  have e0 := hf.block w.heap.size (block_lt_of_cell h.c) (by omega)
  have e1 := hf.block (w.heap.size + 1) (block_lt_of_cell h.c1) (by omega)
  exact ⟨h.b.trans (hf.below (by omega) h.b.size), hq, (cell_agree e0).trans h.c, by rw [← h.z]; simp [World.frozen?, e0], (cell_agree e1).trans h.c1, by rw [← h.z1]; simp [World.frozen?, e1], h.row.fr hf (by omega)⟩
theorem ReadW.below {s : ByteArray} {n : Nat} {w W W' : World} {j : Nat} {u : Value} {l : List ElB} {v : Value} {C : List Value} {Fs : Nat → Foot} (h : ReadW s n w W j u l v C Fs) (hb : Below W.heap.size W W') : ReadW s n w W' j u l v C Fs :=
  h.fr (Fr.of_below hb) (h.q.keep hb)
theorem ReadW.size {s : ByteArray} {n : Nat} {w W : World} {j : Nat} {u : Value} {l : List ElB} {v : Value} {C : List Value} {Fs : Nat → Foot} (h : ReadW s n w W j u l v C Fs) : w.heap.size + 3 ≤ W.heap.size := h.q.lt
theorem ReadW.rq {s : ByteArray} {n : Nat} {w W : World} {j : Nat} {u : Value} {l : List ElB} {v : Value} {C : List Value} {Fs : Nat → Foot} {a : Addr} (h : ReadW s n w W j u l v C Fs) (hX : PcX a w) : Rq a (w.heap.size + 2) s (j : Int) W := ⟨h.q, w, hX, by omega, h.b⟩
abbrev zeroEl : ElB := .mk 0 0 ⟨#[]⟩ [] ⟨#[]⟩ []
/-- A nought is appended. -/
theorem ReadW.grow {s : ByteArray} {n : Nat} {w W W' : World} {j : Nat} {u : Value} {l : List ElB} {v : Value} {C : List Value} {Fs : Nat → Foot} {v' : Value} (h : ReadW s n w W j u l v C Fs) (ho : W'.ownsRow (w.heap.size + 3) 25 6 v' (l.length + 1) (C ++ zero6L)) (hg : W.grownBy W' v.ownBlock) (hat : ∀ b, v'.ownBlock = some b → v.ownBlock = some b ∨ W.heap.size ≤ b) :
    ReadW s n w W' j u (l ++ [zeroEl]) v' (C ++ zero6L) (fun i => if i = l.length then Since W.heap.size W else Fs i) := by
  have hv : ∀ b, b < w.heap.size + 3 → v.ownBlock ≠ some b := fun b hb e => by
    have := (own_since h.row.1 e).1
    omega
  have hs := h.size
  have e0 := hg.block w.heap.size (by omega) (Ne.symm (hv _ (by omega)))
  have e1 := hg.block (w.heap.size + 1) (by omega) (Ne.symm (hv _ (by omega)))
  have e2 := hg.block (w.heap.size + 2) (by omega) (Ne.symm (hv _ (by omega)))
  refine ⟨h.b.grown hg h.b.size (fun b hb => by have := (own_since h.row.1 hb).1; omega), e2.trans h.q, (cell_agree e0).trans h.c, by rw [← h.z]; simp [World.frozen?, e0], (cell_agree e1).trans h.c1, by rw [← h.z1]; simp [World.frozen?, e1], ?_⟩
  exact h.row.more h.row.blocks.1 h.row.blocks.2 hs (ElNew.bare W W.heap.size n 0 ⟨#[]⟩) ho hg hat
/-- The new value is held. -/
theorem ReadW.put {s : ByteArray} {n : Nat} {w W : World} {j : Nat} {u : Value} {l : List ElB} {v : Value} {C : List Value} {Fs : Nat → Foot} (h : ReadW s n w W j u l v C Fs) (x : Value) : ReadW s n w (W.setCell ⟨w.heap.size, 0, none⟩ x) j x l v C Fs :=
  ⟨h.b.setCell (Nat.le_refl _) _, (Below.heap_setCell _ _ _ _ (by show w.heap.size + 2 ≠ w.heap.size; omega)).trans h.q, World.cell?_setCell_same _ _ _ h.c, by simpa using h.z, (World.cell?_setCell_other _ _ _ _ (fun e => absurd (congrArg Addr.block e) (by show w.heap.size ≠ w.heap.size + 1; omega))).trans h.c1, by simpa using h.z1, h.row.set (by omega)⟩
/-- An element that was made in blocks from N on, ahead of M. -/
def MadeX (W : World) (lo n : Nat) (x : ElB) (v : Value) (N M : Nat) : Prop := ElOwn (OwnS W lo n) W lo x v (fun b => N ≤ b ∧ b < M) ∧ M ≤ W.heap.size ∧ lo ≤ N
theorem MadeX.of {W : World} {N n lo : Nat} {x : ElB} {v : Value} (h : ElNew W N n x v) (hN : lo ≤ N) : MadeX W lo n x v N W.heap.size :=
  ⟨ElOwn.low h hN (fun _ _ _ hS => OwnS.low hN n hS), Nat.le_refl _, hN⟩
theorem MadeX.keep {W W' : World} {lo n N M : Nat} {x : ElB} {v : Value} (h : MadeX W lo n x v N M) (hs : W.heap.size ≤ W'.heap.size) (hb : ∀ b, N ≤ b → b < M → W'.heap[b]? = W.heap[b]?) : MadeX W' lo n x v N M :=
  ⟨h.1.stay (fun _ _ _ hF hS => OwnS.stay n hS (fun b hb1 _ => hb b (hF b hb1).1 (hF b hb1).2)) (fun b hF _ => hb b hF.1 hF.2), Nat.le_trans h.2.1 hs, h.2.2⟩
theorem MadeX.grown {W W' : World} {lo n N M : Nat} {x : ElB} {v r : Value} (h : MadeX W lo n x v N M) (hg : W.grownBy W' r.ownBlock) (hr : ∀ b, r.ownBlock = some b → b < N) : MadeX W' lo n x v N M :=
  h.keep hg.size (fun b h1 h2 => hg.block b (by have := h.2.1; omega) (fun e => by have := hr b e.symm; omega))
/-- The nought is filled by what was made. -/
theorem ReadW.fill {s : ByteArray} {n g cap N M : Nat} {w W : World} {j : Nat} {u : Value} {l : List ElB} {x : ElB} {C : List Value} {Fs : Nat → Foot} {a0 a1 a2 a3 a4 a5 : Value}
    (h : ReadW s n w W j u (l ++ [zeroEl]) (.slice (some ⟨g, 0, none⟩) (l.length + 1) cap) (C ++ zero6L) Fs) (hC : C.length = l.length * 6) (hx : MadeX W (w.heap.size + 3) n x (.agg #[a0, a1, a2, a3, a4, a5]) N M) (hg : ¬ (N ≤ g ∧ g < M)) (hFs : ∀ i, i < l.length → ∀ b, Fs i b → ¬ (N ≤ b ∧ b < M)) :
    ReadW s n w (set6 W g (l.length * 6) a0 a1 a2 a3 a4 a5) j u (l ++ [x]) (.slice (some ⟨g, 0, none⟩) (l.length + 1) cap) (C ++ [a0, a1, a2, a3, a4, a5]) (fun i => if i = l.length then (fun b => N ≤ b ∧ b < M) else Fs i) := by
  have hrow := h.row.fill hC hx.1 (fun b hb => ⟨⟨Nat.le_trans hx.2.2 hb.1, Nat.lt_of_lt_of_le hb.2 hx.2.1⟩, fun e => hg (e ▸ hb)⟩) hFs
  have hgl : w.heap.size + 3 ≤ g := (own_since h.row.1 rfl).1
  have k : ∀ b, b < w.heap.size + 3 → (set6 W g (l.length * 6) a0 a1 a2 a3 a4 a5).heap[b]? = W.heap[b]? := fun b hb => set6_block W g _ a0 a1 a2 a3 a4 a5 b (by omega)
  have e0 := k w.heap.size (by omega)
  have e1 := k (w.heap.size + 1) (by omega)
  exact ⟨set6_below g _ a0 a1 a2 a3 a4 a5 h.b (by omega), (k (w.heap.size + 2) (by omega)).trans h.q, (cell_agree e0).trans h.c, by rw [← h.z]; simp [World.frozen?, e0], (cell_agree e1).trans h.c1, by rw [← h.z1]; simp [World.frozen?, e1], hrow⟩
/-- .. and the new row is held, before or behind. -/
theorem ReadW.fin1 {s : ByteArray} {n g cap N M : Nat} {w W : World} {j : Nat} {u : Value} {l : List ElB} {x : ElB} {C : List Value} {Fs : Nat → Foot} {F0 : Foot} {a0 a1 a2 a3 a4 a5 : Value} (h : ReadW s n w W j u (l ++ [zeroEl]) (.slice (some ⟨g, 0, none⟩) (l.length + 1) cap) (C ++ zero6L) (fun i => if i = l.length then F0 else Fs i)) (hC : C.length = l.length * 6) (hx : MadeX W (w.heap.size + 3) n x (.agg #[a0, a1, a2, a3, a4, a5]) N M) (hg : g < N ∨ M ≤ g) (hFs : ∀ i, i < l.length → ∀ b, Fs i b → b < N) :
    ∃ (v' : Value) (C' : List Value) (Fs' : Nat → Foot), ReadW s n w (((((((W.setCell ⟨g, l.length * 6, none⟩ a0).setCell ⟨g, l.length * 6 + 1, none⟩ a1).setCell ⟨g, l.length * 6 + 2, none⟩ a2).setCell ⟨g, l.length * 6 + 3, none⟩ a3).setCell ⟨g, l.length * 6 + 4, none⟩ a4).setCell ⟨g, l.length * 6 + 5, none⟩ a5).setCell ⟨w.heap.size, 0, none⟩ (.slice (some ⟨g, 0, none⟩) (l.length + 1) cap)) j v' (l ++ [x]) v' C' Fs' := by
  have h1 := h.fill hC hx (by omega) (fun i hi b hb => by
    rw [if_neg (by omega)] at hb
    have := hFs i hi b hb
    omega)
  exact ⟨_, _, _, h1.put (.slice (some ⟨g, 0, none⟩) (l.length + 1) cap)⟩
theorem ReadW.fin2 {s : ByteArray} {n g cap N M : Nat} {w W : World} {j : Nat} {u : Value} {l : List ElB} {x : ElB} {C : List Value} {Fs : Nat → Foot} {F0 : Foot} {a0 a1 a2 a3 a4 a5 : Value} (h : ReadW s n w W j u (l ++ [zeroEl]) (.slice (some ⟨g, 0, none⟩) (l.length + 1) cap) (C ++ zero6L) (fun i => if i = l.length then F0 else Fs i)) (hC : C.length = l.length * 6) (hx : MadeX W (w.heap.size + 3) n x (.agg #[a0, a1, a2, a3, a4, a5]) N M) (hg : g < N ∨ M ≤ g) (hFs : ∀ i, i < l.length → ∀ b, Fs i b → b < N) :
    ∃ (v' : Value) (C' : List Value) (Fs' : Nat → Foot), ReadW s n w (((((((W.setCell ⟨w.heap.size, 0, none⟩ (.slice (some ⟨g, 0, none⟩) (l.length + 1) cap)).setCell ⟨g, l.length * 6, none⟩ a0).setCell ⟨g, l.length * 6 + 1, none⟩ a1).setCell ⟨g, l.length * 6 + 2, none⟩ a2).setCell ⟨g, l.length * 6 + 3, none⟩ a3).setCell ⟨g, l.length * 6 + 4, none⟩ a4).setCell ⟨g, l.length * 6 + 5, none⟩ a5) j v' (l ++ [x]) v' C' Fs' := by
  have h0 := h.put (.slice (some ⟨g, 0, none⟩) (l.length + 1) cap)
  have hx0 : MadeX (W.setCell ⟨w.heap.size, 0, none⟩ (.slice (some ⟨g, 0, none⟩) (l.length + 1) cap)) (w.heap.size + 3) n x (.agg #[a0, a1, a2, a3, a4, a5]) N M :=
    hx.keep (by simp [World.setCell]) (fun b hb _ => Below.heap_setCell _ _ _ _ (by have := hx.2.2; show b ≠ w.heap.size; omega))
  have h1 := h0.fill hC hx0 (by omega) (fun i hi b hb => by
    rw [if_neg (by omega)] at hb
    have := hFs i hi b hb
    omega)
  exact ⟨_, _, _, h1⟩

end Go.Proofs.YtbmmghkieolpkaaGreatDoor.Sg

namespace Go.Proofs.YtbmmghkieolpkaaGreatDoor.Sg
open Go.ChangeShapes Go.WideShapes Go.ChangeAt Go.RowKit

set_option maxHeartbeats 2000000 in
theorem implNoStrictAttr (p1 p2 : ByteArray) (w : World) (h1 : p1.size ≤ 16777216) (h2 : p2.size ≤ 16777216) (hT : StLib w) :
    Calls Tryz.prog 201 #[.agg #[.string p1, .string p2]] w fun e w' => e = .returned (.bool (!attrOk (p1, p2))) ∧ Below w.heap.size w w' := by
  have hb0 : Below w.heap.size w (w.alloc (.cells #[.string p1, .string p2] 73)) := (Below.refl w.heap.size w).alloc (Nat.le_refl _) _
  have HN := implNameOk p1 _ (by omega) (hT.below hb0).1
  have HX : Hid (∀ W, StLib W → Calls Tryz.prog 124 #[.string p2] W fun e w' => e = .returned (.bool (stTextB p2)) ∧ Below W.heap.size W w') := fun W h => implTextOk p2 W (by omega) h.1
  have x0 : (w.alloc (.cells #[.string p1, .string p2] 73)).cell? ⟨w.heap.size, 0, none⟩ = some (.string p1) := by simp
  have x1 : (w.alloc (.cells #[.string p1, .string p2] 73)).cell? ⟨w.heap.size, 1, none⟩ = some (.string p2) := by simp
  have Hd : Hid (attrOk (p1, p2) = (stNameB p1 && (!(p1.toList == [120, 109, 108, 110, 115]) && stTextB p2))) := by
    show _ = _
    unfold attrOk
    rw [show xmlnsB.toList = [120, 109, 108, 110, 115] from ByteArray.toList_mk _]
  generalize attrOk (p1, p2) = R at *
  have HT : Hid (StLib w) := hT
  have HB0 : Hid (Below w.heap.size w (w.alloc (.cells #[.string p1, .string p2] 73))) := hb0
  have hz : w.heap.size < (w.alloc (.cells #[.string p1, .string p2] 73)).heap.size := by simp
  clear hT hb0
  cases hn : stNameB p1
  · rw [hn] at HN
    have Hf : Hid ((!R) = true) := by show _ = _; rw [Hd.out, hn]; rfl
    clear Hd HX hn
    go_enter Tryz.func201, Tryz.ntmps201
    go_wp2_with fail
    refine HN.mono ?_
    rintro e w1 ⟨rfl, b1⟩
    have B1 : Hid (Below w.heap.size w w1) := HB0.out.trans (b1.mono HB0.out.size)
    clear HN b1 HB0
    go_wp2_with fail
    go_ret
    exact ⟨ret_bool Hf.out.symm, B1.out⟩
  rw [hn] at HN
  cases hx : (p1.toList == [120, 109, 108, 110, 115])
  · have Hf : Hid ((!R) = !stTextB p2) := by show _ = _; rw [Hd.out, hn, hx]; rfl
    clear Hd hn
    go_enter Tryz.func201, Tryz.ntmps201
    go_wp2_with fail
    refine HN.mono ?_
    rintro e w1 ⟨rfl, b1⟩
    have y0 := keep_cell b1 x0
    have y1 := keep_cell b1 x1
    have B1 : Hid (Below w.heap.size w w1) := HB0.out.trans (b1.mono HB0.out.size)
    have HX1 := HX.out w1 (HT.out.below B1.out)
    clear HN b1 HB0 HX x0 x1
    go_wp2_with fail
    refine HX1.mono ?_
    rintro e w2 ⟨rfl, b2⟩
    have B2 : Hid (Below w.heap.size w w2) := B1.out.trans (b2.mono B1.out.size)
    clear HX1 b2 B1 y0 y1
    go_wp2_with fail
    go_ret
    exact ⟨ret_bool Hf.out.symm, B2.out⟩
  · have Hf : Hid ((!R) = true) := by show _ = _; rw [Hd.out, hn, hx]; rfl
    clear Hd HX hn
    go_enter Tryz.func201, Tryz.ntmps201
    go_wp2_with fail
    refine HN.mono ?_
    rintro e w1 ⟨rfl, b1⟩
    have y0 := keep_cell b1 x0
    have B1 : Hid (Below w.heap.size w w1) := HB0.out.trans (b1.mono HB0.out.size)
    clear HN b1 HB0 x0 x1
    go_wp2_with fail
    go_ret
    exact ⟨ret_bool Hf.out.symm, B1.out⟩

/-- The first that is not so, from a place on; -1. -/
def noAt (l : List AttrB) (k : Nat) : Bool := (l.drop k).all attrOk
theorem noAt_step (l : List AttrB) (k : Nat) (h : k < l.length) : noAt l k = (attrOk (l[k]'h) && noAt l (k + 1)) := by
  unfold noAt
  rw [List.drop_eq_getElem_cons h, List.all_cons]
theorem noAt_end (l : List AttrB) : noAt l l.length = true := by
  unfold noAt
  rw [List.drop_length]
  rfl

set_option maxRecDepth 20000 in
set_option maxHeartbeats 4000000 in
theorem implNoIndex (l : List AttrB) (a : Option Addr) (cap : Nat) (w : World) (ha : AttrsAt w a l) (hn : l.length ≤ 16777216) (hsz : ∀ p ∈ l, p.1.size ≤ 16777216 ∧ p.2.size ≤ 16777216) (hT : StLib w) :
    Calls Tryz.prog 203 #[.slice a l.length cap, .func (.func 201) #[] #[]] w fun e w' => (∃ z : Int, e = .returned (.int .i64 z) ∧ decide (0 ≤ z) = !l.all attrOk) ∧ Below w.heap.size w w' := by
  have HA : Hid (AttrsAt w a l) := ha
  have HW : Hid (∀ p ∈ l, p.1.size ≤ 16777216 ∧ p.2.size ≤ 16777216) := hsz
  have HT : Hid (StLib w) := hT
  obtain ⟨R, HR⟩ : ∃ R, Hid (noAt l 0 = R) := ⟨_, rfl⟩
  have HR0 : l.all attrOk = R := by
    have := HR.out
    unfold noAt at this
    rw [List.drop_zero] at this
    exact this
  rw [HR0]
  clear ha hsz hT HR0
  go_enter Tryz.func203, Tryz.ntmps203
  go_wp2_with fail
  go_loopw [5, 8] (fun _ iv wr => ∃ k : Nat, k ≤ l.length ∧ iv = .int .i64 (k : Int) ∧ Hid (noAt l k = R) ∧ Hid (Below w.heap.size w wr)) (fun _ iv _ => l.length - (intOf iv).toNat)
  case atStart => exact ⟨0, Nat.zero_le _, rfl, HR, Below.refl _ _⟩
  case round =>
    clear HR
    obtain ⟨k, hk, rfl, HR, HB⟩ := hrel
    have k0 : (0 : Int) ≤ (k : Int) := by omega
    by_cases hlt : k < l.length
    · have k1 : (k : Int) < (l.length : Int) := by omega
      obtain ⟨b, rfl, c0, c1⟩ := attrs_one (HA.out.below HB.out) k hlt
      have hp := HW.out _ (List.getElem_mem hlt)
      have Hs := noAt_step l k hlt
      rw [HR.out] at Hs
      generalize l[k]'hlt = p at *
      obtain ⟨p1, p2⟩ := p
      simp only at c0 c1 hp
      have HI := implNoStrictAttr p1 p2 wr hp.1 hp.2 (HT.out.below HB.out)
      cases ho : attrOk (p1, p2)
      · rw [ho] at HI Hs
        have Hf : Hid (R = false) := by show _ = _; rw [Hs]; rfl
        clear Hs HR ho
        go_wp2_with fail
        refine HI.mono ?_
        rintro e w1 ⟨rfl, b1⟩
        have B1 : Hid (Below w.heap.size w w1) := HB.out.trans (b1.mono HB.out.size)
        clear HI b1 HB c0 c1
        go_wp2_with fail
        go_ret
        exact ⟨⟨_, rfl, by rw [Hf.out]; simp⟩, B1.out⟩
      · rw [ho] at HI Hs
        have HR2 : Hid (noAt l (k + 1) = R) := by show _ = _; rw [Hs]; rfl
        clear Hs HR ho
        go_wp2_with fail
        refine HI.mono ?_
        rintro e w1 ⟨rfl, b1⟩
        have B1 : Hid (Below w.heap.size w w1) := HB.out.trans (b1.mono HB.out.size)
        clear HI b1 HB c0 c1
        go_wp2_with fail
        go_roundw
        case rel => exact ⟨k + 1, by omega, by go_num, HR2, B1⟩
        case measure => simp [intOf]; omega
    · have hkl : k = l.length := by omega
      subst hkl
      have g1 : decide ((l.length : Int) < (l.length : Int)) = false := by simp
      have Hf : Hid (R = true) := by show _ = _; rw [← HR.out]; exact noAt_end l
      clear HR
      go_wp2_with fail
      go_ret
      exact ⟨⟨_, rfl, by rw [Hf.out]; simp⟩, HB.out⟩

set_option maxHeartbeats 1000000 in
theorem implNoContains (l : List AttrB) (a : Option Addr) (cap : Nat) (w : World) (ha : AttrsAt w a l) (hn : l.length ≤ 16777216) (hsz : ∀ p ∈ l, p.1.size ≤ 16777216 ∧ p.2.size ≤ 16777216) (hT : StLib w) :
    Calls Tryz.prog 200 #[.slice a l.length cap, .func (.func 201) #[] #[]] w fun e w' => e = .returned (.bool (!l.all attrOk)) ∧ Below w.heap.size w w' := by
  have HI := implNoIndex l a cap w ha hn hsz hT
  generalize (!l.all attrOk) = R at *
  clear ha hsz hT
  go_enter Tryz.func200, Tryz.ntmps200
  go_wp2_with fail
  refine HI.mono ?_
  rintro e w1 ⟨⟨z, rfl, hz⟩, b1⟩
  clear HI
  go_wp2_with fail
  go_ret
  exact ⟨rfl, b1⟩

end Go.Proofs.YtbmmghkieolpkaaGreatDoor.Sg

namespace Go.Proofs.YtbmmghkieolpkaaGreatDoor.Sg
open Go.ChangeShapes Go.WideShapes Go.ChangeAt Go.RowKit

/-- What it is behind the interface. -/
def elI (kd sp : Int) (nm : ByteArray) (xa : Option Addr) (an xc : Nat) (tx : ByteArray) (kn : Nat) : Value :=
  if kd = 1 ∧ tx.size = 0 then .iface 105 (.agg #[.int .i64 sp, .string nm, .slice xa an xc])
  else if kd = 2 ∧ (sp = 0 ∧ nm.size = 0 ∧ an = 0 ∧ kn = 0) then .iface 98 (.agg #[.string tx])
  else if kd = 3 ∧ (sp = 0 ∧ nm.size = 0 ∧ an = 0 ∧ kn = 0) then .iface 106 (.agg #[.string tx])
  else .iface 123 (.agg #[])

set_option maxRecDepth 20000 in
set_option maxHeartbeats 8000000 in
theorem implElementOf (kd sp : Int) (nm : ByteArray) (xa : Option Addr) (an xc : Nat) (tx : ByteArray) (ka : Option Addr) (kn kc : Nat) (w : World) :
    Calls Tryz.prog 80 #[.agg #[.int .i64 kd, .int .i64 sp, .string nm, .slice xa an xc, .string tx, .slice ka kn kc]] w fun e w' => e = .returned (elI kd sp nm xa an xc tx kn) ∧ Below w.heap.size w w' := by
  have hb0 : Hid (Below w.heap.size w (w.alloc (.cells #[.int .i64 kd, .int .i64 sp, .string nm, .slice xa an xc, .string tx, .slice ka kn kc] 25))) := (Below.refl w.heap.size w).alloc (Nat.le_refl _) _
  by_cases h1 : sp = 0
  rotate_left
  · have gs : (sp == 0) = false := beq_false_of_ne h1
    by_cases k1 : kd = 1
    · subst k1
      by_cases t0 : tx.size = 0
      · have e0 := empty_of t0
        subst e0
        have HV : Hid (elI 1 sp nm xa an xc ⟨#[]⟩ kn = .iface 105 (.agg #[.int .i64 sp, .string nm, .slice xa an xc])) := by show _ = _; unfold elI; rw [if_pos ⟨rfl, rfl⟩]
        rw [HV.out]
        clear HV h1 t0
        go_enter Tryz.func80, Tryz.ntmps80
        go_wp2_with fail
        go_ret
        exact ⟨rfl, hb0.out⟩
      · have gt : (tx.toList == []) = false := not_empty t0
        have HV : Hid (elI 1 sp nm xa an xc tx kn = .iface 123 (.agg #[])) := by show _ = _; unfold elI; rw [if_neg (fun h => t0 h.2), if_neg (fun h => absurd h.1 (by decide)), if_neg (fun h => absurd h.1 (by decide))]
        rw [HV.out]
        clear HV h1 t0
        go_enter Tryz.func80, Tryz.ntmps80
        go_wp2_with fail
        go_ret
        exact ⟨rfl, hb0.out⟩
    have g1 : (kd == 1) = false := beq_false_of_ne k1
    by_cases k2 : kd = 2
    · subst k2
      have HV : Hid (elI 2 sp nm xa an xc tx kn = .iface 123 (.agg #[])) := by show _ = _; unfold elI; rw [if_neg (fun h => absurd h.1 (by decide)), if_neg (fun h => h1 h.2.1), if_neg (fun h => absurd h.1 (by decide))]
      rw [HV.out]
      clear HV h1 k1
      go_enter Tryz.func80, Tryz.ntmps80
      go_wp2_with fail
      go_ret
      exact ⟨rfl, hb0.out⟩
    have g2 : (kd == 2) = false := beq_false_of_ne k2
    by_cases k3 : kd = 3
    · subst k3
      have HV : Hid (elI 3 sp nm xa an xc tx kn = .iface 123 (.agg #[])) := by show _ = _; unfold elI; rw [if_neg (fun h => absurd h.1 (by decide)), if_neg (fun h => absurd h.1 (by decide)), if_neg (fun h => h1 h.2.1)]
      rw [HV.out]
      clear HV h1 k1 k2
      go_enter Tryz.func80, Tryz.ntmps80
      go_wp2_with fail
      go_ret
      exact ⟨rfl, hb0.out⟩
    have g3 : (kd == 3) = false := beq_false_of_ne k3
    have HV : Hid (elI kd sp nm xa an xc tx kn = .iface 123 (.agg #[])) := by show _ = _; unfold elI; rw [if_neg (fun h => k1 h.1), if_neg (fun h => k2 h.1), if_neg (fun h => k3 h.1)]
    rw [HV.out]
    clear HV h1 k1 k2 k3
    go_enter Tryz.func80, Tryz.ntmps80
    go_wp2_with fail
    go_ret
    exact ⟨rfl, hb0.out⟩
  subst h1
  by_cases h2 : nm.size = 0
  rotate_left
  · have gn : (nm.toList == []) = false := not_empty h2
    by_cases k1 : kd = 1
    · subst k1
      by_cases t0 : tx.size = 0
      · have e0 := empty_of t0
        subst e0
        have HV : Hid (elI 1 0 nm xa an xc ⟨#[]⟩ kn = .iface 105 (.agg #[.int .i64 0, .string nm, .slice xa an xc])) := by show _ = _; unfold elI; rw [if_pos ⟨rfl, rfl⟩]
        rw [HV.out]
        clear HV h2 t0
        go_enter Tryz.func80, Tryz.ntmps80
        go_wp2_with fail
        go_ret
        exact ⟨rfl, hb0.out⟩
      · have gt : (tx.toList == []) = false := not_empty t0
        have HV : Hid (elI 1 0 nm xa an xc tx kn = .iface 123 (.agg #[])) := by show _ = _; unfold elI; rw [if_neg (fun h => t0 h.2), if_neg (fun h => absurd h.1 (by decide)), if_neg (fun h => absurd h.1 (by decide))]
        rw [HV.out]
        clear HV h2 t0
        go_enter Tryz.func80, Tryz.ntmps80
        go_wp2_with fail
        go_ret
        exact ⟨rfl, hb0.out⟩
    have g1 : (kd == 1) = false := beq_false_of_ne k1
    by_cases k2 : kd = 2
    · subst k2
      have HV : Hid (elI 2 0 nm xa an xc tx kn = .iface 123 (.agg #[])) := by show _ = _; unfold elI; rw [if_neg (fun h => absurd h.1 (by decide)), if_neg (fun h => h2 h.2.2.1), if_neg (fun h => absurd h.1 (by decide))]
      rw [HV.out]
      clear HV h2 k1
      go_enter Tryz.func80, Tryz.ntmps80
      go_wp2_with fail
      go_ret
      exact ⟨rfl, hb0.out⟩
    have g2 : (kd == 2) = false := beq_false_of_ne k2
    by_cases k3 : kd = 3
    · subst k3
      have HV : Hid (elI 3 0 nm xa an xc tx kn = .iface 123 (.agg #[])) := by show _ = _; unfold elI; rw [if_neg (fun h => absurd h.1 (by decide)), if_neg (fun h => absurd h.1 (by decide)), if_neg (fun h => h2 h.2.2.1)]
      rw [HV.out]
      clear HV h2 k1 k2
      go_enter Tryz.func80, Tryz.ntmps80
      go_wp2_with fail
      go_ret
      exact ⟨rfl, hb0.out⟩
    have g3 : (kd == 3) = false := beq_false_of_ne k3
    have HV : Hid (elI kd 0 nm xa an xc tx kn = .iface 123 (.agg #[])) := by show _ = _; unfold elI; rw [if_neg (fun h => k1 h.1), if_neg (fun h => k2 h.1), if_neg (fun h => k3 h.1)]
    rw [HV.out]
    clear HV h2 k1 k2 k3
    go_enter Tryz.func80, Tryz.ntmps80
    go_wp2_with fail
    go_ret
    exact ⟨rfl, hb0.out⟩
  have e2 := empty_of h2
  subst e2
  clear h2
  by_cases h3 : an = 0
  rotate_left
  · have ga : ((an : Int) == 0) = false := by rw [beq_eq_false_iff_ne]; omega
    by_cases k1 : kd = 1
    · subst k1
      by_cases t0 : tx.size = 0
      · have e0 := empty_of t0
        subst e0
        have HV : Hid (elI 1 0 ⟨#[]⟩ xa an xc ⟨#[]⟩ kn = .iface 105 (.agg #[.int .i64 0, .string ⟨#[]⟩, .slice xa an xc])) := by show _ = _; unfold elI; rw [if_pos ⟨rfl, rfl⟩]
        rw [HV.out]
        clear HV h3 t0
        go_enter Tryz.func80, Tryz.ntmps80
        go_wp2_with fail
        go_ret
        exact ⟨rfl, hb0.out⟩
      · have gt : (tx.toList == []) = false := not_empty t0
        have HV : Hid (elI 1 0 ⟨#[]⟩ xa an xc tx kn = .iface 123 (.agg #[])) := by show _ = _; unfold elI; rw [if_neg (fun h => t0 h.2), if_neg (fun h => absurd h.1 (by decide)), if_neg (fun h => absurd h.1 (by decide))]
        rw [HV.out]
        clear HV h3 t0
        go_enter Tryz.func80, Tryz.ntmps80
        go_wp2_with fail
        go_ret
        exact ⟨rfl, hb0.out⟩
    have g1 : (kd == 1) = false := beq_false_of_ne k1
    by_cases k2 : kd = 2
    · subst k2
      have HV : Hid (elI 2 0 ⟨#[]⟩ xa an xc tx kn = .iface 123 (.agg #[])) := by show _ = _; unfold elI; rw [if_neg (fun h => absurd h.1 (by decide)), if_neg (fun h => h3 h.2.2.2.1), if_neg (fun h => absurd h.1 (by decide))]
      rw [HV.out]
      clear HV h3 k1
      go_enter Tryz.func80, Tryz.ntmps80
      go_wp2_with fail
      go_ret
      exact ⟨rfl, hb0.out⟩
    have g2 : (kd == 2) = false := beq_false_of_ne k2
    by_cases k3 : kd = 3
    · subst k3
      have HV : Hid (elI 3 0 ⟨#[]⟩ xa an xc tx kn = .iface 123 (.agg #[])) := by show _ = _; unfold elI; rw [if_neg (fun h => absurd h.1 (by decide)), if_neg (fun h => absurd h.1 (by decide)), if_neg (fun h => h3 h.2.2.2.1)]
      rw [HV.out]
      clear HV h3 k1 k2
      go_enter Tryz.func80, Tryz.ntmps80
      go_wp2_with fail
      go_ret
      exact ⟨rfl, hb0.out⟩
    have g3 : (kd == 3) = false := beq_false_of_ne k3
    have HV : Hid (elI kd 0 ⟨#[]⟩ xa an xc tx kn = .iface 123 (.agg #[])) := by show _ = _; unfold elI; rw [if_neg (fun h => k1 h.1), if_neg (fun h => k2 h.1), if_neg (fun h => k3 h.1)]
    rw [HV.out]
    clear HV h3 k1 k2 k3
    go_enter Tryz.func80, Tryz.ntmps80
    go_wp2_with fail
    go_ret
    exact ⟨rfl, hb0.out⟩
  subst h3
  by_cases h4 : kn = 0
  rotate_left
  · have gk : ((kn : Int) == 0) = false := by rw [beq_eq_false_iff_ne]; omega
    by_cases k1 : kd = 1
    · subst k1
      by_cases t0 : tx.size = 0
      · have e0 := empty_of t0
        subst e0
        have HV : Hid (elI 1 0 ⟨#[]⟩ xa 0 xc ⟨#[]⟩ kn = .iface 105 (.agg #[.int .i64 0, .string ⟨#[]⟩, .slice xa 0 xc])) := by show _ = _; unfold elI; rw [if_pos ⟨rfl, rfl⟩]
        rw [HV.out]
        clear HV h4 t0
        go_enter Tryz.func80, Tryz.ntmps80
        go_wp2_with fail
        go_ret
        exact ⟨rfl, hb0.out⟩
      · have gt : (tx.toList == []) = false := not_empty t0
        have HV : Hid (elI 1 0 ⟨#[]⟩ xa 0 xc tx kn = .iface 123 (.agg #[])) := by show _ = _; unfold elI; rw [if_neg (fun h => t0 h.2), if_neg (fun h => absurd h.1 (by decide)), if_neg (fun h => absurd h.1 (by decide))]
        rw [HV.out]
        clear HV h4 t0
        go_enter Tryz.func80, Tryz.ntmps80
        go_wp2_with fail
        go_ret
        exact ⟨rfl, hb0.out⟩
    have g1 : (kd == 1) = false := beq_false_of_ne k1
    by_cases k2 : kd = 2
    · subst k2
      have HV : Hid (elI 2 0 ⟨#[]⟩ xa 0 xc tx kn = .iface 123 (.agg #[])) := by show _ = _; unfold elI; rw [if_neg (fun h => absurd h.1 (by decide)), if_neg (fun h => h4 h.2.2.2.2), if_neg (fun h => absurd h.1 (by decide))]
      rw [HV.out]
      clear HV h4 k1
      go_enter Tryz.func80, Tryz.ntmps80
      go_wp2_with fail
      go_ret
      exact ⟨rfl, hb0.out⟩
    have g2 : (kd == 2) = false := beq_false_of_ne k2
    by_cases k3 : kd = 3
    · subst k3
      have HV : Hid (elI 3 0 ⟨#[]⟩ xa 0 xc tx kn = .iface 123 (.agg #[])) := by show _ = _; unfold elI; rw [if_neg (fun h => absurd h.1 (by decide)), if_neg (fun h => absurd h.1 (by decide)), if_neg (fun h => h4 h.2.2.2.2)]
      rw [HV.out]
      clear HV h4 k1 k2
      go_enter Tryz.func80, Tryz.ntmps80
      go_wp2_with fail
      go_ret
      exact ⟨rfl, hb0.out⟩
    have g3 : (kd == 3) = false := beq_false_of_ne k3
    have HV : Hid (elI kd 0 ⟨#[]⟩ xa 0 xc tx kn = .iface 123 (.agg #[])) := by show _ = _; unfold elI; rw [if_neg (fun h => k1 h.1), if_neg (fun h => k2 h.1), if_neg (fun h => k3 h.1)]
    rw [HV.out]
    clear HV h4 k1 k2 k3
    go_enter Tryz.func80, Tryz.ntmps80
    go_wp2_with fail
    go_ret
    exact ⟨rfl, hb0.out⟩
  subst h4
  by_cases k1 : kd = 1
  · subst k1
    by_cases t0 : tx.size = 0
    · have e0 := empty_of t0
      subst e0
      have HV : Hid (elI 1 0 ⟨#[]⟩ xa 0 xc ⟨#[]⟩ 0 = .iface 105 (.agg #[.int .i64 0, .string ⟨#[]⟩, .slice xa 0 xc])) := by show _ = _; unfold elI; rw [if_pos ⟨rfl, rfl⟩]
      rw [HV.out]
      clear HV t0
      go_enter Tryz.func80, Tryz.ntmps80
      go_wp2_with fail
      go_ret
      exact ⟨rfl, hb0.out⟩
    · have gt : (tx.toList == []) = false := not_empty t0
      have HV : Hid (elI 1 0 ⟨#[]⟩ xa 0 xc tx 0 = .iface 123 (.agg #[])) := by show _ = _; unfold elI; rw [if_neg (fun h => t0 h.2), if_neg (fun h => absurd h.1 (by decide)), if_neg (fun h => absurd h.1 (by decide))]
      rw [HV.out]
      clear HV t0
      go_enter Tryz.func80, Tryz.ntmps80
      go_wp2_with fail
      go_ret
      exact ⟨rfl, hb0.out⟩
  have g1 : (kd == 1) = false := beq_false_of_ne k1
  by_cases k2 : kd = 2
  · subst k2
    have HV : Hid (elI 2 0 ⟨#[]⟩ xa 0 xc tx 0 = .iface 98 (.agg #[.string tx])) := by show _ = _; unfold elI; rw [if_neg (fun h => absurd h.1 (by decide)), if_pos ⟨rfl, rfl, rfl, rfl, rfl⟩]
    rw [HV.out]
    clear HV k1
    go_enter Tryz.func80, Tryz.ntmps80
    go_wp2_with fail
    go_ret
    exact ⟨rfl, hb0.out⟩
  have g2 : (kd == 2) = false := beq_false_of_ne k2
  by_cases k3 : kd = 3
  · subst k3
    have HV : Hid (elI 3 0 ⟨#[]⟩ xa 0 xc tx 0 = .iface 106 (.agg #[.string tx])) := by show _ = _; unfold elI; rw [if_neg (fun h => absurd h.1 (by decide)), if_neg (fun h => absurd h.1 (by decide)), if_pos ⟨rfl, rfl, rfl, rfl, rfl⟩]
    rw [HV.out]
    clear HV k1 k2
    go_enter Tryz.func80, Tryz.ntmps80
    go_wp2_with fail
    go_ret
    exact ⟨rfl, hb0.out⟩
  have g3 : (kd == 3) = false := beq_false_of_ne k3
  have HV : Hid (elI kd 0 ⟨#[]⟩ xa 0 xc tx 0 = .iface 123 (.agg #[])) := by show _ = _; unfold elI; rw [if_neg (fun h => k1 h.1), if_neg (fun h => k2 h.1), if_neg (fun h => k3 h.1)]
  rw [HV.out]
  clear HV k1 k2 k3
  go_enter Tryz.func80, Tryz.ntmps80
  go_wp2_with fail
  go_ret
  exact ⟨rfl, hb0.out⟩

end Go.Proofs.YtbmmghkieolpkaaGreatDoor.Sg

namespace Go.Proofs.YtbmmghkieolpkaaGreatDoor.Sg
open Go.ChangeShapes Go.WideShapes Go.ChangeAt Go.RowKit

set_option maxHeartbeats 2000000 in
theorem implStrictNone (w : World) : Calls Tryz.prog 205 #[.agg #[]] w fun e w' => e = .returned (.bool false) ∧ Below w.heap.size w w' := by
  go_enter Tryz.func205, Tryz.ntmps205
  go_wp2_with fail
  go_ret
  exact ⟨rfl, (Below.refl w.heap.size w).alloc (Nat.le_refl _) _⟩
set_option maxHeartbeats 2000000 in
theorem implStrictNote (tx : ByteArray) (w : World) (hs : tx.size ≤ 16777216) (hT : StLib w) : Calls Tryz.prog 204 #[.agg #[.string tx]] w fun e w' => e = .returned (.bool (stNoteB tx)) ∧ Below w.heap.size w w' := by
  have hb0 : Below w.heap.size w (w.alloc (.cells #[.string tx] 106)) := (Below.refl w.heap.size w).alloc (Nat.le_refl _) _
  have HX := implNoteOk tx _ (by omega) (hT.below hb0)
  generalize stNoteB tx = R at *
  clear hT
  go_enter Tryz.func204, Tryz.ntmps204
  go_wp2_with fail
  refine HX.mono ?_
  rintro e w1 ⟨rfl, b1⟩
  have B1 : Hid (Below w.heap.size w w1) := hb0.trans (b1.mono hb0.size)
  clear HX b1 hb0
  go_wp2_with fail
  go_ret
  exact ⟨rfl, B1.out⟩
set_option maxHeartbeats 2000000 in
theorem implStrictText (tx : ByteArray) (w : World) (hs : tx.size ≤ 16777216) (hT : StLib w) : Calls Tryz.prog 197 #[.agg #[.string tx]] w fun e w' => e = .returned (.bool (decide (tx.size ≠ 0) && stTextB tx)) ∧ Below w.heap.size w w' := by
  have hb0 : Below w.heap.size w (w.alloc (.cells #[.string tx] 98)) := (Below.refl w.heap.size w).alloc (Nat.le_refl _) _
  have HX := implTextOk tx _ (by omega) (hT.below hb0).1
  clear hT
  by_cases h0 : tx.size = 0
  · have e0 := empty_of h0
    subst e0
    clear HX
    go_enter Tryz.func197, Tryz.ntmps197
    go_wp2_with fail
    go_ret
    exact ⟨rfl, hb0⟩
  · have g0 : (tx.toList == []) = false := not_empty h0
    have g0' : (tx.toList != []) = true := by rw [bne, g0]; rfl
    have Hd : Hid ((decide (tx.size ≠ 0) && stTextB tx) = stTextB tx) := by show _ = _; rw [decide_eq_true h0]; rfl
    rw [Hd.out]
    generalize stTextB tx = R at *
    clear Hd h0
    go_enter Tryz.func197, Tryz.ntmps197
    go_wp2_with fail
    refine HX.mono ?_
    rintro e w1 ⟨rfl, b1⟩
    have B1 : Hid (Below w.heap.size w w1) := hb0.trans (b1.mono hb0.size)
    clear HX b1 hb0
    go_wp2_with fail
    go_ret
    exact ⟨rfl, B1.out⟩
/-- What a tag is asked for by itself. -/
def tagSelf (sp : Int) (nm : ByteArray) (ats : List AttrB) : Bool := inP sp (0, 2) && (stNameB nm && (unlikeB ats && ats.all attrOk))

set_option maxRecDepth 20000 in
set_option maxHeartbeats 4000000 in
theorem implStrictTag (sp : Int) (nm : ByteArray) (ats : List AttrB) (ab : Option Addr) (ac : Nat) (w : World) (hA : AttrsAt w ab ats) (hnm : nm.size ≤ 16777216) (hal : ats.length ≤ 16777216) (hap : ∀ p ∈ ats, p.1.size ≤ 16777216 ∧ p.2.size ≤ 16777216) (hT : StLib w) :
    Calls Tryz.prog 198 #[.agg #[.int .i64 sp, .string nm, .slice ab ats.length ac]] w fun e w' => e = .returned (.bool (tagSelf sp nm ats)) ∧ Below w.heap.size w w' := by
  have hb0 : Below w.heap.size w (w.alloc (.cells #[.int .i64 sp, .string nm, .slice ab ats.length ac] 105)) := (Below.refl w.heap.size w).alloc (Nat.le_refl _) _
  have HN := implNameOk nm _ (by omega) (hT.below hb0).1
  have HU : Hid (∀ W, Below w.heap.size w W → Calls Tryz.prog 76 #[.slice ab ats.length ac] W fun r w' => r = .returned (.bool (unlikeB ats)) ∧ Below W.heap.size W w') := fun W hW => implUnlike ats ab _ ac W (hA.below hW) rfl hal
  have HC : Hid (∀ W, Below w.heap.size w W → Calls Tryz.prog 200 #[.slice ab ats.length ac, .func (.func 201) #[] #[]] W fun r w' => r = .returned (.bool (!ats.all attrOk)) ∧ Below W.heap.size W w') := fun W hW => implNoContains ats ab ac W (hA.below hW) hal hap (hT.below hW)
  have Hd : Hid (tagSelf sp nm ats = (inP sp (0, 2) && (stNameB nm && (unlikeB ats && ats.all attrOk)))) := rfl
  generalize tagSelf sp nm ats = R at *
  generalize ats.all attrOk = ak at *
  generalize unlikeB ats = uk at *
  generalize stNameB nm = nk at *
  have x2 : (w.alloc (.cells #[.int .i64 sp, .string nm, .slice ab ats.length ac] 105)).cell? ⟨w.heap.size, 2, none⟩ = some (.slice ab ats.length ac) := by simp
  have HB0 : Hid (Below w.heap.size w (w.alloc (.cells #[.int .i64 sp, .string nm, .slice ab ats.length ac] 105))) := hb0
  clear hT hb0 hap hA
  generalize ats.length = an at *
  by_cases h1 : sp < 0
  · have Hf : Hid (R = false) := by
      show _ = _
      rw [Hd.out, show inP sp (0, 2) = false from decide_eq_false (by simp only; omega)]
      rfl
    have g1 : decide ((0 : Int) ≤ sp) = false := decide_eq_false (by omega)
    clear Hd HN HU HC
    go_enter Tryz.func198, Tryz.ntmps198
    go_wp2_with fail
    go_ret
    exact ⟨ret_bool Hf.out.symm, HB0.out⟩
  have g1 : decide ((0 : Int) ≤ sp) = true := decide_eq_true (by omega)
  by_cases h2 : (2 : Int) < sp
  · have Hf : Hid (R = false) := by
      show _ = _
      rw [Hd.out, show inP sp (0, 2) = false from decide_eq_false (by simp only; omega)]
      rfl
    have g2 : decide (sp ≤ (2 : Int)) = false := decide_eq_false (by omega)
    clear Hd HN HU HC
    go_enter Tryz.func198, Tryz.ntmps198
    go_wp2_with fail
    go_ret
    exact ⟨ret_bool Hf.out.symm, HB0.out⟩
  have g2 : decide (sp ≤ (2 : Int)) = true := decide_eq_true (by omega)
  have Hd1 : Hid (R = (nk && (uk && ak))) := by
    show _ = _
    rw [Hd.out, show inP sp (0, 2) = true from decide_eq_true (by simp only; omega)]
    rfl
  clear Hd
  cases nk
  · have Hf : Hid (R = false) := Hd1.out
    clear Hd1 HU HC
    go_enter Tryz.func198, Tryz.ntmps198
    go_wp2_with fail
    refine HN.mono ?_
    rintro e w1 ⟨rfl, b1⟩
    have B1 : Hid (Below w.heap.size w w1) := HB0.out.trans (b1.mono HB0.out.size)
    clear HN b1 HB0
    go_wp2_with fail
    go_ret
    exact ⟨ret_bool Hf.out.symm, B1.out⟩
  cases uk
  · have Hf : Hid (R = false) := Hd1.out
    clear Hd1 HC
    go_enter Tryz.func198, Tryz.ntmps198
    go_wp2_with fail
    refine HN.mono ?_
    rintro e w1 ⟨rfl, b1⟩
    have y2 := keep_cell b1 x2
    have B1 : Hid (Below w.heap.size w w1) := HB0.out.trans (b1.mono HB0.out.size)
    have HU1 := HU.out w1 B1.out
    clear HN b1 HB0 HU x2
    go_wp2_with fail
    refine HU1.mono ?_
    rintro e w2 ⟨rfl, b2⟩
    have B2 : Hid (Below w.heap.size w w2) := B1.out.trans (b2.mono B1.out.size)
    clear HU1 b2 B1 y2
    go_wp2_with fail
    go_ret
    exact ⟨ret_bool Hf.out.symm, B2.out⟩
  have Hf : Hid (R = ak) := by show _ = _; rw [Hd1.out]; simp
  clear Hd1
  go_enter Tryz.func198, Tryz.ntmps198
  go_wp2_with fail
  refine HN.mono ?_
  rintro e w1 ⟨rfl, b1⟩
  have y2 := keep_cell b1 x2
  have B1 : Hid (Below w.heap.size w w1) := HB0.out.trans (b1.mono HB0.out.size)
  have HU1 := HU.out w1 B1.out
  clear HN b1 HB0 HU x2
  go_wp2_with fail
  refine HU1.mono ?_
  rintro e w2 ⟨rfl, b2⟩
  have z2 := keep_cell b2 y2
  have B2 : Hid (Below w.heap.size w w2) := B1.out.trans (b2.mono B1.out.size)
  have HC1 := HC.out w2 B2.out
  clear HU1 b2 B1 y2 HC
  go_wp2_with fail
  refine HC1.mono ?_
  rintro e w3 ⟨rfl, b3⟩
  have B3 : Hid (Below w.heap.size w w3) := B2.out.trans (b3.mono B2.out.size)
  clear HC1 b3 B2 z2
  go_wp2_with fail
  go_ret
  exact ⟨ret_bool Hf.out.symm, B3.out⟩

end Go.Proofs.YtbmmghkieolpkaaGreatDoor.Sg

namespace Go.Proofs.YtbmmghkieolpkaaGreatDoor.Sg

/-- The kids of an element. -/
def kidsE : ElB → List ElB
  | .mk _ _ _ _ _ ks => ks
theorem elN_kids (e : ElB) : elN e = elsN (kidsE e) + 1 := by obtain ⟨kd, sp, nm, ats, tx, ks⟩ := e; rw [elN, kidsE]
theorem elD_kids (e : ElB) : elD e = elsD (kidsE e) + 1 := by obtain ⟨kd, sp, nm, ats, tx, ks⟩ := e; rw [elD, kidsE]
/-- The rows that are put behind for these. -/
def pushP (d : Nat) : List ElB → List (List ElB × Nat)
  | [] => []
  | e :: es => if (kidsE e).length = 0 then pushP d es else (kidsE e, d) :: pushP d es
theorem pushP_append (d : Nat) : ∀ (a b : List ElB), pushP d (a ++ b) = pushP d a ++ pushP d b
  | [], b => rfl
  | e :: a, b => by
    rw [List.cons_append, pushP, pushP, pushP_append d a b]
    split <;> rfl
theorem pushP_step (d : Nat) (els : List ElB) (k : Nat) (h : k < els.length) : pushP d (els.take (k + 1)) = pushP d (els.take k) ++ if (kidsE (els[k]'h)).length = 0 then [] else [(kidsE (els[k]'h), d)] := by
  rw [List.take_succ_eq_append_getElem h, pushP_append]
  rfl
/-- Rows that wait, and those that come, in their order. -/
inductive Vis : List (List ElB × Nat) → List (List ElB × Nat) → Prop where
  | nil : Vis [] []
  | pop (st : List (List ElB × Nat)) (r : List ElB × Nat) (ys : List (List ElB × Nat)) : Vis (st ++ pushP (r.2 + 1) r.1) ys → Vis (st ++ [r]) (r :: ys)
/-- How many elements are in rows, how many rounds there are at most. -/
def wN (st : List (List ElB × Nat)) : Nat := (st.map fun r => elsN r.1).sum
def wM (st : List (List ElB × Nat)) : Nat := (st.map fun r => elsN r.1 + 1).sum
theorem wN_append (a b : List (List ElB × Nat)) : wN (a ++ b) = wN a + wN b := by simp [wN]
theorem wM_append (a b : List (List ElB × Nat)) : wM (a ++ b) = wM a + wM b := by simp [wM]
theorem wM_len : ∀ st : List (List ElB × Nat), st.length ≤ wM st
  | [] => Nat.zero_le _
  | r :: st => by
    have := wM_len st
    rw [show r :: st = [r] ++ st from rfl, wM_append]
    simp [wM] at *
    omega
theorem wN_push (d : Nat) : ∀ els : List ElB, wN (pushP d els) + els.length = elsN els
  | [] => rfl
  | e :: es => by
    have ih := wN_push d es
    have hn := elN_kids e
    rw [pushP, elsN, List.length_cons]
    split
    · rename_i h
      have h0 : elsN (kidsE e) = 0 := by rw [List.length_eq_zero_iff.1 h]; rfl
      omega
    · rw [show (kidsE e, d) :: pushP d es = [(kidsE e, d)] ++ pushP d es from rfl, wN_append]
      have h1 : wN [(kidsE e, d)] = elsN (kidsE e) := by simp [wN]
      omega
theorem wM_push (d : Nat) : ∀ els : List ElB, wM (pushP d els) ≤ elsN els
  | [] => Nat.le_refl _
  | e :: es => by
    have ih := wM_push d es
    have hn := elN_kids e
    rw [pushP, elsN]
    split
    · omega
    · rw [show (kidsE e, d) :: pushP d es = [(kidsE e, d)] ++ pushP d es from rfl, wM_append]
      have h1 : wM [(kidsE e, d)] = elsN (kidsE e) + 1 := by simp [wM]
      omega
theorem wM_pop (st : List (List ElB × Nat)) (r : List ElB × Nat) : wM (st ++ pushP (r.2 + 1) r.1) < wM (st ++ [r]) := by
  have := wM_push (r.2 + 1) r.1
  have h1 : wM [r] = elsN r.1 + 1 := by simp [wM]
  rw [wM_append, wM_append]
  omega
/-- All rows come. -/
theorem vis_any : ∀ (m : Nat) (st : List (List ElB × Nat)), wM st ≤ m → ∃ ys, Vis st ys
  | m, st, h => by
    rcases List.eq_nil_or_concat st with rfl | ⟨s, r, rfl⟩
    · exact ⟨[], .nil⟩
    · rw [List.concat_eq_append] at h ⊢
      have hp := wM_pop s r
      match m, h with
      | 0, h => omega
      | m + 1, h =>
        obtain ⟨ys, hy⟩ := vis_any m (s ++ pushP (r.2 + 1) r.1) (by omega)
        exact ⟨r :: ys, .pop s r ys hy⟩
theorem elsN_take : ∀ (es : List ElB) (k : Nat), elsN (es.take k) ≤ elsN es
  | [], k => by simp
  | e :: es, 0 => by simp [elsN]
  | e :: es, k + 1 => by
    have := elsN_take es k
    rw [List.take_succ_cons, elsN, elsN]
    omega
/-- How many come. -/
def lenR (ys : List (List ElB × Nat)) : Nat := (ys.map fun r => r.1.length).sum
theorem lenR_snoc (ys : List (List ElB × Nat)) (r : List ElB × Nat) : lenR (ys ++ [r]) = lenR ys + r.1.length := by simp [lenR]
theorem vis_len {st ys : List (List ElB × Nat)} (h : Vis st ys) : lenR ys = wN st := by
  induction h with
  | nil => rfl
  | pop st r ys _ ih =>
    rw [wN_append] at ih ⊢
    have := wN_push (r.2 + 1) r.1
    have h1 : wN [r] = elsN r.1 := by simp [wN]
    have h2 : lenR (r :: ys) = r.1.length + lenR ys := by simp [lenR]
    omega
theorem elsD_pos : ∀ es : List ElB, es ≠ [] → 1 ≤ elsD es
  | [], h => absurd rfl h
  | e :: es, _ => by
    have := elD_kids e
    rw [elsD]
    omega
theorem pushP_kids (d : Nat) : ∀ (els : List ElB) (r : List ElB × Nat), r ∈ pushP d els → r.1 ≠ [] ∧ r.2 = d
  | [], r, h => nomatch h
  | e :: es, r, h => by
    rw [pushP] at h
    split at h
    · exact pushP_kids d es r h
    · rename_i hk
      rcases List.mem_cons.1 h with h | h
      · rw [h]
        exact ⟨fun h0 => hk (by rw [show kidsE e = [] from h0]; rfl), rfl⟩
      · exact pushP_kids d es r h
theorem pushP_deep (d : Nat) : ∀ (els : List ElB) (r : List ElB × Nat), r ∈ pushP d els → elsD r.1 + 1 ≤ elsD els
  | [], r, h => nomatch h
  | e :: es, r, h => by
    have he := elD_kids e
    rw [pushP] at h
    rw [elsD]
    split at h
    · have := pushP_deep d es r h
      omega
    · rcases List.mem_cons.1 h with h | h
      · rw [h]
        simp only
        omega
      · have := pushP_deep d es r h
        omega
/-- A row as it lies. -/
structure RowX where
  a : Option Addr
  cap : Nat
  els : List ElB
  deep : Nat
def RowX.p (r : RowX) : List ElB × Nat := (r.els, r.deep)
def rowCs (st : List RowX) : List Value := st.flatMap fun r => [.slice r.a r.els.length r.cap, .int .i64 (r.deep : Int)]
theorem rowCs_append (a b : List RowX) : rowCs (a ++ b) = rowCs a ++ rowCs b := by simp [rowCs]
theorem rowCs_len : ∀ st : List RowX, (rowCs st).length = st.length * 2
  | [] => rfl
  | r :: st => by
    have := rowCs_len st
    rw [show r :: st = [r] ++ st from rfl, rowCs_append, List.length_append, this]
    simp [rowCs]
    omega
theorem rowCs_last (st : List RowX) (r : RowX) : (rowCs (st ++ [r]))[st.length * 2]? = some (.slice r.a r.els.length r.cap) ∧ (rowCs (st ++ [r]))[st.length * 2 + 1]? = some (.int .i64 (r.deep : Int)) := by
  have h := rowCs_len st
  rw [rowCs_append, List.getElem?_append_right (by omega), List.getElem?_append_right (by omega), h]
  have e1 : st.length * 2 - st.length * 2 = 0 := by omega
  have e2 : st.length * 2 + 1 - st.length * 2 = 1 := by omega
  rw [e1, e2]
  exact ⟨rfl, rfl⟩
theorem rowCs_cut (st : List RowX) (r : RowX) : (rowCs (st ++ [r])).take (st.length * 2) = rowCs st := by
  rw [rowCs_append, ← rowCs_len st, List.take_left]
/-- The beginning of a row that is owned. -/
theorem owns_cutn {w : World} {base g cap n m z : Nat} {e : TypeId} {xs : List Value} (h : w.ownsRow base e z (.slice (some ⟨g, 0, none⟩) n cap) n xs) (hm : m ≤ n) : w.ownsRow base e z (.slice (some ⟨g, 0, none⟩) m cap) m (xs.take (m * z)) := by
  have hmz : m * z ≤ n * z := Nat.mul_le_mul_right z hm
  obtain ⟨h1, h2⟩ := h
  rcases h2 with ⟨h2, _⟩ | ⟨g', cap', cur, hv, h3, h4, h5, h6, h7, h8⟩
  · cases h2
  · cases hv
    refine ⟨by rw [List.length_take, h1]; omega, .inr ⟨g, cap, cur, rfl, h3, h4, by omega, h6, h7, ?_⟩⟩
    rw [← h8, List.take_take]
    congr 1
    omega
theorem KidsIn.agree {Q : World → Value → List AttrB → Prop} {P : Nat → Prop} (hQ : LiesP Q P) {w w' : World} (hb : ∀ b, P b → w'.heap[b]? = w.heap[b]?) (hs : w.heap.size ≤ w'.heap.size) {ka : Option Addr} {ks : List ElB} (h : KidsIn Q P w ka ks) : KidsIn Q P w' ka ks := by
  rcases h with h | ⟨kb, ko, e, hp, h⟩
  · exact .inl h
  · exact .inr ⟨kb, ko, e, hp, ElsIn.agree hQ hb hs ks kb ko hp h⟩
theorem ElIn.parts2 {Q : World → Value → List AttrB → Prop} {P : Nat → Prop} (hs : ∀ {w v l}, Q w v l → ∃ a c, v = .slice a l.length c) {W : World} {e : ElB} {b o : Nat} (h : ElIn Q P W e b o) : ∃ kd sp nm xa n xc tx ka kc, W.cell? ⟨b, o, none⟩ = some (.int .i64 kd) ∧ W.cell? ⟨b, o + 1, none⟩ = some (.int .i64 sp) ∧ W.cell? ⟨b, o + 2, none⟩ = some (.string nm) ∧ W.cell? ⟨b, o + 3, none⟩ = some (.slice xa n xc) ∧ W.cell? ⟨b, o + 4, none⟩ = some (.string tx) ∧ W.cell? ⟨b, o + 5, none⟩ = some (.slice ka (kidsE e).length kc) ∧ KidsIn Q P W ka (kidsE e) := by
  obtain ⟨kd, sp, nm, ats, tx, ks⟩ := e
  unfold ElIn at h
  obtain ⟨c0, c1, c2, ⟨av, c3, hq⟩, c4, ka, kc, c5, hk⟩ := h
  obtain ⟨xa, xc, rfl⟩ := hs hq
  exact ⟨kd, sp, nm, xa, _, xc, tx, ka, kc, c0, c1, c2, c3, c4, c5, hk⟩

end Go.Proofs.YtbmmghkieolpkaaGreatDoor.Sg

namespace Go.Proofs.YtbmmghkieolpkaaGreatDoor.Sg

/-- Strict by itself. -/
def aloneK : ElB → Bool
  | .mk kd sp nm ats tx ks => okSelf kd sp nm ats tx ks.length
/-- A row is strict; the one ahead of it is a text, or not. -/
def rowOk : Bool → List ElB → Bool
  | _, [] => true
  | bt, e :: es => (aloneK e && !(decide (kindE e = 2) && bt)) && rowOk (decide (kindE e = 2)) es
theorem rowOk_drop (es : List ElB) (k : Nat) (h : k < es.length) (bt : Bool) : rowOk bt (es.drop k) = ((aloneK (es[k]'h) && !(decide (kindE (es[k]'h) = 2) && bt)) && rowOk (decide (kindE (es[k]'h) = 2)) (es.drop (k + 1))) := by
  rw [List.drop_eq_getElem_cons h, rowOk]
def goodR (r : List ElB × Nat) : Bool := decide (r.2 ≤ 60) && rowOk false r.1
mutual
/-- The rows within are good. -/
def dgE (d : Nat) : ElB → Bool
  | .mk _ _ _ _ _ ks => decide (ks.length = 0) || (goodR (ks, d) && dgEs (d + 1) ks)
def dgEs (d : Nat) : List ElB → Bool
  | [] => true
  | e :: es => dgE d e && dgEs d es
end
def dgR (r : List ElB × Nat) : Bool := goodR r && dgEs (r.2 + 1) r.1
theorem dgE_kids (d : Nat) (e : ElB) : dgE d e = (decide ((kidsE e).length = 0) || dgR (kidsE e, d)) := by
  obtain ⟨kd, sp, nm, ats, tx, ks⟩ := e
  rw [dgE, kidsE]
  rfl
theorem dg_push (d : Nat) : ∀ els : List ElB, (pushP d els).all dgR = dgEs d els
  | [] => by rw [pushP, dgEs]; rfl
  | e :: es => by
    rw [pushP, dgEs, ← dg_push d es, dgE_kids]
    split
    · rename_i h
      rw [decide_eq_true h]
      rfl
    · rename_i h
      rw [decide_eq_false h, List.all_cons]
      rfl
theorem vis_good {st ys : List (List ElB × Nat)} (h : Vis st ys) : ys.all goodR = st.all dgR := by
  induction h with
  | nil => rfl
  | pop st r ys _ ih =>
    rw [List.all_cons, ih, List.all_append, List.all_append, dg_push]
    show _ = (st.all dgR && (dgR r && true))
    unfold dgR
    generalize goodR r = a
    generalize st.all (fun r => goodR r && dgEs (r.2 + 1) r.1) = b
    generalize dgEs (r.2 + 1) r.1 = c
    cases a <;> cases b <;> cases c <;> rfl
theorem okE_alone (e : ElB) : okE e = (okEs 0 (kidsE e) && aloneK e) := by
  obtain ⟨kd, sp, nm, ats, tx, ks⟩ := e
  rw [okE, kidsE, aloneK]
theorem okEs_rows : ∀ (es : List ElB) (pk : Int), okEs pk es = true ↔ rowOk (decide (pk = 2)) es = true ∧ ∀ e ∈ es, okEs 0 (kidsE e) = true
  | [], pk => by simp [okEs, rowOk]
  | e :: es, pk => by
    rw [okEs, rowOk, Bool.and_eq_true, Bool.and_eq_true, Bool.and_eq_true, Bool.and_eq_true, okE_alone, Bool.and_eq_true, okEs_rows es (kindE e)]
    constructor
    · rintro ⟨⟨⟨h1, h2⟩, h3⟩, h4, h5⟩
      refine ⟨⟨⟨h2, h3⟩, h4⟩, fun x hx => ?_⟩
      rcases List.mem_cons.1 hx with rfl | hx
      · exact h1
      · exact h5 x hx
    · rintro ⟨⟨⟨h2, h3⟩, h4⟩, h5⟩
      exact ⟨⟨⟨h5 e List.mem_cons_self, h2⟩, h3⟩, h4, fun x hx => h5 x (List.mem_cons_of_mem _ hx)⟩
theorem elsD_at : ∀ (es : List ElB) (n : Nat), elsD es ≤ n ↔ ∀ e ∈ es, elD e ≤ n
  | [], n => by simp [elsD]
  | e :: es, n => by
    rw [elsD, Nat.max_le, elsD_at es n]
    constructor
    · rintro ⟨h1, h2⟩ x hx
      rcases List.mem_cons.1 hx with rfl | hx
      · exact h1
      · exact h2 x hx
    · intro h
      exact ⟨h e List.mem_cons_self, fun x hx => h x (List.mem_cons_of_mem _ hx)⟩
mutual
theorem dgE_iff : ∀ (e : ElB) (d : Nat), dgE d e = true ↔ (kidsE e = [] ∨ d + elsD (kidsE e) ≤ 61) ∧ okEs 0 (kidsE e) = true
  | .mk kd sp nm ats tx ks, d => by
    have ih := dgEs_iff ks (d + 1)
    rw [dgE, kidsE]
    by_cases h0 : ks = []
    · subst h0
      simp [okEs]
    · have hl : ks.length ≠ 0 := fun h => h0 (List.length_eq_zero_iff.1 h)
      rw [decide_eq_false hl, Bool.false_or, Bool.and_eq_true, ih, okEs_rows]
      unfold goodR
      rw [Bool.and_eq_true, decide_eq_true_iff]
      obtain ⟨x, xs, rfl⟩ := List.exists_cons_of_ne_nil h0
      have hd : ∀ n, elsD (x :: xs) ≤ n ↔ ∀ e ∈ x :: xs, elD e ≤ n := elsD_at (x :: xs)
      have h1 : 1 ≤ elsD (x :: xs) := by
        rw [elsD]
        have := elD_kids x
        omega
      constructor
      · rintro ⟨⟨a1, a2⟩, a3⟩
        refine ⟨.inr ?_, a2, fun e he => (a3 e he).2⟩
        have : elsD (x :: xs) ≤ 61 - d := (hd _).2 fun e he => by
          have := elD_kids e
          rcases (a3 e he).1 with h | h
          · rw [h, elsD] at this
            omega
          · omega
        omega
      · rintro ⟨a1, a2, a3⟩
        rcases a1 with a1 | a1
        · exact absurd a1 h0
        · refine ⟨⟨by omega, a2⟩, fun e he => ⟨.inr ?_, a3 e he⟩⟩
          have := (hd (61 - d)).1 (by omega) e he
          have := elD_kids e
          omega
theorem dgEs_iff : ∀ (es : List ElB) (d : Nat), dgEs d es = true ↔ ∀ e ∈ es, (kidsE e = [] ∨ d + elsD (kidsE e) ≤ 61) ∧ okEs 0 (kidsE e) = true
  | [], d => by simp [dgEs]
  | e :: es, d => by
    have h1 := dgE_iff e d
    have h2 := dgEs_iff es d
    rw [dgEs, Bool.and_eq_true, h1, h2]
    constructor
    · rintro ⟨a, b⟩ x hx
      rcases List.mem_cons.1 hx with rfl | hx
      · exact a
      · exact b x hx
    · intro h
      exact ⟨h e List.mem_cons_self, fun x hx => h x (List.mem_cons_of_mem _ hx)⟩
end
/-- One element is strict just where all rows that come of it are good. -/
theorem strict_rows {z : ElB} {ys : List (List ElB × Nat)} (h : Vis [([z], 1)] ys) : (decide (elD z ≤ 60) && okE z) = ys.all goodR := by
  rw [vis_good h, List.all_cons, List.all_nil, Bool.and_true]
  rw [Bool.eq_iff_iff, Bool.and_eq_true, decide_eq_true_iff]
  unfold dgR goodR
  rw [Bool.and_eq_true, Bool.and_eq_true, dgEs_iff, okE_alone, Bool.and_eq_true]
  have hk := elD_kids z
  have hr : rowOk false [z] = aloneK z := by
    rw [rowOk, rowOk]
    cases aloneK z <;> simp
  simp only [List.mem_singleton, forall_eq]
  rw [hr]
  constructor
  · rintro ⟨a, b, c⟩
    exact ⟨⟨rfl, c⟩, .inr (by omega), b⟩
  · rintro ⟨⟨_, c⟩, d, b⟩
    refine ⟨?_, b, c⟩
    rcases d with d | d
    · rw [d, elsD] at hk
      omega
    · omega

end Go.Proofs.YtbmmghkieolpkaaGreatDoor.Sg

namespace Go.Proofs.YtbmmghkieolpkaaGreatDoor.Sg
open Go.ChangeShapes Go.WideShapes Go.ChangeAt Go.RowKit Go.Shelf

/-- Of numbers of which one is so, one is the least. -/
theorem least_one {p : Nat → Prop} (h : ∃ m, p m) : ∃ m, p m ∧ ∀ k, p k → m ≤ k := by
  obtain ⟨m, hm⟩ := h
  induction m using Nat.strongRecOn with
  | ind m ih =>
    by_cases hl : ∃ k, k < m ∧ p k
    · obtain ⟨k, hk, hp⟩ := hl
      exact ih k hk hp
    · exact ⟨m, hm, fun k hk => Nat.le_of_not_lt fun hlt => hl ⟨k, hlt, hk⟩⟩
/-- A measure that is the least of what serves. -/
theorem least_of {σ : Type} (p : σ → Nat → Prop) : ∃ f : σ → Nat, ∀ s m, p s m → p s (f s) ∧ f s ≤ m := by
  classical
  refine ⟨fun s => if h : ∃ m, p s m then Classical.choose (least_one h) else 0, fun s m hm => ?_⟩
  have h : ∃ m, p s m := ⟨m, hm⟩
  simp only [dif_pos h]
  exact ⟨(Classical.choose_spec (least_one h)).1, (Classical.choose_spec (least_one h)).2 m hm⟩

/-- What such a function promises: whatever is kept while blocks from its beginning on turn (J), and is so again behind each round that goes on, is so behind all. -/
def SeqOwn {α : Type} (F : Fence) (n : Nat) (P : Program) (g : Nat) (lb : Array Value) (encs : α → Array Value) (Ok : List α → α → World → Prop) (Kp : World → World → Prop) (S Sp : List α → Prop) (w : World) : Prop :=
  ∀ (l : Nat) (J Jx : List α → World → Prop) (W : World), W.heap.size = w.heap.size + 2 → Below w.heap.size w W →
    (∀ s A B, J s A → Below W.heap.size A B → J s B) → (∀ s A B, Jx s A → Below W.heap.size A B → Jx s B) →
    (∀ pre x W1, J pre W1 → Ok pre x W1 → W.heap.size ≤ W1.heap.size → YieldAt F (n - 1) P l (encs x) W1 fun e W' =>
      (e = .returned (.bool true) ∧ J (pre ++ [x]) W' ∧ Kp W1 W') ∨ (e = .returned (.bool false) ∧ Jx (pre ++ [x]) W')) →
    J [] W →
    CallsIn F n P g (#[.func (.yield l) #[] #[]] ++ lb) W fun e W' => (∃ v, e = .returned v) ∧ ((∃ xs, S xs ∧ J xs W') ∨ (∃ pre, Sp pre ∧ Jx pre W'))

theorem below_put {B : Nat} {A W : World} {l : Nat} (o' : Obj) (h : Below B A W) (hl : B ≤ l) (hB : B ≤ W.heap.size) : Below B A (W.putObj l o') :=
  h.grown (grownBy_putObj' W l o') hB (fun k e => by cases e; exact hl)

/-- The range over it. I: what holds between two rounds, of blocks that lay when the range began. Ax: what the loop's variable is. -/
theorem range_own {F : Fence} {n : Nat} {P : Program} {α : Type} {g : Operand} {ps : Array Tmp} {assign body : Code} {Q : Exit → Act → World → Prop} {a : Act} {w : World}
    (hro : F.round = none) (h1 : 1 ≤ n) {gf : Nat} {lb : Array Value} (hg : a.eval g = .func (.func gf) #[] lb) (hFg : F.fn gf) (eg : ∀ args w, (callFunc gf args).run P w = .ok (.enter gf args) w)
    {encs : α → Array Value} {Ok : List α → α → World → Prop} {Kp : World → World → Prop} {S Sp : List α → Prop} (hseq : SeqOwn F (n - 1) P gf lb encs Ok Kp S Sp w)
    (hKt : ∀ {A B C : World}, Kp A B → Kp B C → Kp A C) (hKb : ∀ (W : World) (o' : Obj), Kp W (W.putObj (w.heap.size + 1) o'))
    (hps : ∀ x, (encs x).size = ps.size) (I : List α → World → Prop) (Ix : Code → List α → World → Prop)
    (hI : ∀ s A B, I s A → Below w.heap.size A B → I s B) (hIx : ∀ c s A B, Ix c s A → Below w.heap.size A B → Ix c s B) (h0 : I [] w)
    (Ax : List α → α → Act → World → Prop) (hAx : ∀ pre x a' W o', Ax pre x a' W → Ax pre x a' (W.putObj (w.heap.size + 1) o'))
    (hassign : ∀ (l : Nat) (pre : List α) (x : α) (W : World) (K : Act → World → Prop), I pre W → Ok pre x W → w.heap.size + 2 ≤ W.heap.size → (∀ a' W', KeepsFrom w.heap.size W W' → Kp W W' → I pre W' → Ax pre x a' W' → K a' W') →
      assign.wpIn (F.inRound l) (n - 1 - 1) P (Exit.then K (fun _ _ _ => False)) { tmps := (ps.zip (encs x)).foldl (fun t (p, v) => t.setIfInBounds p v) a.tmps, defers := [] } W)
    (hbody : ∀ (l : Nat) (pre : List α) (x : α) (a' : Act) (W : World), I pre W → Ax pre x a' W → w.heap.size + 2 ≤ W.heap.size → body.wpIn (F.inRound l) (n - 1 - 1) P (ownPostG w.heap.size Kp I Ix (pre ++ [x]) W) a' W)
    (hdone : ∀ (D : Nat) (xs : List α) (W : World), w.heap.size ≤ D → S xs → I xs W → W.heap[D]? = some (.deferred (some [])) → Q .normal { a with defers := { target := .collected D, args := #[] } :: a.defers } W)
    (hstop : ∀ (D : Nat) (c : Code) (pre : List α) (W : World), w.heap.size ≤ D → Sp pre → Ix c pre W → W.heap[D]? = some (.deferred (some [])) → c.wpIn F n P Q { a with defers := { target := .collected D, args := #[] } :: a.defers } W) :
    (Code.rangeFunc g ps assign body).wpIn F n P Q a w := by
  refine wpIn_rangeFunc ?_
  intro fn hfn
  rw [hro]
  obtain ⟨R, hR⟩ : ∃ R : LoopState → Option Code → Loop, R = fun st pe => { state := st, pending := pe, fn, tmps := a.tmps, params := ps, assign, body, defers := w.heap.size } := ⟨_, rfl⟩
  obtain ⟨W1, hW1⟩ : ∃ W1, (w.alloc (.deferred (some []))).alloc (.loop (R .ready none)) = W1 := ⟨_, rfl⟩
  have hs1 : W1.heap.size = w.heap.size + 2 := by rw [← hW1]; simp
  have hL1 : W1.heap[w.heap.size + 1]? = some (.loop (R .ready none)) := by
    have := World.alloc_heap_new (w.alloc (.deferred (some []))) (.loop (R .ready none))
    rw [World.size_alloc] at this
    rw [← hW1]
    exact this
  have hD1 : W1.heap[w.heap.size]? = some (.deferred (some [])) := by
    rw [← hW1]
    exact (Below.heap_alloc _ _ _ (by simp)).trans (World.alloc_heap_new w _)
  have hb1 : Below w.heap.size w W1 := by
    rw [← hW1]
    exact ((Below.refl _ w).alloc (Nat.le_refl _) _).alloc (by simp) _
  have up : ∀ {A B : World}, Below W1.heap.size A B → Below w.heap.size A B := fun h => h.mono (by omega)
  refine ⟨w.heap.size + 1, [{ target := .collected w.heap.size, args := #[] }], W1, { target := .fn (.func gf) lb, args := #[.func (.yield (w.heap.size + 1)) #[] #[]] }, W1, gf,
    #[.func (.yield (w.heap.size + 1)) #[] #[]] ++ lb, W1, ?_, ?_, ?_, ?_, fun _ => h1, ?_⟩
  · rw [← hW1, hR]
    exact run_enterLoop_outer _ _ _ _ _
  · simp only [resolve, hg]
    simp [go_sem]
  · intro f' hf'
    simp [Target.leads] at hf'
    subst hf'
    exact hFg
  · simp [invoke, go_sem, eg]
  refine (hseq (w.heap.size + 1)
    (fun pre W => I pre W ∧ W.heap[w.heap.size + 1]? = some (.loop (R .ready none)) ∧ W.heap[w.heap.size]? = some (.deferred (some [])))
    (fun pre W => ∃ c, Ix c pre W ∧ W.heap[w.heap.size + 1]? = some (.loop (R .done (some c))) ∧ W.heap[w.heap.size]? = some (.deferred (some [])))
    W1 hs1 hb1
    (fun s A B hs hAB => ⟨hI s A B hs.1 (up hAB), (hAB.block _ (by omega)).trans hs.2.1, (hAB.block _ (by omega)).trans hs.2.2⟩)
    (fun s A B hs hAB => by
      obtain ⟨c, hc, hl, hk⟩ := hs
      exact ⟨c, hIx c s A B hc (up hAB), (hAB.block _ (by omega)).trans hl, (hAB.block _ (by omega)).trans hk⟩)
    ?_ ⟨hI _ _ _ h0 hb1, hL1, hD1⟩).mono ?_
  · rintro pre x W ⟨hi, hl, hk⟩ hok hsz
    have hy := run_yield (P := P) (args := encs x) hl (by rw [hR]; exact hps x)
    rw [hR] at hy
    refine ⟨fn, _, assign, body, hy, roundIn_of_wpIn hfn (hassign _ pre x W _ hi hok (by omega) ?_)⟩
    clear hy
    intro a' V hkf hkp hi2 hax
    have hl2 := hkf.same _ _ (by omega) hl rfl
    have hk2 := hkf.same _ _ (Nat.le_refl _) hk rfl
    have hlt : w.heap.size + 1 < V.heap.size := (Array.getElem?_eq_some_iff.1 hl2).1
    refine ⟨_, run_beginRound hl2 (by rw [hR]), ?_⟩
    have hl3 : (V.putObj (w.heap.size + 1) (.loop { R .ready none with state := .busy })).heap[w.heap.size + 1]? = some (.loop { R .ready none with state := .busy }) := World.putObj_heap_same hlt
    have hk3 : (V.putObj (w.heap.size + 1) (.loop { R .ready none with state := .busy })).heap[w.heap.size]? = some (.deferred (some [])) := (World.putObj_heap_other (by omega)).trans hk2
    have keep : ∀ {U : World} (o' : Obj), w.heap.size + 1 < U.heap.size → Below w.heap.size U (U.putObj (w.heap.size + 1) o') := fun o' hU => below_put o' (Below.refl _ _) (by omega) (by omega)
    refine wpIn_mono (hbody _ pre x a' _ (hI _ _ _ hi2 (keep _ hlt)) (hAx _ _ _ _ _ hax) (by simp; omega)) ?_
    have fin : ∀ (jump : Option Code) (U : World), KeepsFrom w.heap.size (V.putObj (w.heap.size + 1) (.loop { R .ready none with state := .busy })) U →
        (Instr.endRound (w.heap.size + 1) jump).run P U = .ok (.bool jump.isNone) (U.putObj (w.heap.size + 1) (.loop (R (if jump.isNone then .ready else .done) jump))) ∧
        w.heap.size + 1 < U.heap.size ∧
        (U.putObj (w.heap.size + 1) (.loop (R (if jump.isNone then .ready else .done) jump))).heap[w.heap.size + 1]? = some (.loop (R (if jump.isNone then .ready else .done) jump)) ∧
        (U.putObj (w.heap.size + 1) (.loop (R (if jump.isNone then .ready else .done) jump))).heap[w.heap.size]? = some (.deferred (some [])) := fun jump U hU => by
      have h3 := hU.same _ _ (by omega) hl3 rfl
      have hr := run_endRound (P := P) jump h3
      have h4 := (Array.getElem?_eq_some_iff.1 h3).1
      rw [hR] at hr ⊢
      exact ⟨hr, h4, World.putObj_heap_same h4, (World.putObj_heap_other (by omega)).trans (hU.same _ _ (Nat.le_refl _) hk3 rfl)⟩
    rintro e a3 U hp
    cases e with
    | normal =>
      obtain ⟨p1, p2, p3⟩ := hp
      obtain ⟨q1, q2, q3, q4⟩ := fin none U p1
      exact ⟨_, _, q1, .inl ⟨rfl, ⟨hI _ _ _ p3 (keep _ q2), q3, q4⟩, hKt hkp (hKt (hKt (hKb _ _) p2) (hKb _ _))⟩⟩
    | ret =>
      obtain ⟨p1, p2⟩ := hp
      obtain ⟨q1, q2, q3, q4⟩ := fin (some .ret) U p1
      exact ⟨_, _, q1, .inr ⟨rfl, .ret, hIx _ _ _ _ p2 (keep _ q2), q3, q4⟩⟩
    | exit id =>
      obtain ⟨p1, p2⟩ := hp
      obtain ⟨q1, q2, q3, q4⟩ := fin (some (.exit id)) U p1
      exact ⟨_, _, q1, .inr ⟨rfl, .exit id, hIx _ _ _ _ p2 (keep _ q2), q3, q4⟩⟩
    | goto t =>
      obtain ⟨p1, p2⟩ := hp
      obtain ⟨q1, q2, q3, q4⟩ := fin (some (.goto t)) U p1
      exact ⟨_, _, q1, .inr ⟨rfl, .goto t, hIx _ _ _ _ p2 (keep _ q2), q3, q4⟩⟩
    | panic ch => exact hp.elim
    | outgrown => exact hp.elim
  · rintro e V ⟨⟨v, rfl⟩, (⟨xs, hS, hi, hl, hk⟩ | ⟨pre, hSp, c, hi, hl, hk⟩)⟩
    · have hlt : w.heap.size + 1 < V.heap.size := (Array.getElem?_eq_some_iff.1 hl).1
      have hr := run_endLoop (P := P) hl (by rw [hR]; simp)
      rw [hR] at hr
      exact ⟨none, _, hr, hdone _ xs _ (Nat.le_refl _) hS (hI _ _ _ hi (below_put _ (Below.refl _ _) (by omega) (by omega))) ((World.putObj_heap_other (by omega)).trans hk)⟩
    · have hlt : w.heap.size + 1 < V.heap.size := (Array.getElem?_eq_some_iff.1 hl).1
      have hr := run_endLoop (P := P) hl (by rw [hR]; simp)
      rw [hR] at hr
      exact ⟨some c, _, hr, hstop _ c pre _ (Nat.le_refl _) hSp (hIx _ _ _ _ hi (below_put _ (Below.refl _ _) (by omega) (by omega))) ((World.putObj_heap_other (by omega)).trans hk)⟩

end Go.Proofs.YtbmmghkieolpkaaGreatDoor.Sg

namespace Go.Proofs.YtbmmghkieolpkaaGreatDoor.Sg
open Go.ChangeShapes Go.WideShapes Go.ChangeAt Go.RowKit Go.Shelf

attribute [local go_sem] Oper.semAt_some

theorem info_row : (Tryz.prog.info? 70).map (fun i => (i.zero, i.size, i.bytes)) = some (some (.agg #[.slice none 0 0, .int .i64 0]), 2, 32) := by kernel_rfl
theorem rw_two (w : World) (x y : Value) (t : TypeId) (b : Nat) (hb : b = w.heap.size) : ∀ j u, ([x, y])[j]? = some u → (w.alloc (.cells #[x, y] t)).cell? ((⟨b, 0, none⟩ : Addr).add j) = some u := by
  subst hb
  intro j u hj
  match j, hj with
  | 0, hj => simp at hj; subst hj; simp [Addr.add]
  | 1, hj => simp at hj; subst hj; simp [Addr.add]

theorem ElsIn.lt {Q : World → Value → List AttrB → Prop} {P : Nat → Prop} {w : World} {es : List ElB} {b o : Nat} (hz : ¬ es.length = 0) (h : ElsIn Q P w es b o) : b < w.heap.size := by
  cases es with
  | nil => exact absurd rfl hz
  | cons e es =>
    obtain ⟨kd, sp, nm, ats, tx, ks⟩ := e
    unfold ElsIn at h
    have h1 := h.1
    unfold ElIn at h1
    exact block_lt_of_cell h1.1

/-- What holds between two rounds: the rows that wait, those that came. -/
def RwI (Q : World → Value → List AttrB → Prop) (Pb : Nat → Prop) (n₁ : Nat) (els0 : List ElB) (J : List RowX → World → Prop) (v : Value) (wr : World) (m : Nat) : Prop :=
  ∃ st pre : List RowX, wr.ownsRow n₁ 70 2 v st.length (rowCs st) ∧ (∀ r ∈ st, KidsIn Q Pb wr r.a r.els ∧ r.deep + elsD r.els ≤ 1 + elsD els0) ∧ wM (st.map RowX.p) = m ∧ m ≤ elsN els0 + 1 ∧
    (∀ ys, Vis (st.map RowX.p) ys → Vis [(els0, 1)] (pre.map RowX.p ++ ys)) ∧ J pre wr ∧ n₁ ≤ wr.heap.size
/-- And within one: its kids are put behind. -/
structure RwK (Q : World → Value → List AttrB → Prop) (Pb : Nat → Prop) (n₁ b5 : Nat) (W3 : World) (st : List RowX) (r : RowX) (k : Nat) (ps : List RowX) (v : Value) (wr : World) : Prop where
  own : wr.ownsRow n₁ 70 2 v (st ++ ps).length (rowCs (st ++ ps))
  apart : v.ownBlock ≠ some b5
  rows : ps.map RowX.p = pushP (r.deep + 1) (r.els.take k)
  kids : ∀ q ∈ ps, KidsIn Q Pb wr q.a q.els
  below : Below n₁ W3 wr
  lay : n₁ ≤ wr.heap.size
  at0 : wr.cell? ⟨b5, 0, none⟩ = some (.slice r.a r.els.length r.cap)
  at1 : wr.cell? ⟨b5, 1, none⟩ = some (.int .i64 (r.deep : Int))
  lt5 : b5 < wr.heap.size

theorem RwK.step {Q : World → Value → List AttrB → Prop} {Pb : Nat → Prop} {n₁ b5 : Nat} {W3 : World} {st : List RowX} {r : RowX} {j j' : Nat} {ps : List RowX} {v : Value} {wr w' : World} (h : RwK Q Pb n₁ b5 W3 st r j ps v wr) (hr : ps.map RowX.p = pushP (r.deep + 1) (r.els.take j')) (hb : Below wr.heap.size wr w') (hQ : LiesP Q Pb) (hPS : ∀ b, Pb b → b < n₁) : RwK Q Pb n₁ b5 W3 st r j' ps v w' :=
  ⟨owns_below h.own (Nat.le_refl _) hb, h.apart, hr, fun q hq => (h.kids q hq).agree hQ (fun b hb' => hb.block b (Nat.lt_of_lt_of_le (hPS b hb') h.lay)) hb.size, h.below.trans (hb.mono h.lay), Nat.le_trans h.lay hb.size, (hb.cell (p := ⟨b5, 0, none⟩) h.lt5).trans h.at0, (hb.cell (p := ⟨b5, 1, none⟩) h.lt5).trans h.at1, Nat.lt_of_lt_of_le h.lt5 hb.size⟩

set_option maxRecDepth 100000 in
set_option maxHeartbeats 8000000 in
theorem implRows1 (n : Nat) (hn : 1 ≤ n) (Q : World → Value → List AttrB → Prop) (Pb : Nat → Prop) (hQ : LiesP Q Pb) (hQs : ∀ {w v l}, Q w v l → ∃ a c, v = .slice a l.length c) (S : Nat → Prop) (L Bl n₁ : Nat) (hPS : ∀ b, Pb b → b < n₁ ∧ ¬ S b) (hSn : ∀ b, S b → b < n₁)
    (J Jx : List RowX → World → Prop) (hJ : ∀ s A B, J s A → Below n₁ A B → J s B) (els0 : List ElB) (hN : elsN els0 ≤ 1099511627776)
    (hY : ∀ pre (x : RowX) W1, J pre W1 → (KidsIn Q Pb W1 x.a x.els ∧ ∃ rest, Vis [(els0, 1)] ((pre ++ [x]).map RowX.p ++ rest)) → n₁ ≤ W1.heap.size → YieldAt Fence.wide (n - 1) Tryz.prog L #[.agg #[.slice x.a x.els.length x.cap, .int .i64 (x.deep : Int)]] W1 fun e W' =>
      (e = .returned (.bool true) ∧ J (pre ++ [x]) W' ∧ Kb W1 W' S) ∨ (e = .returned (.bool false) ∧ Jx (pre ++ [x]) W'))
    (a0 : Option Addr) (cap0 : Nat) (W : World) (hW : n₁ ≤ W.heap.size) (hl : W.cell? ⟨Bl, 0, none⟩ = some (.slice a0 els0.length cap0)) (hk : KidsIn Q Pb W a0 els0) (h0 : J [] W) :
    CallsIn Fence.wide n Tryz.prog 79 #[.func (.yield L) #[] #[], .pointer (some ⟨Bl, 0, none⟩)] W fun e W' => (∃ v, e = .returned v) ∧
      ((∃ ys : List RowX, Vis [(els0, 1)] (ys.map RowX.p) ∧ J ys W') ∨ (∃ pre : List RowX, (∃ rest, Vis [(els0, 1)] (pre.map RowX.p ++ rest)) ∧ Jx pre W')) := by
  obtain ⟨i0, hi, hz0, hz1, hz2⟩ := info_parts info_row
  have HY : Hid (∀ pre (x : RowX) W1, J pre W1 → (KidsIn Q Pb W1 x.a x.els ∧ ∃ rest, Vis [(els0, 1)] ((pre ++ [x]).map RowX.p ++ rest)) → n₁ ≤ W1.heap.size → YieldAt Fence.wide (n - 1) Tryz.prog L #[.agg #[.slice x.a x.els.length x.cap, .int .i64 (x.deep : Int)]] W1 fun e W' =>
      (e = .returned (.bool true) ∧ J (pre ++ [x]) W' ∧ Kb W1 W' S) ∨ (e = .returned (.bool false) ∧ Jx (pre ++ [x]) W')) := hY
  have HK : Hid (KidsIn Q Pb W a0 els0) := hk
  have H0 : Hid (J [] W) := h0
  have HJ : Hid (∀ s A B, J s A → Below n₁ A B → J s B) := hJ
  clear hY hk h0 hJ
  obtain ⟨μ, hμ⟩ := least_of (fun (s : Value × World) m => RwI Q Pb n₁ els0 J s.1 s.2 m)
  have Hμ : Hid (∀ s m, RwI Q Pb n₁ els0 J s.1 s.2 m → RwI Q Pb n₁ els0 J s.1 s.2 (μ s) ∧ μ s ≤ m) := hμ
  clear hμ
  refine callsIn_of_wp Tryz.func79 rfl trivial ?_ rfl
  simp only [Tryz.ntmps79, List.size_toArray, List.length_cons, List.length_nil, Nat.reduceAdd, Nat.reduceSub, Array.replicate_succ, Array.replicate_zero, List.push_toArray, List.append_toArray, List.nil_append, List.cons_append]
  gi_wp2
  gi_loopw [3] (fun v wr => ∃ m, Hid (RwI Q Pb n₁ els0 J v wr m)) (fun v wr => μ (v, wr))
  case atStart =>
    have hb : Below W.heap.size W (W.alloc (.cells #[.slice a0 els0.length cap0, .int .i64 1] 70)) := (Below.refl _ W).alloc (Nat.le_refl _) _
    refine ⟨elsN els0 + 1, [⟨a0, cap0, els0, 1⟩], [], ?_, ?_, ?_, Nat.le_refl _, fun ys h => h, HJ.out _ _ _ H0.out (hb.mono hW), by simp; omega⟩
    · exact ⟨rfl, .inr ⟨_, _, _, rfl, hW, World.alloc_heap_new W _, Nat.le_refl _, by decide, rfl, rfl⟩⟩
    · intro r hr
      simp only [List.mem_singleton] at hr
      subst hr
      exact ⟨HK.out.agree hQ (fun b hb' => hb.block b (Nat.lt_of_lt_of_le (hPS b hb').1 hW)) hb.size, Nat.le_refl _⟩
    · simp [wM, RowX.p]
  case round =>
    obtain ⟨m, hm⟩ := hrel
    have hm2 : RwI Q Pb n₁ els0 J u3 wr (μ (u3, wr)) := (Hμ.out (u3, wr) m hm.out).1
    obtain ⟨M, HM⟩ : ∃ M, Hid (μ (u3, wr) = M) := ⟨_, rfl⟩
    rw [HM.out] at hm2
    clear hm m
    obtain ⟨st0, pre, hO, hR, hw, hwN, hV, hJ0, hsz⟩ := hm2
    rcases List.eq_nil_or_concat st0 with rfl | ⟨st, r, hst⟩
    · have he : ∃ a c, u3 = .slice a 0 c := by
        rcases hO.2 with ⟨h, _⟩ | ⟨g, c, _, h, _⟩
        · exact ⟨_, _, h⟩
        · exact ⟨_, _, h⟩
      obtain ⟨a, c, rfl⟩ := he
      have hVn := hV [] Vis.nil
      rw [List.append_nil] at hVn
      have HV : Hid (Vis [(els0, 1)] (pre.map RowX.p)) := hVn
      have HJ0 : Hid (J pre wr) := hJ0
      clear hV hVn hJ0 hO hR hw
      gi_wp2
      go_end0
      exact ⟨⟨_, rfl⟩, .inl ⟨pre, HV.out, HJ0.out⟩⟩
    · rw [List.concat_eq_append] at hst
      subst hst
      obtain ⟨ra, rc, rels, rd⟩ := r
      have hlen : (st ++ [(⟨ra, rc, rels, rd⟩ : RowX)]).length = st.length + 1 := by simp
      rw [hlen] at hO
      obtain ⟨g, cap, rfl⟩ := ownsRow_succ hO
      obtain ⟨e0, e1⟩ := rowCs_last st ⟨ra, rc, rels, rd⟩
      have c0 := (own_cell hO (j := st.length * 2) (by omega)).1.trans e0
      have c1 := (own_cell hO (j := st.length * 2 + 1) (by omega)).1.trans e1
      have hO1 := owns_cutn hO (m := st.length) (by omega)
      rw [rowCs_cut] at hO1
      have hgl := hO1.lt g rfl
      have hcap : st.length + 1 ≤ cap := by
        rcases hO.2 with ⟨h, _⟩ | ⟨g', cap', cur, h, _, _, h5, _⟩
        · cases h
        · cases h
          exact h5
      have hKr := (hR ⟨ra, rc, rels, rd⟩ (by simp)).1
      have hDr := (hR ⟨ra, rc, rels, rd⟩ (by simp)).2
      have hRs : ∀ q ∈ st, KidsIn Q Pb wr q.a q.els ∧ q.deep + elsD q.els ≤ 1 + elsD els0 := fun q hq => hR q (by simp [hq])
      simp only at c0 c1 hKr hDr
      have hb1 : Below n₁ wr (wr.alloc (.cells #[.slice ra rels.length rc, .int .i64 (rd : Int)] 70)) := (Below.refl _ wr).alloc hsz _
      have hJ1 := HJ.out _ _ _ hJ0 hb1
      have hK1 := hKr.agree hQ (fun b hb' => hb1.block b (hPS b hb').1) hb1.size
      have HVx : Hid (∃ rest, Vis [(els0, 1)] ((pre ++ [(⟨ra, rc, rels, rd⟩ : RowX)]).map RowX.p ++ rest)) := by
        have h3 : (st ++ [(⟨ra, rc, rels, rd⟩ : RowX)]).map RowX.p = st.map RowX.p ++ [(rels, rd)] := by simp [RowX.p]
        obtain ⟨ys, hys⟩ := vis_any _ (st.map RowX.p ++ pushP (rd + 1) rels) (Nat.le_refl _)
        have := hV ((rels, rd) :: ys) (by rw [h3]; exact .pop _ (rels, rd) ys hys)
        exact ⟨ys, by simpa [RowX.p] using this⟩
      obtain ⟨fn, tmps, assign, body, hy, hYR⟩ := HY.out pre ⟨ra, rc, rels, rd⟩ _ hJ1 ⟨hK1, HVx.out⟩ (by simp; omega)
      dsimp only at hy
      have HO1 : Hid (wr.ownsRow n₁ 70 2 (.slice (some ⟨g, 0, none⟩) st.length cap) st.length (rowCs st)) := hO1
      have HRs : Hid (∀ q ∈ st, KidsIn Q Pb wr q.a q.els ∧ q.deep + elsD q.els ≤ 1 + elsD els0) := hRs
      have HK1 : Hid (KidsIn Q Pb wr ra rels) := hKr
      have HV : Hid (∀ ys, Vis ((st ++ [(⟨ra, rc, rels, rd⟩ : RowX)]).map RowX.p) ys → Vis [(els0, 1)] (pre.map RowX.p ++ ys)) := hV
      have Hw : Hid (wM ((st ++ [(⟨ra, rc, rels, rd⟩ : RowX)]).map RowX.p) = M) := hw
      have Hlen : Hid (st.length = st.length) := rfl
      have hDb : rd + elsD rels ≤ 1099511627777 := by have := elsD_le els0; omega
      have hlen2 : rels.length ≤ 1099511627776 := by
        have h1 := wM_append (st.map RowX.p) [(rels, rd)]
        have h2 : wM [(rels, rd)] = elsN rels + 1 := by simp [wM]
        have h3 : wM ((st ++ [(⟨ra, rc, rels, rd⟩ : RowX)]).map RowX.p) = wM (st.map RowX.p ++ [(rels, rd)]) := by simp [RowX.p]
        have h4 := elsN_len rels
        omega
      have hM : elsN rels + st.length + 1 ≤ M := by
        have h1 := wM_append (st.map RowX.p) [(rels, rd)]
        have h2 : wM [(rels, rd)] = elsN rels + 1 := by simp [wM]
        have h3 : wM ((st ++ [(⟨ra, rc, rels, rd⟩ : RowX)]).map RowX.p) = wM (st.map RowX.p ++ [(rels, rd)]) := by simp [RowX.p]
        have h4 := wM_len (st.map RowX.p)
        rw [List.length_map] at h4
        omega
      clear hO hO1 hR hRs hKr hK1 hJ1 hV hw e0 e1 hlen hb1 hJ0
      generalize hks : st.length = k at *
      have k0 : (0 : Int) ≤ (k : Int) := by omega
      have q0 : IntKind.i64.wrap (((k + 1 : Nat) : Int) - 1) = (k : Int) := by rw [show ((k + 1 : Nat) : Int) - 1 = (k : Int) by omega]; exact IntWalk.i64_in _ (by omega)
      have q1 : IntKind.i64.wrap ((k : Int) + 1 - 1) = (k : Int) := by rw [show (k : Int) + 1 - 1 = (k : Int) by omega]; exact IntWalk.i64_in _ (by omega)
      have q2 : (k : Int) < (k : Int) + 1 := by omega
      have q3 : (0 : Int) < (k : Int) + 1 := by omega
      have q4 : (k : Int) ≤ (cap : Int) := by omega
      gi_wp2
      refine hYR.mono ?_
      rintro e W3 (⟨rfl, hJ3, hk3⟩ | ⟨rfl, hJx3⟩)
      rotate_left
      · clear hYR hy HV HRs HO1 HK1
        gi_wp2
        refine bodyPost_ret (results_none rfl _ _ _) rfl ?_
        exact ⟨⟨_, rfl⟩, .inr ⟨_, HVx.out, hJx3⟩⟩
      · obtain ⟨b5, Hb5⟩ : ∃ b5, Hid (wr.heap.size = b5) := ⟨_, rfl⟩
        have hs3 : n₁ ≤ W3.heap.size := by have := hk3.size; simp at this; omega
        have hb5n : n₁ ≤ wr.heap.size := hsz
        have hnS : ∀ b, n₁ ≤ b → ¬ S b := fun b hb hS => absurd (hSn b hS) (by omega)
        have hbk : W3.heap[wr.heap.size]? = some (.cells #[.slice ra rels.length rc, .int .i64 (rd : Int)] 70 (0, 0)) := (hk3.block _ (by simp) (hnS _ hb5n)).trans (World.alloc_heap_new wr _)
        have hlt5 : wr.heap.size < W3.heap.size := (Array.getElem?_eq_some_iff.1 hbk).1
        have hO3 := hk3.owns (HO1.out.alloc (.cells #[.slice ra rels.length rc, .int .i64 (rd : Int)] 70)) (fun b hb => hnS _ (HO1.out.lt b hb).1)
        have hAg : (∀ b, Pb b → W3.heap[b]? = wr.heap[b]?) ∧ wr.heap.size ≤ W3.heap.size := ⟨fun b hb => (hk3.block b (by simp; have := (hPS b hb).1; omega) (hPS b hb).2).trans (Below.heap_alloc _ _ _ (by have := (hPS b hb).1; omega)), by omega⟩
        have HK3 : Hid (KidsIn Q Pb W3 ra rels) := HK1.out.agree hQ hAg.1 hAg.2
        have HR3 : Hid (∀ q ∈ st, KidsIn Q Pb W3 q.a q.els ∧ q.deep + elsD q.els ≤ 1 + elsD els0) := fun q hq => ⟨(HRs.out q hq).1.agree hQ hAg.1 hAg.2, (HRs.out q hq).2⟩
        have a0' : W3.cell? ⟨wr.heap.size, 0, none⟩ = some (.slice ra rels.length rc) := by simp [World.cell?, hbk]
        have a1' : W3.cell? ⟨wr.heap.size, 1, none⟩ = some (.int .i64 (rd : Int)) := by simp [World.cell?, hbk]
        have HI0 : Hid (RwK Q Pb n₁ b5 W3 st ⟨ra, rc, rels, rd⟩ 0 [] (.slice (some ⟨g, 0, none⟩) k cap) W3) := by
          show RwK _ _ _ _ _ _ _ _ _ _ _
          rw [← Hb5.out]
          exact ⟨by rw [List.append_nil, hks]; exact hO3, by simp [Value.ownBlock]; omega, rfl, fun q hq => absurd hq List.not_mem_nil, Below.refl _ _, hs3, a0', a1', hlt5⟩
        have HJ3 : Hid (J (pre ++ [(⟨ra, rc, rels, rd⟩ : RowX)]) W3) := hJ3
        clear hYR hy HRs HO1 HK1 hk3 hJ3 hbk hO3 hAg hnS
        rw [Hb5.out] at a0'
        simp only [Hb5.out]
        gi_wp2
        gi_loopw [3, 7, 31] (fun v _ iv wr2 => ∃ (j : Nat) (ps : List RowX), j ≤ rels.length ∧ iv = .int .i64 (j : Int) ∧ Hid (RwK Q Pb n₁ b5 W3 st ⟨ra, rc, rels, rd⟩ j ps v wr2)) (fun _ _ iv _ => rels.length - (intOf iv).toNat)
        case atStart => exact ⟨0, [], Nat.zero_le _, rfl, HI0⟩
        case round =>
          clear HI0 a0' a1'
          obtain ⟨j, ps, hj, rfl, HI⟩ := hrel
          have j0 : (0 : Int) ≤ (j : Int) := by omega
          have hbs := HI.out.lay
          have hb5 := HI.out.lt5
          have hbel := HI.out.below
          have m0 := HI.out.at0
          have m1 := HI.out.at1
          have hO := HI.out.own
          simp only at m0 m1
          by_cases hlt : j < rels.length
          · have j1 : (j : Int) < (rels.length : Int) := by omega
            have hAg : (∀ b, Pb b → wr.heap[b]? = W3.heap[b]?) ∧ W3.heap.size ≤ wr.heap.size := ⟨fun b hb => hbel.block b (hPS b hb).1, hbel.size⟩
            rcases HK3.out.agree hQ hAg.1 hAg.2 with h | ⟨kb, ko, rfl, hkb, hc⟩
            · omega
            obtain ⟨kd, sp, nm, xa, xn, xc, tx, ka, kc, d0, d1, d2, d3, d4, d5, hkk⟩ := (hc.get j hlt).parts2 hQs
            have hst := pushP_step (rd + 1) rels j hlt
            have hst0 := HI.out.rows
            simp only at hst0
            have hap := HI.out.apart
            have hkids := HI.out.kids
            have hLk : (kidsE (rels[j]'hlt)).length ≤ elsN rels := by
              have h1 := elsN_get rels j hlt
              have h2 := elN_kids (rels[j]'hlt)
              have h3 := elsN_len (kidsE (rels[j]'hlt))
              omega
            obtain ⟨kn, Hkn⟩ : ∃ kn, Hid ((kidsE (rels[j]'hlt)).length = kn) := ⟨_, rfl⟩
            rw [Hkn.out] at d5 hst hLk
            have Hst : Hid (pushP (rd + 1) (rels.take (j + 1)) = ps.map RowX.p ++ if kn = 0 then [] else [(kidsE (rels[j]'hlt), rd + 1)]) := by show _ = _; rw [hst0]; exact hst
            have Hkk : Hid (KidsIn Q Pb wr ka (kidsE (rels[j]'hlt))) := hkk
            have hbe : Below wr.heap.size wr (wr.alloc (.cells #[.int .i64 kd, .int .i64 sp, .string nm, .slice xa xn xc, .string tx, .slice ka kn kc] 25)) := (Below.refl _ wr).alloc (Nat.le_refl _) _
            have hlen : (st ++ ps).length = k + ps.length := by rw [List.length_append, hks]
            have hpsl : ps.length ≤ elsN rels := by
              have h1 := wM_len (ps.map RowX.p)
              rw [hst0] at h1
              have h2 := wM_push (rd + 1) (rels.take j)
              have h3 : elsN (rels.take j) ≤ elsN rels := elsN_take rels j
              have h4 : (pushP (rd + 1) (rels.take j)).length = ps.length := by rw [← hst0, List.length_map]
              omega
            rw [hlen] at hO
            have hu : ∃ ua uc, u3 = .slice ua (k + ps.length) uc := by
              rcases hO.2 with ⟨h, h'⟩ | ⟨g', c', _, h, _⟩
              · exact ⟨_, _, by rw [h, h']⟩
              · exact ⟨_, _, h⟩
            obtain ⟨ua, uc, rfl⟩ := hu
            clear hst hst0 hkk hc hlen
            by_cases hz : kn = 0
            · subst hz
              have Hst2 : Hid (ps.map RowX.p = pushP (rd + 1) (rels.take (j + 1))) := by show _ = _; rw [Hst.out, if_pos rfl, List.append_nil]
              have g1 : decide ((0 : Int) > 0) = false := rfl
              gi_wp2
              go_roundw
              case rel => exact ⟨j + 1, ps, by omega, by go_num, HI.out.step Hst2.out hbe hQ (fun b hb => (hPS b hb).1)⟩
              case measure => simp [intOf]; omega
            · have Hst2 : Hid ((ps ++ [(⟨ka, kc, kidsE (rels[j]'hlt), rd + 1⟩ : RowX)]).map RowX.p = pushP (rd + 1) (rels.take (j + 1))) := by
                show _ = _
                rw [Hst.out, if_neg hz, List.map_append]
                rfl
              have g1 : decide ((kn : Int) > 0) = true := decide_eq_true (by omega)
              have g2 : (0 : Int) < (kn : Int) := by omega
              have hDr2 : 1 ≤ elsD rels := elsD_pos rels (fun h => by rw [h] at hlt; simp at hlt)
              have q5 : IntKind.i64.wrap ((rd : Int) + 1) = (rd : Int) + 1 := IntWalk.i64_in _ (by omega)
              have hone : ∀ y ∈ [Value.slice ka kn kc, .int .i64 ((rd : Int) + 1)], y.oneCell' = true := by simp [Value.oneCell']
              have h63 : k + ps.length + 1 ≤ maxLen := by unfold maxLen; omega
              have hbyt : (k + ps.length + 1) * 32 ≤ 140737488355328 := by omega
              have hO2 := (hO.alloc (.cells #[.int .i64 kd, .int .i64 sp, .string nm, .slice xa xn xc, .string tx, .slice ka kn kc] 25)).alloc (.cells #[.slice ka kn kc, .int .i64 ((rd : Int) + 1)] 70)
              gi_wp2_with (gi_at_builtin; refine wpListIn_append_own_at _ rfl _ _ 92 rfl n₁ 70 i0 (.agg #[.slice none 0 0, .int .i64 0]) 2 32 Tryz.underlying92 hi hz0 hz1 hz2 rfl (by decide) _ _ _ rfl hO2 ⟨wr.heap.size + 1, 0, none⟩ 1 1 [.slice ka kn kc, .int .i64 ((rd : Int) + 1)] rfl rfl (rw_two _ _ _ _ _ (by simp)) hone h63 hbyt (by simp; omega) ?_; intro v3 w3 o3 g3 hnil3 hblk3)
              have hsz2 : ((wr.alloc (.cells #[.int .i64 kd, .int .i64 sp, .string nm, .slice xa xn xc, .string tx, .slice ka kn kc] 25)).alloc (.cells #[.slice ka kn kc, .int .i64 ((rd : Int) + 1)] 70)).heap.size = wr.heap.size + 2 := by simp
              have hb2 : Below wr.heap.size wr ((wr.alloc (.cells #[.int .i64 kd, .int .i64 sp, .string nm, .slice xa xn xc, .string tx, .slice ka kn kc] 25)).alloc (.cells #[.slice ka kn kc, .int .i64 ((rd : Int) + 1)] 70)) := hbe.alloc (by simp) _
              generalize ((wr.alloc (.cells #[.int .i64 kd, .int .i64 sp, .string nm, .slice xa xn xc, .string tx, .slice ka kn kc] 25)).alloc (.cells #[.slice ka kn kc, .int .i64 ((rd : Int) + 1)] 70)) = V at *
              have hne : ∀ b, (Value.slice ua (k + ps.length) uc).ownBlock = some b → n₁ ≤ b ∧ b < V.heap.size := fun b hb => hO2.lt b hb
              have hB3 : Below n₁ V w3 := grown_below hO2 (Below.refl _ V) (Nat.le_refl _) g3 (by omega)
              have hBw : Below n₁ wr w3 := (hb2.mono hbs).trans hB3
              have h5b : w3.heap[b5]? = wr.heap[b5]? := (g3.block b5 (by omega) (fun e => hap e.symm)).trans (hb2.block b5 hb5)
              have HI3 : Hid (RwK Q Pb n₁ b5 W3 st ⟨some ⟨kb, ko, none⟩, rc, rels, rd⟩ (j + 1) (ps ++ [(⟨ka, kc, kidsE (rels[j]'hlt), rd + 1⟩ : RowX)]) v3 w3) := by
                refine ⟨?_, ?_, Hst2.out, ?_, hbel.trans hBw, Nat.le_trans hbs hBw.size, ?_, ?_, Nat.lt_of_lt_of_le hb5 hBw.size⟩
                · rw [← List.append_assoc, rowCs_append, List.length_append, List.length_append, hks]
                  have e1 : rowCs [(⟨ka, kc, kidsE (rels[j]'hlt), rd + 1⟩ : RowX)] = [.slice ka kn kc, .int .i64 ((rd : Int) + 1)] := by simp [rowCs, Hkn.out]
                  rw [e1]
                  exact o3
                · rcases hblk3 with h | h
                  · rw [h]; exact hap
                  · rw [h]
                    intro h'
                    have := Option.some.inj h'
                    omega
                · intro q hq
                  rcases List.mem_append.1 hq with hq | hq
                  · exact (hkids q hq).agree hQ (fun b hb => hBw.block b (hPS b hb).1) hBw.size
                  · simp only [List.mem_singleton] at hq
                    subst hq
                    exact Hkk.out.agree hQ (fun b hb => hBw.block b (hPS b hb).1) hBw.size
                · exact (cell_agree h5b).trans m0
                · exact (cell_agree h5b).trans m1
              clear o3 g3 hblk3 hnil3 hO2 hne hB3 hBw h5b HI hO
              go_roundw
              case rel => exact ⟨j + 1, _, by omega, by go_num, HI3⟩
              case measure => simp [intOf]; omega
          · have hje : j = rels.length := by omega
            subst hje
            have g1 : decide ((rels.length : Int) < (rels.length : Int)) = false := by simp
            have hrows := HI.out.rows
            simp only [List.take_length] at hrows
            have hkids := HI.out.kids
            have hBw := hbel
            have h3 : (st ++ [(⟨ra, rc, rels, rd⟩ : RowX)]).map RowX.p = st.map RowX.p ++ [(rels, rd)] := by simp [RowX.p]
            have hwp := wM_pop (st.map RowX.p) (rels, rd)
            have hwM := Hw.out
            rw [h3] at hwM
            have hmap : (st ++ ps).map RowX.p = st.map RowX.p ++ pushP (rd + 1) rels := by rw [List.map_append, hrows]
            have HIn : Hid (∃ m, m < M ∧ RwI Q Pb n₁ els0 J u3 wr m) := by
              refine ⟨wM ((st ++ ps).map RowX.p), ?_, st ++ ps, pre ++ [(⟨ra, rc, rels, rd⟩ : RowX)], hO, ?_, rfl, ?_, ?_, HJ.out _ _ _ HJ3.out hbel, hbs⟩
              · rw [hmap, ← hwM]
                exact hwp
              · intro q hq
                rcases List.mem_append.1 hq with hq | hq
                · exact ⟨(HR3.out q hq).1.agree hQ (fun b hb => hbel.block b (hPS b hb).1) hbel.size, (HR3.out q hq).2⟩
                · refine ⟨hkids q hq, ?_⟩
                  have hqm : q.p ∈ pushP (rd + 1) rels := by rw [← hrows]; exact List.mem_map_of_mem hq
                  have := pushP_deep (rd + 1) rels q.p hqm
                  have h2 := (pushP_kids (rd + 1) rels q.p hqm).2
                  simp only [RowX.p] at this h2
                  omega
              · rw [hmap]
                have : wM (st.map RowX.p ++ pushP (rd + 1) rels) < M := by rw [← hwM]; exact hwp
                omega
              · intro ys hys
                rw [hmap] at hys
                have := HV.out ((rels, rd) :: ys) (by rw [h3]; exact .pop _ (rels, rd) ys hys)
                simpa [RowX.p] using this
            clear HI hO hkids hrows hmap hwp hwM h3 HJ3 HR3 HV Hw HK3
            obtain ⟨m', hm', hI'⟩ := HIn.out
            have hlt' : μ (u3, wr) < M := Nat.lt_of_le_of_lt (Hμ.out (u3, wr) m' hI').2 hm'
            gi_wp2
            go_roundw
            case rel => exact ⟨m', hI'⟩
            case measure =>
              show μ (_, _) < μ (_, _)
              rw [HM.out]
              exact hlt'

set_option maxHeartbeats 1000000 in
/-- The function that rowsOf hands back has caught the list, in a box. -/
theorem implRowsOf (n : Nat) (a : Option Addr) (N cap : Nat) (w : World) :
    CallsIn Fence.wide n Tryz.prog 48 #[.slice a N cap] w fun e w' => e = .returned (.func (.func 79) #[] #[.pointer (some ⟨w.heap.size, 0, none⟩)]) ∧ w' = w.alloc (.cells #[.slice a N cap] 23) := by
  refine callsIn_of_wp Tryz.func48 rfl trivial ?_ rfl
  simp only [Tryz.ntmps48, List.size_toArray, List.length_cons, List.length_nil, Nat.reduceAdd, Nat.reduceSub, Array.replicate_succ, Array.replicate_zero, List.push_toArray, List.append_toArray, List.nil_append, List.cons_append]
  gi_wp2
  go_ret
  exact ⟨by simp, rfl⟩
/-- What comes of a row: its list and how deep it is; its kids lie; it is one of those that come. -/
def encR (x : RowX) : Array Value := #[.agg #[.slice x.a x.els.length x.cap, .int .i64 (x.deep : Int)]]
theorem rows_seq (n : Nat) (hn : 1 ≤ n) (Q : World → Value → List AttrB → Prop) (Pb : Nat → Prop) (hQ : LiesP Q Pb) (hQs : ∀ {w v l}, Q w v l → ∃ a c, v = .slice a l.length c) (S : Nat → Prop) (Bl : Nat) (els0 : List ElB) (hN : elsN els0 ≤ 1099511627776) (a0 : Option Addr) (cap0 : Nat) (w : World)
    (hPS : ∀ b, Pb b → b < w.heap.size ∧ ¬ S b) (hSn : ∀ b, S b → b < w.heap.size + 2) (hl : w.cell? ⟨Bl, 0, none⟩ = some (.slice a0 els0.length cap0)) (hk : KidsIn Q Pb w a0 els0) :
    SeqOwn Fence.wide n Tryz.prog 79 #[.pointer (some ⟨Bl, 0, none⟩)] encR (fun pre x W => KidsIn Q Pb W x.a x.els ∧ ∃ rest, Vis [(els0, 1)] ((pre ++ [x]).map RowX.p ++ rest)) (fun A B => Kb A B S)
      (fun ys => Vis [(els0, 1)] (ys.map RowX.p)) (fun pre => ∃ rest, Vis [(els0, 1)] (pre.map RowX.p ++ rest)) w := fun L J Jx W hs hW hJ hJx hY h0 => by
  rw [hs] at hJ hY
  exact implRows1 n hn Q Pb hQ hQs S L Bl (w.heap.size + 2) (fun b hb => ⟨by have := (hPS b hb).1; omega, (hPS b hb).2⟩) hSn J Jx hJ els0 hN hY a0 cap0 W (by omega) (keep_cell hW hl) (hk.agree hQ (fun b hb => hW.block b (hPS b hb).1) hW.size) h0

/-- Attributes as a slice, wherever they lie. -/
def QSh (_ : World) (v : Value) (l : List AttrB) : Prop := ∃ a c, v = .slice a l.length c
theorem QSh.liesP (P : Nat → Prop) : LiesP QSh P := ⟨fun h _ _ => h⟩
mutual
/-- Kids lie where something lies. -/
theorem ElIn.lts {Q : World → Value → List AttrB → Prop} {P : Nat → Prop} {w : World} : ∀ (e : ElB) (b o : Nat), ElIn Q P w e b o → ElIn Q (fun b => P b ∧ b < w.heap.size) w e b o
  | .mk kd sp nm ats tx ks, b, o, h => by
    unfold ElIn at h ⊢
    obtain ⟨c0, c1, c2, c3, c4, ka, kc, c5, hk⟩ := h
    refine ⟨c0, c1, c2, c3, c4, ka, kc, c5, ?_⟩
    rcases hk with h0 | ⟨kb, ko, e, hp, hk⟩
    · exact .inl h0
    · by_cases hz : ks.length = 0
      · exact .inl hz
      · exact .inr ⟨kb, ko, e, ⟨hp, ElsIn.lt hz hk⟩, ElsIn.lts ks kb ko hk⟩
theorem ElsIn.lts {Q : World → Value → List AttrB → Prop} {P : Nat → Prop} {w : World} : ∀ (es : List ElB) (b o : Nat), ElsIn Q P w es b o → ElsIn Q (fun b => P b ∧ b < w.heap.size) w es b o
  | [], _, _, _ => by unfold ElsIn; trivial
  | e :: es, b, o, h => by
    unfold ElsIn at h ⊢
    exact ⟨ElIn.lts e b o h.1, ElsIn.lts es b (o + 6) h.2⟩
end
theorem ElV.lts {Q : World → Value → List AttrB → Prop} {P : Nat → Prop} {w : World} {v : Value} {e : ElB} (h : ElV Q P w v e) : ElV Q (fun b => P b ∧ b < w.heap.size) w v e := by
  obtain ⟨kd, sp, nm, ats, tx, ks⟩ := e
  obtain ⟨av, ka, kc, e, hq, hk⟩ := h
  refine ⟨av, ka, kc, e, hq, ?_⟩
  rcases hk with h0 | ⟨kb, ko, e, hp, hk⟩
  · exact .inl h0
  · by_cases hz : ks.length = 0
    · exact .inl hz
    · exact .inr ⟨kb, ko, e, ⟨hp, ElsIn.lt hz hk⟩, ElsIn.lts ks kb ko hk⟩

end Go.Proofs.YtbmmghkieolpkaaGreatDoor.Sg

namespace Go.Proofs.YtbmmghkieolpkaaGreatDoor.Sg
open Go.ChangeShapes Go.WideShapes Go.ChangeAt Go.RowKit Go.Shelf

/-- Attributes in blocks ahead of one. -/
def QB (n : Nat) (w : World) (v : Value) (l : List AttrB) : Prop := QA 0 w v l ∧ ∀ b o m k c, v = .slice (some ⟨b, o, m⟩) k c → b < n
theorem QB.slice {n : Nat} {w : World} {v : Value} {l : List AttrB} (h : QB n w v l) : ∃ a c, v = .slice a l.length c := by
  obtain ⟨⟨x, c, e, _⟩, _⟩ := h
  exact ⟨x, c, e⟩
theorem QB.liesP (n : Nat) : LiesP (QB n) (· < n) := ⟨fun {w w' v l} h hb hs => by
  obtain ⟨⟨x, c, rfl, h1, h2, h3, h6⟩, h7⟩ := h
  refine ⟨⟨x, c, rfl, h1, fun b o m h => Nat.lt_of_lt_of_le (h2 b o m h) hs, ?_, h6⟩, h7⟩
  rcases h3 with h3 | ⟨b', e', h4, h5⟩
  · exact .inl h3
  · subst e'
    have hc := hb b' (h7 _ _ _ _ _ rfl)
    exact .inr ⟨b', rfl, Nat.lt_of_lt_of_le h4 hs, fun k hk => ⟨(cell_agree hc).trans (h5 k hk).1, (cell_agree hc).trans (h5 k hk).2⟩⟩⟩
theorem elV_first {lo : Nat} {w : World} {v : Value} {e : ElB} (h : ElV (QA lo) (lo ≤ ·) w v e) : ElV (QB w.heap.size) (· < w.heap.size) w v e :=
  h.lts.wider (fun v l h => by
    obtain ⟨x, c, rfl, h1, h2, h3⟩ := h
    exact ⟨⟨x, c, rfl, fun _ _ _ _ => Nat.zero_le _, h2, h3⟩, fun b o m k c e => by cases e; exact h2 b o m rfl⟩) (fun b hb => hb.2)
theorem ElV.widen {n n' : Nat} {w : World} {v : Value} {e : ElB} (h : ElV (QB n) (· < n) w v e) (hn : n ≤ n') : ElV (QB n') (· < n') w v e :=
  h.wider (fun _ _ h => ⟨h.1, fun b o m k c e => Nat.lt_of_lt_of_le (h.2 b o m k c e) hn⟩) (fun _ hb => Nat.lt_of_lt_of_le hb hn)
/-- One element in a slice of its own. -/
theorem kids_oneB {n : Nat} {W : World} {z : ElB} {v : Value} {b : Nat} (hV : ElV (QB n) (· < n) W v z) (hb : b < n) (hc : ∃ v0 v1 v2 v3 v4 v5, v = .agg #[v0, v1, v2, v3, v4, v5] ∧ W.heap[b]? = some (.cells #[v0, v1, v2, v3, v4, v5] 25 (0, 0))) : KidsIn (QB n) (· < n) W (some ⟨b, 0, none⟩) [z] := by
  obtain ⟨v0, v1, v2, v3, v4, v5, rfl, hh⟩ := hc
  refine .inr ⟨b, 0, rfl, hb, ?_⟩
  unfold ElsIn
  refine ⟨hV.cells ?_ ?_ ?_ ?_ ?_ ?_, by unfold ElsIn; trivial⟩ <;> simp [World.cell?, hh]

end Go.Proofs.YtbmmghkieolpkaaGreatDoor.Sg
