/- What the program's reader hands back of an element, of kids, and what it holds while a tag is read. -/
import Derived.Test.YthipdkagkdnaiaaGreatDoorMRD09
import Derived.Test.YthipdkagkdnaiaaGreatDoorMRD11
import Derived.Test.YthipdkagkdnaiaaGreatDoorRqSpace
import Derived.Test.YthipdkagkdnaiaaGreatDoorRdEl
import Derived.Test.YthipdkagkdnaiaaGreatDoorMRD15
namespace Go.Proofs.YthipdkagkdnaiaaGreatDoor.Sg
open Go.ChangeShapes Go.WideShapes Go.ChangeAt Go.RowKit

abbrev zero6L : List Value := [.int .i64 0, .int .i64 0, .string ⟨#[]⟩, .slice none 0 0, .string ⟨#[]⟩, .slice none 0 0]

/-- One element, made since the call began, and where it ends; or a panic. -/
def GotE (a : Addr) (p : Nat) (s : ByteArray) (n : Nat) (o : Option (ElB × Nat)) (W : World) (e : Ending) (w' : World) : Prop :=
  ((∃ (x : ElB) (j : Nat) (v : Value), o = some (x, j) ∧ e = .returned v ∧ ElNew w' W.heap.size n x v ∧ Rq a p s (j : Int) w') ∨ (o = none ∧ e = PanE a)) ∧ Fr p W w'
/-- A row of elements, made since the call began; where the text ends ahead of an end of a tag, it ends there; or a panic. -/
def GotK (a : Addr) (p : Nat) (s : ByteArray) (n k : Nat) (o : Option (List ElB × Nat)) (W : World) (e : Ending) (w' : World) : Prop :=
  ((∃ (l : List ElB) (j : Nat) (v : Value) (C : List Value) (Fs : Nat → Foot), e = .returned v ∧ RowO w' W.heap.size n v l C Fs ∧ k ≤ j ∧ j ≤ s.size ∧ Rq a p s (j : Int) w' ∧ (o = some (l, j) ∨ (o = none ∧ j = s.size))) ∨ (o = none ∧ e = PanE a)) ∧ Fr p W w'

theorem RowO.form {w : World} {N n : Nat} {v : Value} {l : List ElB} {C : List Value} {Fs : Nat → Foot} (h : RowO w N n v l C Fs) : ∃ g c, v = .slice g l.length c := by
  rcases h.1.2 with ⟨e, h0⟩ | ⟨g, cap, cur, e, _⟩
  · exact ⟨none, 0, by rw [e, h0]⟩
  · exact ⟨_, cap, e⟩
theorem RowO.blocks {w : World} {N n : Nat} {v : Value} {l : List ElB} {C : List Value} {Fs : Nat → Foot} (h : RowO w N n v l C Fs) : (∀ b, v.ownBlock = some b → b < w.heap.size) ∧ ∀ i, i < l.length → ∀ b, Fs i b → b < w.heap.size :=
  ⟨fun _ hb => (own_since h.1 hb).2, fun i hi b hF => (h.2.1 i hi b hF).1.2⟩
theorem ElNew.set {W : World} {N n c i : Nat} {e : ElB} {v u : Value} (h : ElNew W N n e v) (hc : c < N) : ElNew (W.setCell ⟨c, i, none⟩ u) N n e v :=
  h.keep (by simp [World.setCell]) (fun b hb => Below.heap_setCell _ _ _ _ (by have := hb.1; show b ≠ c; omega))

/-- The result's cells are written at the end. -/
theorem el_done {w W : World} {a : Addr} {p : Nat} {s : ByteArray} {k : Int} {N n : Nat} {f : Nat → Value} {v0 v1 v2 v3 v4 v5 : Value} {e : ElB} (hp : p < w.heap.size) (hD : Rq a p s k W) (hF : Fr p w W) (h6 : Many 6 W w.heap.size f) (hE : ElNew W N n e (.agg #[v0, v1, v2, v3, v4, v5])) (hN : w.heap.size < N) :
    Many 6 ((((((W.setCell ⟨w.heap.size, 0, none⟩ v0).setCell ⟨w.heap.size, 1, none⟩ v1).setCell ⟨w.heap.size, 2, none⟩ v2).setCell ⟨w.heap.size, 3, none⟩ v3).setCell ⟨w.heap.size, 4, none⟩ v4).setCell ⟨w.heap.size, 5, none⟩ v5) w.heap.size (fun i => [v0, v1, v2, v3, v4, v5].getD i undef) ∧
    ElNew ((((((W.setCell ⟨w.heap.size, 0, none⟩ v0).setCell ⟨w.heap.size, 1, none⟩ v1).setCell ⟨w.heap.size, 2, none⟩ v2).setCell ⟨w.heap.size, 3, none⟩ v3).setCell ⟨w.heap.size, 4, none⟩ v4).setCell ⟨w.heap.size, 5, none⟩ v5) w.heap.size n e (.agg #[v0, v1, v2, v3, v4, v5]) ∧
    Rq a p s k ((((((W.setCell ⟨w.heap.size, 0, none⟩ v0).setCell ⟨w.heap.size, 1, none⟩ v1).setCell ⟨w.heap.size, 2, none⟩ v2).setCell ⟨w.heap.size, 3, none⟩ v3).setCell ⟨w.heap.size, 4, none⟩ v4).setCell ⟨w.heap.size, 5, none⟩ v5) ∧
    Fr p w ((((((W.setCell ⟨w.heap.size, 0, none⟩ v0).setCell ⟨w.heap.size, 1, none⟩ v1).setCell ⟨w.heap.size, 2, none⟩ v2).setCell ⟨w.heap.size, 3, none⟩ v3).setCell ⟨w.heap.size, 4, none⟩ v4).setCell ⟨w.heap.size, 5, none⟩ v5) := by
  refine ⟨h6.all6 v0 v1 v2 v3 v4 v5, ?_, ?_, ?_⟩
  · exact ((((((hE.set hN).set hN).set hN).set hN).set hN).set hN).low (Nat.le_of_lt hN)
  · exact (((((hD.setN _ hp).setN _ hp).setN _ hp).setN _ hp).setN _ hp).setN _ hp
  · exact (((((hF.setN _ (Nat.le_refl _)).setN _ (Nat.le_refl _)).setN _ (Nat.le_refl _)).setN _ (Nat.le_refl _)).setN _ (Nat.le_refl _)).setN _ (Nat.le_refl _)

/-- While a tag is read: w the world where the call began, its result's cells, its element's cells behind them, in a block c. -/
structure TagW (a : Addr) (p : Nat) (s : ByteArray) (w W : World) (j : Int) (c : Nat) (V : List Value) : Prop where
  q : Rq a p s j W
  f : Fr p w W
  m0 : Many 6 W w.heap.size (fun i => zero6L.getD i undef)
  m1 : Many 6 W c (fun i => V.getD i undef)
  lt : w.heap.size < c
  p : p < w.heap.size
theorem TagW.fr {a : Addr} {p : Nat} {s : ByteArray} {w W W' : World} {j j' : Int} {c : Nat} {V : List Value} (h : TagW a p s w W j c V) (hf : Fr p W W') (hq : Rq a p s j' W') : TagW a p s w W' j' c V :=
  ⟨hq, h.f.trans hf, h.m0.fr hf (by have := h.p; omega), h.m1.fr hf (by have := h.p; have := h.lt; omega), h.lt, h.p⟩
theorem TagW.below {a : Addr} {p : Nat} {s : ByteArray} {w W W' : World} {j : Int} {c : Nat} {V : List Value} (h : TagW a p s w W j c V) (hb : Below W.heap.size W W') : TagW a p s w W' j c V :=
  h.fr (Fr.of_below hb) (h.q.keep hb)
theorem TagW.put {a : Addr} {p : Nat} {s : ByteArray} {w W : World} {j : Int} {c : Nat} {V : List Value} (h : TagW a p s w W j c V) (i : Nat) (v : Value) (hi : i < V.length) : TagW a p s w (W.setCell ⟨c, i, none⟩ v) j c (V.set i v) :=
  ⟨h.q.setN v (by have := h.p; have := h.lt; omega), h.f.setN v (Nat.le_of_lt h.lt), h.m0.other (by have := h.lt; omega) v, h.m1.put6 i v hi, h.lt, h.p⟩

theorem RowO.set {W : World} {N n c i : Nat} {u : Value} {v : Value} {l : List ElB} {C : List Value} {Fs : Nat → Foot} (h : RowO W N n v l C Fs) (hc : c < N) : RowO (W.setCell ⟨c, i, none⟩ u) N n v l C Fs :=
  h.keep (by simp [World.setCell]) (fun b hb => Below.heap_setCell _ _ _ _ (by have := hb.1; show b ≠ c; omega))
theorem owns_setC {W : World} {base c i : Nat} {u : Value} {e : TypeId} {size : Nat} {v : Value} {n : Nat} {xs : List Value} (h : W.ownsRow base e size v n xs) (hc : c < base) : (W.setCell ⟨c, i, none⟩ u).ownsRow base e size v n xs :=
  owns_stay h (fun b hb _ => Below.heap_setCell _ _ _ _ (by have := (own_since h hb).1; show b ≠ c; omega))
/-- A tag with kids that were made later than its attributes. -/
theorem ElNew.tag {W : World} {N lo n : Nat} {sp : Int} {nm : ByteArray} {l : List AttrB} {lk : List ElB} {av kv : Value} {C : List Value} {Fs : Nat → Foot} (hA : W.ownsRow N 73 2 av l.length (attrCells l)) (hav : ∀ b, av.ownBlock = some b → b < lo) (hN : N ≤ lo) (hK : RowO W lo n kv lk C Fs) :
    ElNew W N (n + 1) (.mk 1 sp nm l ⟨#[]⟩ lk) (.agg #[.int .i64 1, .int .i64 sp, .string nm, av, .string ⟨#[]⟩, kv]) :=
  ⟨av, kv, Since lo W, rfl, hA, fun b hb => ⟨own_since hA hb, fun h => by have := hav b hb; have := h.1; omega⟩, OwnS.low hN _ hK.own, fun _ hb => ⟨Nat.le_trans hN hb.1, hb.2⟩⟩
theorem ElNew.bareTag {W : World} {N n : Nat} {sp : Int} {nm : ByteArray} {l : List AttrB} {av : Value} (hA : W.ownsRow N 73 2 av l.length (attrCells l)) :
    ElNew W N n (.mk 1 sp nm l ⟨#[]⟩ []) (.agg #[.int .i64 1, .int .i64 sp, .string nm, av, .string ⟨#[]⟩, .slice none 0 0]) :=
  ⟨av, _, fun _ => False, rfl, hA, fun _ hb => ⟨own_since hA hb, fun h => h⟩, OwnS.nil _ _ _ _, fun _ hb => hb.elim⟩

end Go.Proofs.YthipdkagkdnaiaaGreatDoor.Sg
