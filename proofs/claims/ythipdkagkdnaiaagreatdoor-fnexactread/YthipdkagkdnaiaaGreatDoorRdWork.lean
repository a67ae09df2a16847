/- The model's reader in memory: its block, and what else stays. -/
import Derived.Test.YthipdkagkdnaiaaGreatDoorMRD01
namespace Go.Proofs.YthipdkagkdnaiaaGreatDoor.Sg
open Go.ChangeShapes Go.WideShapes Go.ChangeAt Go.RowKit

/-- The reader's block. -/
def RdAt (w : World) (p : Nat) (s : ByteArray) (k : Int) (ok : Bool) : Prop :=
  w.heap[p]? = some (.cells #[.string s, .int .i64 k, .bool ok] 38 (0, 0))
theorem RdAt.lt {w : World} {p : Nat} {s : ByteArray} {k : Int} {ok : Bool} (h : RdAt w p s k ok) : p < w.heap.size := (Array.getElem?_eq_some_iff.1 h).1
theorem RdAt.c0 {w : World} {p : Nat} {s : ByteArray} {k : Int} {ok : Bool} (h : RdAt w p s k ok) : w.cell? ⟨p, 0, none⟩ = some (.string s) := by unfold RdAt at h; simp [World.cell?, h]
theorem RdAt.c1 {w : World} {p : Nat} {s : ByteArray} {k : Int} {ok : Bool} (h : RdAt w p s k ok) : w.cell? ⟨p, 1, none⟩ = some (.int .i64 k) := by unfold RdAt at h; simp [World.cell?, h]
theorem RdAt.c2 {w : World} {p : Nat} {s : ByteArray} {k : Int} {ok : Bool} (h : RdAt w p s k ok) : w.cell? ⟨p, 2, none⟩ = some (.bool ok) := by unfold RdAt at h; simp [World.cell?, h]
theorem RdAt.fz {w : World} {p : Nat} {s : ByteArray} {k : Int} {ok : Bool} (h : RdAt w p s k ok) (i : Nat) : w.frozen? ⟨p, i, none⟩ = false := by unfold RdAt at h; simp [World.frozen?, h]
theorem RdAt.set1 {w : World} {p : Nat} {s : ByteArray} {k : Int} {ok : Bool} (h : RdAt w p s k ok) (k' : Int) : RdAt (w.setCell ⟨p, 1, none⟩ (.int .i64 k')) p s k' ok := by
  unfold RdAt at *
  simp [World.setCell, Array.getElem?_modify, h]
theorem RdAt.set2 {w : World} {p : Nat} {s : ByteArray} {k : Int} {ok : Bool} (h : RdAt w p s k ok) (ok' : Bool) : RdAt (w.setCell ⟨p, 2, none⟩ (.bool ok')) p s k ok' := by
  unfold RdAt at *
  simp [World.setCell, Array.getElem?_modify, h]
theorem RdAt.keep {w w' : World} {p : Nat} {s : ByteArray} {k : Int} {ok : Bool} (h : RdAt w p s k ok) (hb : Below w.heap.size w w') : RdAt w' p s k ok := (hb.block p h.lt).trans h

/-- Of what was there nothing has turned but block p. -/
structure Fr (p : Nat) (w w' : World) : Prop where
  os : w'.os = w.os
  tape : w'.tape = w.tape
  output : w'.output = w.output
  size : w.heap.size ≤ w'.heap.size
  block : ∀ k, k < w.heap.size → k ≠ p → w'.heap[k]? = w.heap[k]?
theorem Fr.refl (p : Nat) (w : World) : Fr p w w := ⟨rfl, rfl, rfl, Nat.le_refl _, fun _ _ _ => rfl⟩
theorem Fr.trans {p : Nat} {a b c : World} (h : Fr p a b) (k : Fr p b c) : Fr p a c :=
  ⟨k.os.trans h.os, k.tape.trans h.tape, k.output.trans h.output, Nat.le_trans h.size k.size, fun i hi hp => (k.block i (Nat.lt_of_lt_of_le hi h.size) hp).trans (h.block i hi hp)⟩
theorem Fr.of_below {p : Nat} {a b : World} (h : Below a.heap.size a b) : Fr p a b := ⟨h.os, h.tape, h.output, h.size, fun i hi _ => h.block i hi⟩
theorem Fr.set {p : Nat} (w : World) (i : Nat) (v : Value) : Fr p w (w.setCell ⟨p, i, none⟩ v) :=
  ⟨rfl, rfl, rfl, by simp [World.setCell], fun k _ hk => Below.heap_setCell _ _ _ _ (by show k ≠ p; exact hk)⟩
theorem Fr.below {p : Nat} {a b : World} (h : Fr p a b) {B : Nat} (hp : B ≤ p) (hB : B ≤ a.heap.size) : Below B a b :=
  ⟨h.os, h.tape, h.output, h.size, fun i hi => h.block i (Nat.lt_of_lt_of_le hi hB) (by omega)⟩

/-- A row that is owned behind block p likewise. -/
theorem Fr.owns {p base : Nat} {a b : World} (h : Fr p a b) (hp : p < base) {e : TypeId} {size : Nat} {v : Value} {n : Nat} {xs : List Value} (ho : a.ownsRow base e size v n xs) : b.ownsRow base e size v n xs := by
  obtain ⟨h1, h2⟩ := ho
  refine ⟨h1, ?_⟩
  rcases h2 with h2 | ⟨g, cap, cur, rfl, h3, h4, h5⟩
  · exact .inl h2
  · exact .inr ⟨g, cap, cur, rfl, h3, (h.block g (Array.getElem?_eq_some_iff.1 h4).1 (by omega)).trans h4, h5⟩
theorem Fr.cell {p b o : Nat} {a c : World} {v : Value} (h : Fr p a c) (hb : b ≠ p) (hc : a.cell? ⟨b, o, none⟩ = some v) : c.cell? ⟨b, o, none⟩ = some v :=
  (cell_agree (h.block b (block_lt_of_cell hc) hb)).trans hc

end Go.Proofs.YthipdkagkdnaiaaGreatDoor.Sg
