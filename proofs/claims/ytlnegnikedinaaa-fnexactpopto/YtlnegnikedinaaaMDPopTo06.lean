/- Contracts of SignOk, of the program and of the model: both answer the same plain test of a number. Memory that a call owns, and what stays of it. Attributes in memory. -/
import Derived.Test.YtlnegnikedinaaaRows
import Derived.WalkKit
import Derived.WalkLawsBesides
import Derived.ProofKit
import Derived.OpenShut
import Derived.ShutString
import Derived.ChangeOld
import Derived.Below
import Derived.Laws.Bits128
import Derived.OwnWalk
import Derived.Laws.AppendOwn
import Derived.Deep.OwnRows
namespace Go.Proofs.Ytlnegnikedinaaa.Sg
open Go.ChangeShapes Go.WideShapes Go.ChangeAt Go.RowKit

theorem own : ownKnob Try.prog.godebug = none := by kernel_rfl
theorem laidOut : laidOutB Try.prog = true := by kernel_rfl

/-- A number is a sign. -/
def okB (n : Int) : Bool := decide (0 ≤ n ∧ n ≤ 1114111 ∧ (n < 55296 ∨ 57343 < n))

theorem okB_yes {n : Int} (h : 0 ≤ n ∧ n ≤ 1114111 ∧ (n < 55296 ∨ 57343 < n)) : okB n = true := decide_eq_true h
theorem okB_no {n : Int} (h : ¬ (0 ≤ n ∧ n ≤ 1114111 ∧ (n < 55296 ∨ 57343 < n))) : okB n = false := decide_eq_false h
theorem okB_of {n : Int} (h : okB n = true) : 0 ≤ n ∧ n ≤ 1114111 ∧ (n < 55296 ∨ 57343 < n) := of_decide_eq_true h
theorem okB_not {n : Int} (h : okB n = false) : ¬ (0 ≤ n ∧ n ≤ 1114111 ∧ (n < 55296 ∨ 57343 < n)) := of_decide_eq_false h

theorem ret_bool {a b : Bool} (h : a = b) : Ending.returned (.bool a) = .returned (.bool b) := by rw [h]

theorem five (n : Int) : (n < 0 ∨ (0 ≤ n ∧ n < 55296)) ∨ (55296 ≤ n ∧ n ≤ 57343) ∨ ((57343 < n ∧ n ≤ 1114111) ∨ 1114111 < n) := by omega



theorem i64_low (n : Int) (m : Nat) (hm : m ≤ 32) (z : Int) (hz : (BitVec.ofInt 64 z).toNat = 2 ^ m - 1) : bits .and .i64 n z = n % ((2 ^ m : Nat) : Int) := by
  have key : (BitVec.ofInt 64 n &&& BitVec.ofInt 64 z).toNat = (n % ((2 ^ 64 : Nat) : Int)).toNat % 2 ^ m := by
    rw [BitVec.toNat_and, BitVec.toNat_ofInt, hz, Nat.and_two_pow_sub_one_eq_mod]
  show IntKind.i64.wrap ((BitVec.ofInt 64 n &&& BitVec.ofInt 64 z).toNat : Nat) = _
  have hp : (2 ^ m : Nat) ≤ 2 ^ 32 := Nat.pow_le_pow_right (by decide) hm
  have hp0 : 0 < (2 ^ m : Nat) := Nat.two_pow_pos m
  have hlt : (n % ((2 ^ 64 : Nat) : Int)).toNat % 2 ^ m < 2 ^ m := Nat.mod_lt _ hp0
  have hdvd : ((2 ^ m : Nat) : Int) ∣ ((2 ^ 64 : Nat) : Int) := Int.natCast_dvd_natCast.2 (Nat.pow_dvd_pow 2 (by omega))
  have hnn : 0 ≤ n % ((2 ^ 64 : Nat) : Int) := Int.emod_nonneg _ (by decide)
  rw [key, IntKind.wrap_i64, Int.natCast_emod, Int.toNat_of_nonneg hnn, Int.emod_emod_of_dvd _ hdvd]
  have h1 := Int.emod_nonneg n (b := ((2 ^ m : Nat) : Int)) (by omega)
  have h2 := Int.emod_lt_of_pos n (b := ((2 ^ m : Nat) : Int)) (by omega)
  generalize n % ((2 ^ m : Nat) : Int) = r at *
  generalize (2 ^ m : Nat) = q at *
  omega

end Go.Proofs.Ytlnegnikedinaaa.Sg

namespace Go.Proofs.Ytlnegnikedinaaa.Sg
open Go.ChangeShapes Go.WideShapes Go.ChangeAt Go.RowKit

/-- What is owned stays owned where nothing that was there has turned. -/
theorem owns_below {w w' : World} {base : Nat} {e : TypeId} {size : Nat} {v : Value} {n : Nat} {xs : List Value} (h : w.ownsRow base e size v n xs) {B : Nat} (hB : w.heap.size ≤ B) (hb : Below B w w') : w'.ownsRow base e size v n xs := by
  obtain ⟨h1, h2⟩ := h
  refine ⟨h1, ?_⟩
  rcases h2 with h2 | ⟨g, cap, cur, h2, h3, h4, h5⟩
  · exact .inl h2
  · have hg : g < w.heap.size := (Array.getElem?_eq_some_iff.1 h4).1
    exact .inr ⟨g, cap, cur, h2, h3, (hb.block g (by omega)).trans h4, h5⟩

theorem drew_kd {B : Nat} {a w : World} (h : Below B a w) (n : Nat) : Below B a (w.drewN n) := h.trans ⟨rfl, rfl, rfl, Nat.le_refl _, fun _ _ => rfl⟩
theorem rowIs_below {w w' : World} {g n : Nat} {t : TypeId} {f : Nat → Value} (h : w.rowIs g t n f) (hb : Below w.heap.size w w') : w'.rowIs g t n f := by
  obtain ⟨c, h1, h2, h3⟩ := h
  exact ⟨c, (hb.block g (Array.getElem?_eq_some_iff.1 h1).1).trans h1, h2, h3⟩
theorem keep_cell {w w' : World} (hb : Below w.heap.size w w') {b i : Nat} {v : Value} (h : w.cell? ⟨b, i, none⟩ = some v) : w'.cell? ⟨b, i, none⟩ = some v := by
  have hlt : b < w.heap.size := by
    unfold World.cell? at h
    simp only at h
    cases hh : w.heap[b]? with
    | none => rw [hh] at h; cases h
    | some o => exact (Array.getElem?_eq_some_iff.1 hh).1
  exact (hb.cell hlt).trans h
theorem grown_below {w w2 : World} {B : Nat} {e : TypeId} {z : Nat} {v : Value} {n : Nat} {xs : List Value} {B0 : Nat} {w0 : World} (hown : w.ownsRow B e z v n xs) (hb : Below B0 w0 w) (hB : B0 ≤ B) (hg : w.grownBy w2 v.ownBlock) (hsz : B0 ≤ w.heap.size) : Below B0 w0 w2 :=
  hb.grown hg hsz (fun k hk => Nat.le_trans hB (hown.lt k hk).1)
theorem own_mono {w : World} {B B' : Nat} {e : TypeId} {z : Nat} {v : Value} {n : Nat} {xs : List Value} (h : w.ownsRow B' e z v n xs) (hB : B ≤ B') : w.ownsRow B e z v n xs := by
  obtain ⟨h1, h2⟩ := h
  refine ⟨h1, ?_⟩
  rcases h2 with h2 | ⟨g, cap, cur, h3, h4, h5⟩
  · exact .inl h2
  · exact .inr ⟨g, cap, cur, h3, Nat.le_trans hB h4, h5⟩

theorem grown_refl (w : World) (r : Option Nat) : w.grownBy w r := ⟨rfl, rfl, rfl, Nat.le_refl _, fun _ _ _ => rfl⟩
theorem grown_trans {a b c : World} {r : Option Nat} (h : a.grownBy b r) (k : b.grownBy c r) : a.grownBy c r :=
  ⟨k.os.trans h.os, k.tape.trans h.tape, k.output.trans h.output, Nat.le_trans h.size k.size, fun i hi hr => (k.block i (Nat.lt_of_lt_of_le hi h.size) hr).trans (h.block i hi hr)⟩
theorem grown_of_below {w w' : World} (h : Below w.heap.size w w') (r : Option Nat) : w.grownBy w' r := ⟨h.os, h.tape, h.output, h.size, fun k hk _ => h.block k hk⟩
theorem grown_set (w : World) (g i : Nat) (v : Value) : w.grownBy (w.setCell ⟨g, i, none⟩ v) (some g) :=
  ⟨rfl, rfl, rfl, by simp [World.setCell], fun k _ hk => Below.heap_setCell _ _ _ _ (fun e => hk (congrArg some e))⟩
theorem grown_alloc (w : World) (o : Obj) (r : Option Nat) : w.grownBy (w.alloc o) r := ⟨rfl, rfl, rfl, by simp, fun k hk _ => Below.heap_alloc _ _ _ hk⟩
/-- A row in a block that has not turned stays owned. -/
theorem owns_grown {w w' : World} {base : Nat} {e : TypeId} {size : Nat} {v : Value} {n : Nat} {xs : List Value} {r : Option Nat} (h : w.ownsRow base e size v n xs) (hg : w.grownBy w' r) (hne : ∀ b, v.ownBlock = some b → r ≠ some b) : w'.ownsRow base e size v n xs := by
  obtain ⟨h1, h2⟩ := h
  refine ⟨h1, ?_⟩
  rcases h2 with h2 | ⟨g, cap, cur, rfl, h3, h4, h5⟩
  · exact .inl h2
  · have hlt : g < w.heap.size := (Array.getElem?_eq_some_iff.1 h4).1
    exact .inr ⟨g, cap, cur, rfl, h3, (hg.block g hlt (fun e => hne g rfl e.symm)).trans h4, h5⟩
/-- Rows of unlike types lie in unlike blocks. -/
theorem owns_apart {w : World} {B1 B2 : Nat} {e1 e2 : TypeId} {z1 z2 : Nat} {v1 v2 : Value} {n1 n2 : Nat} {x1 x2 : List Value} (h1 : w.ownsRow B1 e1 z1 v1 n1 x1) (h2 : w.ownsRow B2 e2 z2 v2 n2 x2) (he : e1 ≠ e2) (b : Nat) (hb : v1.ownBlock = some b) : v2.ownBlock ≠ some b := by
  intro hb2
  obtain ⟨_, h1⟩ := h1
  obtain ⟨_, h2⟩ := h2
  rcases h1 with ⟨rfl, _⟩ | ⟨g1, c1, cur1, rfl, _, g1h, _⟩
  · cases hb
  · rcases h2 with ⟨rfl, _⟩ | ⟨g2, c2, cur2, rfl, _, g2h, _⟩
    · cases hb2
    · have e1' : g1 = b := Option.some.inj hb
      have e2' : g2 = b := Option.some.inj hb2
      rw [e1'] at g1h
      rw [e2', g1h] at g2h
      cases g2h
      exact he rfl
/-- One cell of a row that is owned is written. -/
theorem owns_set {w : World} {base : Nat} {e : TypeId} {size : Nat} {g n cap : Nat} {xs : List Value} (h : w.ownsRow base e size (.slice (some ⟨g, 0, none⟩) n cap) n xs) (j : Nat) (v : Value) : (w.setCell ⟨g, j, none⟩ v).ownsRow base e size (.slice (some ⟨g, 0, none⟩) n cap) n (xs.set j v) := by
  obtain ⟨h1, h2⟩ := h
  refine ⟨by rw [List.length_set]; exact h1, ?_⟩
  rcases h2 with ⟨h2, _⟩ | ⟨g', cap', cur, h2, h3, h4, h5, h6, h7, h8⟩
  · cases h2
  · cases h2
    refine .inr ⟨g, cap, cur.setIfInBounds j v, rfl, h3, ?_, h5, h6, by simpa using h7, ?_⟩
    · simp [World.setCell, Array.getElem?_modify, h4]
    · rw [Array.toList_setIfInBounds, List.take_set, h8]
/-- A row lies in no block of another type. -/
theorem owns_not {w : World} {B : Nat} {e t : TypeId} {z : Nat} {v : Value} {n p : Nat} {xs : List Value} {c : Array Value} {f : Nat × Nat} (h : w.ownsRow B e z v n xs) (hp : w.heap[p]? = some (.cells c t f)) (ht : t ≠ e) : v.ownBlock ≠ some p := by
  intro hb
  obtain ⟨_, h⟩ := h
  rcases h with ⟨rfl, _⟩ | ⟨g, cap, cur, rfl, _, hg, _⟩
  · cases hb
  · have e1 : g = p := Option.some.inj hb
    rw [e1, hp] at hg
    cases hg
    exact ht rfl

theorem own_cell {w : World} {B : Nat} {e : TypeId} {z g n cap : Nat} {xs : List Value} (h : w.ownsRow B e z (.slice (some ⟨g, 0, none⟩) n cap) n xs) {j : Nat} (hj : j < n * z) : w.cell? ⟨g, j, none⟩ = xs[j]? ∧ w.frozen? ⟨g, j, none⟩ = false := by
  obtain ⟨_, h2⟩ := h
  rcases h2 with ⟨h2, _⟩ | ⟨g', cap', cur, h2, _, h4, _, _, _, h8⟩
  · cases h2
  · cases h2
    rw [← h8, List.getElem?_take_of_lt hj, Array.getElem?_toList]
    exact ⟨by simp [World.cell?, h4], by simp [World.frozen?, h4]⟩

end Go.Proofs.Ytlnegnikedinaaa.Sg

namespace Go.Proofs.Ytlnegnikedinaaa.Sg
open Go.ChangeShapes Go.WideShapes Go.ChangeAt Go.RowKit

abbrev AttrB := ByteArray × ByteArray

/-- The cells of attributes. -/
def attrCells : List AttrB → List Value
  | [] => []
  | p :: l => .string p.1 :: .string p.2 :: attrCells l
theorem attrCells_length : ∀ l, (attrCells l).length = l.length * 2
  | [] => rfl
  | _ :: l => by simp only [attrCells, List.length_cons, attrCells_length l]; omega
theorem attrCells_more (l : List AttrB) (p : AttrB) : attrCells (l ++ [p]) = attrCells l ++ [.string p.1, .string p.2] := by
  induction l with
  | nil => rfl
  | cons q l ih => simp [attrCells, ih]
theorem attrCells_at : ∀ (l : List AttrB) (k : Nat), k < l.length → (attrCells l)[k * 2]? = some (.string (l.getD k (ByteArray.empty, ByteArray.empty)).1) ∧ (attrCells l)[k * 2 + 1]? = some (.string (l.getD k (ByteArray.empty, ByteArray.empty)).2)
  | [], k, h => absurd h (Nat.not_lt_zero _)
  | p :: l, 0, _ => by simp [attrCells]
  | p :: l, k + 1, h => by
    have ih := attrCells_at l k (by simpa using h)
    have e1 : (k + 1) * 2 = k * 2 + 1 + 1 := by omega
    rw [e1]
    simpa [attrCells] using ih

/-- A slice of attributes holds just l. -/
def AttrsAt (w : World) (a : Option Addr) (l : List AttrB) : Prop :=
  l = [] ∨ ∃ b, a = some ⟨b, 0, none⟩ ∧ b < w.heap.size ∧ ∀ k, k < l.length → w.cell? ⟨b, k * 2, none⟩ = some (.string (l.getD k (ByteArray.empty, ByteArray.empty)).1) ∧ w.cell? ⟨b, k * 2 + 1, none⟩ = some (.string (l.getD k (ByteArray.empty, ByteArray.empty)).2)

theorem attrs_of_own {w : World} {base n : Nat} {e : TypeId} {v : Value} {l : List AttrB} (h : w.ownsRow base e 2 v n (attrCells l)) : ∃ a cap, v = .slice a l.length cap ∧ AttrsAt w a l := by
  obtain ⟨h1, h2⟩ := h
  rw [attrCells_length] at h1
  have hn : l.length = n := by omega
  subst hn
  rcases h2 with ⟨rfl, h0⟩ | ⟨g, cap, cur, rfl, h3, h4, h5, h6, h7, h8⟩
  · have : l = [] := List.eq_nil_of_length_eq_zero h0
    subst this
    exact ⟨none, 0, rfl, .inl rfl⟩
  · refine ⟨_, _, rfl, .inr ⟨g, rfl, (Array.getElem?_eq_some_iff.1 h4).1, fun k hk => ?_⟩⟩
    obtain ⟨a1, a2⟩ := attrCells_at l k hk
    rw [← h8] at a1 a2
    rw [List.getElem?_take_of_lt (by omega)] at a1 a2
    have c1 : cur[k * 2]? = some (.string (l.getD k (ByteArray.empty, ByteArray.empty)).1) := by simpa using a1
    have c2 : cur[k * 2 + 1]? = some (.string (l.getD k (ByteArray.empty, ByteArray.empty)).2) := by simpa using a2
    exact ⟨by simp [World.cell?, h4, c1], by simp [World.cell?, h4, c2]⟩
theorem AttrsAt.below {w w' : World} {a : Option Addr} {l : List AttrB} (h : AttrsAt w a l) (hb : Below w.heap.size w w') : AttrsAt w' a l := by
  rcases h with h | ⟨b, h1, h2, h3⟩
  · exact .inl h
  · exact .inr ⟨b, h1, Nat.lt_of_lt_of_le h2 hb.size, fun k hk => ⟨(hb.cell h2).trans (h3 k hk).1, (hb.cell h2).trans (h3 k hk).2⟩⟩

end Go.Proofs.Ytlnegnikedinaaa.Sg
