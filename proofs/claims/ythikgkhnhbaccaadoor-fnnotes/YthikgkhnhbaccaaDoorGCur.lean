/- The cursor from which the laws draw: what its steps tell, and that they change nothing but the cursor. -/
import Derived.Test.YthikgkhnhbaccaaDoorSgOk
import Derived.Laws.Bits128
import Derived.Below
import Derived.OwnWalk
import Derived.BigQuiet
import Derived.Deep.QuietTactic
import Derived.WalkSmall
namespace Go.Proofs.YthikgkhnhbaccaaDoor.Sg
open Go.ChangeShapes Go.WideShapes Go.ChangeAt Go.RowKit

/-- Nothing that was there has turned but block p. -/
def Only (p : Nat) (w w' : World) : Prop :=
  w'.os = w.os ∧ w'.tape = w.tape ∧ w'.output = w.output ∧ w.heap.size ≤ w'.heap.size ∧ ∀ k, k < w.heap.size → k ≠ p → w'.heap[k]? = w.heap[k]?

theorem Only.refl (p : Nat) (w : World) : Only p w w := ⟨rfl, rfl, rfl, Nat.le_refl _, fun _ _ _ => rfl⟩
theorem Only.size {p : Nat} {w w' : World} (h : Only p w w') : w.heap.size ≤ w'.heap.size := h.2.2.2.1
theorem Only.block {p : Nat} {w w' : World} (h : Only p w w') {k : Nat} (hk : k < w.heap.size) (hp : k ≠ p) : w'.heap[k]? = w.heap[k]? := h.2.2.2.2 k hk hp
theorem Only.trans {p : Nat} {a b c : World} (h : Only p a b) (k : Only p b c) : Only p a c :=
  ⟨k.1.trans h.1, k.2.1.trans h.2.1, k.2.2.1.trans h.2.2.1, Nat.le_trans h.size k.size, fun _ hi hp => (k.block (Nat.lt_of_lt_of_le hi h.size) hp).trans (h.block hi hp)⟩
theorem Only.of_below {p : Nat} {w w' : World} (h : Below w.heap.size w w') : Only p w w' := ⟨h.os, h.tape, h.output, h.size, fun k hk _ => h.block k hk⟩
theorem Only.below {p B : Nat} {w w' : World} (h : Only p w w') (hB : B ≤ p) (hw : B ≤ w.heap.size) : Below B w w' := ⟨h.1, h.2.1, h.2.2.1, h.size, fun _ hk => h.block (by omega) (by omega)⟩
theorem Only.setCell {p : Nat} {a w : World} (h : Only p a w) {q : Addr} (hq : q.block = p) (u : Value) : Only p a (w.setCell q u) :=
  h.trans ⟨rfl, rfl, rfl, by simp [World.setCell], fun k _ hk => Below.heap_setCell _ _ _ _ (by omega)⟩
theorem Only.drewN {p : Nat} {a w : World} (h : Only p a w) (n : Nat) : Only p a (w.drewN n) := h.trans ⟨rfl, rfl, rfl, Nat.le_refl _, fun _ _ _ => rfl⟩
theorem Only.alloc {p : Nat} {a w : World} (h : Only p a w) (o : Obj) : Only p a (w.alloc o) :=
  h.trans ⟨rfl, rfl, rfl, by simp, fun k hk _ => Below.heap_alloc _ _ _ hk⟩

theorem below_draws {B : Nat} {a w : World} (h : Below B a w) (n : Nat) : Below B a (w.drewN n) := h.trans ⟨rfl, rfl, rfl, Nat.le_refl _, fun _ _ => rfl⟩

/-- A slice of bytes that begins at 'a' holds n bytes; they lie below block B. -/
def Code (B : Nat) (w : World) (a : Option Addr) (n : Nat) : Prop :=
  n = 0 ∨ ∃ b off, a = some ⟨b, off, none⟩ ∧ b < B ∧ b < w.heap.size ∧ ∀ i, i < n → ∃ z : Nat, z < 256 ∧ w.cell? ⟨b, off + i, none⟩ = some (.int .u8 (z : Int))

/-- Block p is a cursor over the n bytes at a, which lie below it. -/
def Cur (p : Nat) (a : Option Addr) (n cap : Nat) (w : World) : Prop :=
  n ≤ 1152921504606846976 ∧ Code p w a n ∧ ∃ (i : Nat) (h : Int), i ≤ n ∧ w.heap[p]? = some (.cells #[.slice a n cap, .int .i64 (i : Int), .int .i64 h] 42 (0, 0))

theorem Code.only {p B : Nat} {a : Option Addr} {n : Nat} {w w' : World} (h : Code B w a n) (hp : B ≤ p) (ho : Only p w w') : Code B w' a n := by
  rcases h with h | ⟨b, off, ha, hB, hb, hc⟩
  · exact .inl h
  · refine .inr ⟨b, off, ha, hB, Nat.lt_of_lt_of_le hb ho.size, fun i hi => ?_⟩
    obtain ⟨z, hz, hc⟩ := hc i hi
    exact ⟨z, hz, (World.cell?_of_block (w := w) (ho.block hb (by show b ≠ p; omega))).trans hc⟩

theorem Code.below {B : Nat} {a : Option Addr} {n : Nat} {w w' : World} (h : Code B w a n) (hb : Below B w w') : Code B w' a n := by
  rcases h with h | ⟨b, off, ha, hB, hb', hc⟩
  · exact .inl h
  · refine .inr ⟨b, off, ha, hB, Nat.lt_of_lt_of_le hb' hb.size, fun i hi => ?_⟩
    obtain ⟨z, hz, hc⟩ := hc i hi
    exact ⟨z, hz, (hb.cell (p := ⟨b, off + i, none⟩) hB).trans hc⟩

theorem Code.raise {B B' : Nat} {a : Option Addr} {n : Nat} {w : World} (h : Code B w a n) (hB : B ≤ B') : Code B' w a n := by
  rcases h with h | ⟨b, off, ha, hB', hb', hc⟩
  · exact .inl h
  · exact .inr ⟨b, off, ha, by omega, hb', hc⟩

theorem Cur.below {p : Nat} {a : Option Addr} {n cap : Nat} {w w' : World} (h : Cur p a n cap w) (hb : Below w.heap.size w w') : Cur p a n cap w' := by
  obtain ⟨h1, h2, i, g, h4, h5⟩ := h
  have hlt : p < w.heap.size := (Array.getElem?_eq_some_iff.1 h5).1
  exact ⟨h1, h2.only (Nat.le_refl _) (Only.of_below hb), i, g, h4, (hb.block p hlt).trans h5⟩

theorem i64_255 (n : Int) : bits .and .i64 n 255 = n % 256 := (i64_low n 8 (by decide) 255 (by decide)).trans (by simp)

theorem set_heap {w : World} {p : Nat} {c : Array Value} {t : TypeId} (h : w.heap[p]? = some (.cells c t (0, 0))) (i : Nat) (v : Value) : (w.setCell ⟨p, i, none⟩ v).heap[p]? = some (.cells (c.setIfInBounds i v) t (0, 0)) := by
  simp [World.setCell, Array.getElem?_modify, h]

set_option maxHeartbeats 2000000 in
theorem l1Byte_any (p : Nat) (a : Option Addr) (n cap : Nat) (w : World) (hc : Cur p a n cap w) :
    Calls Tryd.prog 30 #[.pointer (some ⟨p, 0, none⟩)] w fun e w' => ∃ x : Nat, x < 256 ∧ e = .returned (.int .i64 (x : Int)) ∧ Cur p a n cap w' ∧ Only p w w' := by
  obtain ⟨hn, hcode, i, h, hi, hp⟩ := hc
  have c0 : w.cell? ⟨p, 0, none⟩ = some (.slice a n cap) := by simp [World.cell?, hp]
  have c1 : w.cell? ⟨p, 1, none⟩ = some (.int .i64 (i : Int)) := by simp [World.cell?, hp]
  have c2 : w.cell? ⟨p, 2, none⟩ = some (.int .i64 h) := by simp [World.cell?, hp]
  have f1 : w.frozen? ⟨p, 1, none⟩ = false := by simp [World.frozen?, hp]
  have f2 : w.frozen? ⟨p, 2, none⟩ = false := by simp [World.frozen?, hp]
  have a255 := i64_255
  have Hp : Hid (w.heap[p]? = some (.cells #[.slice a n cap, .int .i64 (i : Int), .int .i64 h] 42 (0, 0))) := hp
  clear hp
  have Hcode : Hid (Code p w a n) := hcode
  by_cases hlt : i < n
  · rcases hcode with h0 | ⟨b, off, rfl, hbp, hb, hcb⟩
    · omega
    obtain ⟨z, hz, hcz⟩ := hcb i hlt
    have hne : b ≠ p := Nat.ne_of_lt hbp
    clear hcb
    go_enter Tryd.func30, Tryd.ntmps30
    go_wp2
    generalize wrap64 (wrap64 (h * 6364136223846793005) + 1442695040888963407) = h1
    generalize wrap64 (h * 6364136223846793005) = h0
    have hp1 := set_heap Hp.out 2 (.int .i64 h1)
    have hO : Only p w (w.setCell ⟨p, 2, none⟩ (.int .i64 h1)) := (Only.refl p w).setCell rfl _
    have hz1 : (w.setCell ⟨p, 2, none⟩ (.int .i64 h1)).cell? ⟨b, off + i, none⟩ = some (.int .u8 (z : Int)) := (World.cell?_of_block (w := w) (hO.block hb hne)).trans hcz
    generalize w.setCell ⟨p, 2, none⟩ (.int .i64 h1) = W at *
    have hp2 : W.heap[p]? = some (.cells #[.slice (some ⟨b, off, none⟩) n cap, .int .i64 (i : Int), .int .i64 h1] 42 (0, 0)) := by simpa using hp1
    have d0 : W.cell? ⟨p, 0, none⟩ = some (.slice (some ⟨b, off, none⟩) n cap) := by simp [World.cell?, hp2]
    have d1 : W.cell? ⟨p, 1, none⟩ = some (.int .i64 (i : Int)) := by simp [World.cell?, hp2]
    have d2 : W.cell? ⟨p, 2, none⟩ = some (.int .i64 h1) := by simp [World.cell?, hp2]
    have g1 : W.frozen? ⟨p, 1, none⟩ = false := by simp [World.frozen?, hp2]
    have Hp2 : Hid (W.heap[p]? = some (.cells #[.slice (some ⟨b, off, none⟩) n cap, .int .i64 (i : Int), .int .i64 h1] 42 (0, 0))) := hp2
    clear hp1 hp2 c0 c1 c2 f1 f2 hcz
    go_quiet (fail)
    go_wp2
    generalize bits BinOp.xor IntKind.i64 (h1 / 8589934592) (h1 / 35184372088832) = y
    have hx1 : 0 ≤ y % 256 := by omega
    have hx2 : y % 256 < 256 := by omega
    generalize y % 256 = x at *
    go_quiet (fail)
    go_wp2
    go_quiet (fail)
    go_wp2
    have hm1 : 0 ≤ (x + (z : Int)) % 256 := by omega
    have hm2 : (x + (z : Int)) % 256 < 256 := by omega
    go_ret
    generalize (x + (z : Int)) % 256 = v at *
    obtain ⟨vn, rfl⟩ := Int.eq_ofNat_of_zero_le hm1
    have hOf : Only p w ((W.setCell ⟨p, 1, none⟩ (.int .i64 ((i : Int) + 1))).drewN 0) := (hO.setCell rfl _).drewN _
    have hpf := set_heap Hp2.out 1 (.int .i64 ((i : Int) + 1))
    refine ⟨vn, by omega, rfl, ⟨hn, Hcode.out.only (Nat.le_refl _) hOf, i + 1, h1, hlt, ?_⟩, hOf⟩
    refine hpf.trans ?_
    simp
  · have hdl : decide ((i : Int) < (n : Int)) = false := by simp; omega
    go_enter Tryd.func30, Tryd.ntmps30
    go_wp2
    generalize wrap64 (wrap64 (h * 6364136223846793005) + 1442695040888963407) = h1
    generalize wrap64 (h * 6364136223846793005) = h0
    have hp1 := set_heap Hp.out 2 (.int .i64 h1)
    have hO : Only p w (w.setCell ⟨p, 2, none⟩ (.int .i64 h1)) := (Only.refl p w).setCell rfl _
    generalize w.setCell ⟨p, 2, none⟩ (.int .i64 h1) = W at *
    have hp2 : W.heap[p]? = some (.cells #[.slice a n cap, .int .i64 (i : Int), .int .i64 h1] 42 (0, 0)) := by simpa using hp1
    have d0 : W.cell? ⟨p, 0, none⟩ = some (.slice a n cap) := by simp [World.cell?, hp2]
    have d1 : W.cell? ⟨p, 1, none⟩ = some (.int .i64 (i : Int)) := by simp [World.cell?, hp2]
    have d2 : W.cell? ⟨p, 2, none⟩ = some (.int .i64 h1) := by simp [World.cell?, hp2]
    have Hp2 : Hid (W.heap[p]? = some (.cells #[.slice a n cap, .int .i64 (i : Int), .int .i64 h1] 42 (0, 0))) := hp2
    clear hp1 hp2 c0 c1 c2 f1 f2 hcode
    go_quiet (fail)
    go_wp2
    generalize bits BinOp.xor IntKind.i64 (h1 / 8589934592) (h1 / 35184372088832) = y
    have hx1 : 0 ≤ y % 256 := by omega
    have hx2 : y % 256 < 256 := by omega
    generalize y % 256 = x at *
    go_quiet (fail)
    go_wp2
    go_ret
    obtain ⟨vn, rfl⟩ := Int.eq_ofNat_of_zero_le hx1
    have hOf : Only p w (W.drewN 0) := hO.drewN _
    exact ⟨vn, by omega, rfl, ⟨hn, Hcode.out.only (Nat.le_refl _) hOf, i, h1, hi, Hp2.out⟩, hOf⟩

end Go.Proofs.YthikgkhnhbaccaaDoor.Sg
