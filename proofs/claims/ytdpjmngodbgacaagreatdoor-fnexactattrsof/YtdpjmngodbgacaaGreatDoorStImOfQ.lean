/- The program's NameOf: what checkName tells is asked for with errors.As, sign by sign that is wrong. -/
import Derived.Test.YtdpjmngodbgacaaGreatDoorStImAQ
import Derived.Test.YtdpjmngodbgacaaGreatDoorM09
import Derived.Test.YtdpjmngodbgacaaGreatDoorStSignQ
import Derived.Test.YtdpjmngodbgacaaGreatDoorGBuild
import Derived.Test.YtdpjmngodbgacaaGreatDoorSgTextIQ
namespace Go.Proofs.YtdpjmngodbgacaaGreatDoor.Sg
open Go.ChangeShapes Go.WideShapes Go.ChangeAt Go.RowKit

theorem namesZ_run (zs : List Int) (f : Nat) : ∀ d, f + d ≤ zs.length → (∀ k, f ≤ k → k < f + d → stayAt zs k = true) → namesZ true (zs.take (f + d)) = namesZ true (zs.take f) ++ (zs.drop f).take d
  | 0, _, _ => by simp
  | d + 1, h, hs => by
    have hlt : f + d < zs.length := by omega
    rw [show f + (d + 1) = f + d + 1 by omega, namesZ_take zs (f + d) hlt, namesZ_run zs f d (by omega) fun k h1 h2 => hs k h1 (by omega)]
    have h1 := hs (f + d) (by omega) (by omega)
    unfold stayAt at h1
    unfold strictZ
    rw [if_pos h1, List.append_assoc]
    congr 1
    have hl : d < (zs.drop f).length := by rw [List.length_drop]; omega
    rw [List.take_succ_eq_append_getElem hl]
    congr 1
    rw [List.getElem_drop, List.getD_eq_getElem?_getD, List.getElem?_eq_getElem hlt]
    rfl
theorem namesZ_wrong (zs : List Int) (m : Nat) (h : m < zs.length) (hs : stayAt zs m = false) : namesZ true (zs.take (m + 1)) = namesZ true (zs.take m) ++ (85 :: sixZ (zs.getD m 0).toNat) := by
  rw [namesZ_take zs m h]
  unfold stayAt at hs
  unfold strictZ
  rw [if_neg (by rw [hs]; decide)]

theorem Ints.cut {w : World} {g o : Nat} {zs : List Int} (h : Ints w (some ⟨g, o, none⟩) zs) (f d : Nat) (hd : f + d ≤ zs.length) : Ints w (some ⟨g, o + f, none⟩) ((zs.drop f).take d) := by
  rcases h with h | ⟨g', o', ha, hlt, hc⟩
  · subst h
    left
    simp
  · cases ha
    refine .inr ⟨g, o + f, rfl, hlt, fun i hi => ?_⟩
    have hid : i < d := by rw [List.length_take] at hi; omega
    have h1 := hc (f + i) (by omega)
    rw [show o + f + i = o + (f + i) by omega, h1]
    rw [List.getD_eq_getElem?_getD, List.getD_eq_getElem?_getD, List.getElem?_take_of_lt hid, List.getElem?_drop]

/-- What NameOf holds in memory: the builder with these bytes, and the error's place. -/
structure NmB (w1 wr : World) (l : List UInt8) : Prop where
  bld : Lib.IsBuilderF 54 5 w1.heap.size w1.heap.size (Lib.byteCells l) wr
  tgt : ∃ old, wr.heap[w1.heap.size + 1]? = some (.cells #[old] 56)
  bel : Below w1.heap.size w1 wr

theorem NmB.new (w1 : World) : NmB w1 ((w1.alloc (.cells #[.pointer none, .slice none 0 0] 54)).alloc (.cells #[.int .i64 0] 56)) [] := by
  refine ⟨?_, ⟨.int .i64 0, ?_⟩, ?_⟩
  · exact isb_below (Lib.IsBuilderF.of (Lib.fresh_isBuilder 54 5 w1)) ((Below.refl _ _).alloc (Nat.le_refl _) _)
  · have h := heap_alloc_new (w1.alloc (.cells #[.pointer none, .slice none 0 0] 54)) (.cells #[.int .i64 0] 56)
    rw [World.size_alloc] at h
    exact h
  · exact ((Below.refl _ w1).alloc (Nat.le_refl _) _).alloc (by simp) _
theorem NmB.below {w1 wr w' : World} {l : List UInt8} (h : NmB w1 wr l) (hb : Below wr.heap.size wr w') : NmB w1 w' l := by
  obtain ⟨h1, ⟨old, h2⟩, h3⟩ := h
  exact ⟨isb_below h1 hb, ⟨old, (hb.block _ (Array.getElem?_eq_some_iff.1 h2).1).trans h2⟩, h3.trans (hb.mono h3.size)⟩
/-- A builder stays where one block of another kind has turned. -/
theorem isb_but {B b tb : Nat} {bs : List Value} {w w' : World} {c : Array Value} (h : Lib.IsBuilderF 54 5 B b bs w) (ht : w.heap[tb]? = some (.cells c 56)) (hk : ∀ k, k < w.heap.size → k ≠ tb → w'.heap[k]? = w.heap[k]?) : Lib.IsBuilderF 54 5 B b bs w' := by
  have one : ∀ p, Lib.BuilderAtF 54 5 B b p bs w → Lib.BuilderAtF 54 5 B b p bs w' := by
    rintro p ⟨hB, v, hb, ⟨h1, h2⟩, hn⟩
    have hbt : b ≠ tb := by
      rintro rfl
      rw [ht] at hb
      cases hb
    refine ⟨hB, v, (hk b (Array.getElem?_eq_some_iff.1 hb).1 hbt).trans hb, ⟨h1, ?_⟩, hn⟩
    rcases h2 with h2 | ⟨g, cap, cur, fz, h2, h3, h4, h5⟩
    · exact .inl h2
    · have hgt : g ≠ tb := by
        rintro rfl
        rw [ht] at h4
        cases h4
      exact .inr ⟨g, cap, cur, fz, h2, h3, (hk g (Array.getElem?_eq_some_iff.1 h4).1 hgt).trans h4, h5⟩
  exact h.elim (fun x => .inl (one _ x)) (fun x => .inr (one _ x))
theorem NmB.hit {w1 wr w' : World} {l : List UInt8} (h : NmB w1 wr l) {m : Int} (ht : w'.heap[w1.heap.size + 1]? = some (.cells #[.int .i64 m] 56)) (hk : ∀ k, k < wr.heap.size → k ≠ w1.heap.size + 1 → w'.heap[k]? = wr.heap[k]?) (hb : Below w1.heap.size wr w') : NmB w1 w' l := by
  obtain ⟨h1, ⟨old, h2⟩, h3⟩ := h
  exact ⟨isb_but h1 h2 hk, ⟨_, ht⟩, h3.trans hb⟩
theorem NmB.lt {w1 wr : World} {l : List UInt8} (h : NmB w1 wr l) : w1.heap.size + 1 < wr.heap.size := by
  obtain ⟨_, ⟨old, h2⟩, _⟩ := h
  exact (Array.getElem?_eq_some_iff.1 h2).1

/-- One text more; the error's place stays. -/
theorem nmWrite (w1 wr : World) (l : List UInt8) (s : ByteArray) (v : Value) (h : NmB w1 wr l) (ht : wr.heap[w1.heap.size + 1]? = some (.cells #[v] 56)) (hlen : l.length + s.size ≤ 140737488355328) :
    Calls Tryz.prog 36 #[.pointer (some ⟨w1.heap.size, 0, none⟩), .string s] wr fun e w' => e = .returned (.tuple #[.int .i64 s.size, .nilIface]) ∧ NmB w1 w' (l ++ s.data.toList) ∧ w'.heap[w1.heap.size + 1]? = some (.cells #[v] 56) := by
  obtain ⟨h1, _, h3⟩ := h
  refine (writeString w1.heap.size w1.heap.size (Lib.byteCells l) s wr h1 (by rw [Lib.byteCells_length]; exact hlen) h3.size).mono ?_
  rintro e w' ⟨rfl, h4, h5, h6⟩
  have h7 := h6 _ _ ht (by intro e; have := Option.some.inj e; omega) (by intro c' fz e; cases e)
  have e2 : Lib.byteCells l ++ Lib.strCells s = Lib.byteCells (l ++ s.data.toList) := by simp [Lib.byteCells, Lib.strCells]
  rw [e2] at h4
  exact ⟨rfl, ⟨.inr h4, ⟨v, h7⟩, h3.trans h5⟩, h7⟩

/-- What NameOf reads of the world. -/
def ErrT (w : World) : Prop := w.cell? ⟨0, 0, none⟩ = some (.iface 107 (.agg #[.pointer (some ⟨8, 59, none⟩)]))
def NmT (w : World) : Prop := Lib.Utf8Tabs 1 2 w ∧ D64 w ∧ ErrT w
theorem ErrT.lt {w : World} (h : ErrT w) : 0 < w.heap.size := by
  unfold ErrT at h
  rcases Nat.lt_or_ge 0 w.heap.size with h' | h'
  · exact h'
  · simp [World.cell?, Array.getElem?_eq_none h'] at h
theorem NmT.below {w w' : World} (h : NmT w) (hb : Below w.heap.size w w') : NmT w' :=
  ⟨Utf8Tabs_below h.1 hb, h.2.1.below h.2.1.lt hb, (hb.cell (by exact h.2.2.lt)).trans h.2.2⟩

end Go.Proofs.YtdpjmngodbgacaaGreatDoor.Sg
