/- The program's writer: texts are put behind what is written. -/
import Derived.Test.YtkngdlbedelgnaaGreatDoorMAG11
import Derived.Test.YtkngdlbedelgnaaGreatDoorMAG01
namespace Go.Proofs.YtkngdlbedelgnaaGreatDoor.Sg
open Go.ChangeShapes Go.WideShapes Go.ChangeAt Go.RowKit

/-- A builder in block b, of which so much is written; all of it lies from block B on. -/
def Bl (B b : Nat) (acc : List UInt8) (w : World) : Prop := Lib.IsBuilderF 51 5 B b (Lib.byteCells acc) w
theorem Bl.block {B b : Nat} {acc : List UInt8} {w : World} (h : Bl B b acc w) : B ≤ b ∧ ∃ c, w.heap[b]? = some (.cells c 51 (0, 0)) := by
  rcases h with ⟨h1, v, h2, _⟩ | ⟨h1, v, h2, _⟩
  · exact ⟨h1, _, h2⟩
  · exact ⟨h1, _, h2⟩
theorem Bl.below {B b : Nat} {acc : List UInt8} {w w' : World} (h : Bl B b acc w) (hb : Below w.heap.size w w') : Bl B b acc w' := h.imp (fun h => at_below h hb) (fun h => at_below h hb)
/-- What is kept while something is written. -/
structure Kp (B b : Nat) (w w' : World) : Prop where
  bel : Below B w w'
  oth : Lib.OthersKept 5 (some b) w w'
theorem Kp.refl (B b : Nat) (w : World) : Kp B b w w := ⟨Below.refl _ _, Lib.OthersKept.refl _ _ _⟩
theorem Kp.trans {B b : Nat} {w w' w'' : World} (h : Kp B b w w') (k : Kp B b w' w'') : Kp B b w w'' := ⟨h.bel.trans k.bel, h.oth.trans k.oth⟩
theorem Kp.of {B b : Nat} {w w' : World} (h : Below w.heap.size w w') (hB : B ≤ w.heap.size) : Kp B b w w' :=
  ⟨h.mono hB, fun k _ hk _ _ => (h.block k (Array.getElem?_eq_some_iff.1 hk).1).trans hk⟩
theorem Kp.size {B b : Nat} {w w' : World} (h : Kp B b w w') : w.heap.size ≤ w'.heap.size := h.bel.size
theorem Kp.obj {B b k : Nat} {w w' : World} {c : Array Value} {t : TypeId} {f : Nat × Nat} (h : Kp B b w w') (hk : w.heap[k]? = some (.cells c t f)) (ht : t ≠ 5) (hb : k ≠ b) : w'.heap[k]? = some (.cells c t f) :=
  h.oth k _ hk (fun e => hb (Option.some.inj e)) (fun c' f' e => ht (by cases e; rfl))
theorem cell_in {w : World} {k : Nat} {c : Array Value} {t : TypeId} {f : Nat × Nat} (h : w.heap[k]? = some (.cells c t f)) (i : Nat) : w.cell? ⟨k, i, none⟩ = c[i]? := by
  rw [Lib.cell_of_heap h]
def catB (ps : List ByteArray) : List UInt8 := ps.flatMap fun p => p.data.toList
theorem catB_take (ps : List ByteArray) (k : Nat) (h : k < ps.length) : catB (ps.take (k + 1)) = catB (ps.take k) ++ (ps[k]'h).data.toList := by
  unfold catB
  rw [List.take_succ_eq_append_getElem h, List.flatMap_append, List.flatMap_cons, List.flatMap_nil, List.append_nil]
theorem catB_le (ps : List ByteArray) (k : Nat) : (catB (ps.take k)).length ≤ (catB ps).length := by
  have e : catB ps = catB (ps.take k) ++ catB (ps.drop k) := by
    unfold catB
    rw [← List.flatMap_append, List.take_append_drop]
  rw [e, List.length_append]
  omega
theorem catB_at (ps : List ByteArray) (k : Nat) (h : k < ps.length) : (catB (ps.take k)).length + (ps[k]'h).size ≤ (catB ps).length := by
  have h1 := catB_le ps (k + 1)
  rw [catB_take ps k h, List.length_append] at h1
  exact h1
theorem byteCells_app (a : List UInt8) (s : ByteArray) : Lib.byteCells (a ++ s.data.toList) = Lib.byteCells a ++ Lib.strCells s := by simp [Lib.byteCells, Lib.strCells]

set_option maxHeartbeats 2000000 in
theorem implPut (B b g cap : Nat) (acc : List UInt8) (ps : List ByteArray) (about : Int) (w : World) (hb : Bl B b acc w) (hB : B ≤ w.heap.size) (hg : w.heap[g]? = some (.cells (ps.map Value.string).toArray 9 (0, 0))) (hsz : acc.length + (catB ps).length ≤ 1099511627776) (hn : ps.length ≤ 16) :
    Calls Tryz.prog 22 #[.agg #[.pointer (some ⟨b, 0, none⟩), .int .i64 about], .slice (some ⟨g, 0, none⟩) ps.length cap] w fun e w' => e = .returned (.tuple #[]) ∧ Bl B b (acc ++ catB ps) w' ∧ Kp B b w w' := by
  have bA := (Below.refl w.heap.size w).alloc (Nat.le_refl _) (.cells #[.pointer (some ⟨b, 0, none⟩), .int .i64 about] 53)
  have HB1 : Hid (Bl B b acc (w.alloc (.cells #[.pointer (some ⟨b, 0, none⟩), .int .i64 about] 53))) := hb.below bA
  have HK1 : Hid (Kp B b w (w.alloc (.cells #[.pointer (some ⟨b, 0, none⟩), .int .i64 about] 53))) := Kp.of bA hB
  have hgb : g ≠ b := by
    obtain ⟨_, c, hc⟩ := hb.block
    rintro rfl
    rw [hg] at hc
    cases hc
  have hxb : w.heap.size ≠ b := by
    obtain ⟨_, c, hc⟩ := hb.block
    have := (Array.getElem?_eq_some_iff.1 hc).1
    omega
  have HX : Hid ((w.alloc (.cells #[.pointer (some ⟨b, 0, none⟩), .int .i64 about] 53)).heap[w.heap.size]? = some (.cells #[.pointer (some ⟨b, 0, none⟩), .int .i64 about] 53 (0, 0))) := by
    show (w.heap.push _)[w.heap.size]? = _
    simp
  have HG : Hid ((w.alloc (.cells #[.pointer (some ⟨b, 0, none⟩), .int .i64 about] 53)).heap[g]? = some (.cells (ps.map Value.string).toArray 9 (0, 0))) := HK1.out.obj hg (by decide) hgb
  obtain ⟨n, Hn⟩ : ∃ n, Hid (ps.length = n) := ⟨_, rfl⟩
  rw [Hn.out] at hn ⊢
  clear bA hb hg
  go_enter Tryz.func22, Tryz.ntmps22
  go_upto_region 1 with fail
  generalize w.alloc (.cells #[.pointer (some ⟨b, 0, none⟩), .int .i64 about] 53) = w1 at *
  go_wp2_with fail
  go_loopw [8] (fun iv wr => ∃ k : Nat, k ≤ n ∧ iv = .int .i64 (k : Int) ∧ Hid (Bl B b (acc ++ catB (ps.take k)) wr) ∧ Hid (Kp B b w1 wr)) (fun iv _ => n - (intOf iv).toNat)
  case atStart =>
    refine ⟨0, Nat.zero_le _, rfl, ?_, Kp.refl _ _ _⟩
    show Bl _ _ _ _
    rw [List.take_zero, show catB [] = [] from rfl, List.append_nil]
    exact HB1.out
  case round =>
    obtain ⟨k, hk, rfl, HB, HK⟩ := hrel
    by_cases hlt : k < n
    · have hkl : k < ps.length := by rw [Hn.out]; exact hlt
      have c0 := cell_in (HK.out.obj HX.out (by decide) hxb) 0
      have ck := cell_in (HK.out.obj HG.out (by decide) hgb) k
      simp at c0
      rw [List.getElem?_toArray, List.getElem?_map, List.getElem?_eq_getElem hkl] at ck
      simp only [Option.map_some] at ck
      have hlen := catB_at ps k hkl
      have hW := writeString B b (Lib.byteCells (acc ++ catB (ps.take k))) (ps[k]'hkl) wr HB.out (by rw [Lib.byteCells_length, List.length_append]; omega) (Nat.le_trans hB (Nat.le_trans HK1.out.size HK.out.size))
      have Hst : Hid (Lib.byteCells (acc ++ catB (ps.take (k + 1))) = Lib.byteCells (acc ++ catB (ps.take k)) ++ Lib.strCells (ps[k]'hkl)) := by
        show _ = _
        rw [catB_take ps k hkl, ← List.append_assoc, byteCells_app]
      generalize ps[k]'hkl = s at *
      have k0 : (0 : Int) ≤ (k : Int) := by omega
      have k1 : (k : Int) < (n : Int) := by omega
      clear HB hlen
      go_wp2_with fail
      refine hW.mono ?_
      rintro e w2 ⟨rfl, hI2, hb2, ho2⟩
      have HB2 : Hid (Bl B b (acc ++ catB (ps.take (k + 1))) w2) := by
        show Lib.IsBuilderF _ _ _ _ _ _
        rw [Hst.out]
        exact .inr hI2
      have HK2 : Hid (Kp B b w1 w2) := HK.out.trans ⟨hb2, ho2⟩
      clear hW hI2 hb2 ho2 HK c0 ck Hst
      go_wp2_with fail
      go_roundw
      case rel => exact ⟨k + 1, by omega, by go_num, HB2, HK2⟩
      case measure => simp [intOf]; omega
    · have g0 : decide ((k : Int) < (n : Int)) = false := decide_eq_false (by omega)
      have HBn : Hid (Bl B b (acc ++ catB ps) wr) := by
        have h := HB.out
        rw [List.take_of_length_le (by have := Hn.out; omega)] at h
        exact h
      have HKn : Hid (Kp B b w wr) := HK1.out.trans HK.out
      clear HB HK
      go_wp2_with fail
      exact bodyPost_end (results_none rfl _ _ _) rfl ⟨rfl, HBn.out, HKn.out⟩

end Go.Proofs.YtkngdlbedelgnaaGreatDoor.Sg
