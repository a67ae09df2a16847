/- What is shown: a builder at the head of a struct, and the parts of a line behind it. -/
import Derived.Test.YtploagieecepfaaEwPut
import Derived.Test.YtploagieecepfaaShP
import Derived.Deep.RegionHeld3
import Derived.Lib.SliceRun
namespace Go.Proofs.Ytploagieecepfaa.Sg
open Go.ChangeShapes Go.WideShapes Go.ChangeAt Go.RowKit

/-- What this dump says of the struct's type. -/
theorem shown_lies : liesAt Try.prog Try.prog.depth 53 (8 / Try.prog.cellsOf 53) 0 40 1 = true := by kernel_rfl

/-- In block b lie a builder with its own mark p, of which so much is written, and the parts of a line. -/
def ShA (B b : Nat) (p : Value) (acc : List UInt8) (ln : List ByteArray) (w : World) : Prop :=
  B ≤ b ∧ ∃ v, w.heap[b]? = some (.cells (p :: v :: ln.map Value.string).toArray 53 (0, 0)) ∧ w.ownsRowF B 5 1 v acc.length (Lib.byteCells acc)
def ShB (B b : Nat) (acc : List UInt8) (ln : List ByteArray) (w : World) : Prop := ShA B b (.pointer none) acc ln w ∨ ShA B b (.pointer (some ⟨b, 0, none⟩)) acc ln w
def noLine : List ByteArray := [⟨#[]⟩, ⟨#[]⟩, ⟨#[]⟩, ⟨#[]⟩, ⟨#[]⟩, ⟨#[]⟩]

theorem set_grows (w : World) (b k : Nat) (x : Value) : w.grownBy (w.setCell ⟨b, k, none⟩ x) (some b) :=
  ⟨rfl, rfl, rfl, by simp [World.setCell], fun j _ hj => Below.heap_setCell _ _ _ _ (fun e => hj (by rw [e]))⟩
theorem ShA.cell {B b : Nat} {p : Value} {acc : List UInt8} {ln : List ByteArray} {w : World} (h : ShA B b p acc ln w) (k : Nat) (hk : k < ln.length) : w.cell? ⟨b, 2 + k, none⟩ = some (.string (ln[k]'hk)) := by
  obtain ⟨_, v, hb, _⟩ := h
  rw [cell_in hb, List.getElem?_toArray, show 2 + k = k + 2 by omega, List.getElem?_cons_succ, List.getElem?_cons_succ, List.getElem?_map, List.getElem?_eq_getElem hk]
  rfl
theorem ShA.notFrozen {B b : Nat} {p : Value} {acc : List UInt8} {ln : List ByteArray} {w : World} (h : ShA B b p acc ln w) (k : Nat) : w.frozen? ⟨b, k, none⟩ = false := by
  obtain ⟨_, v, hb, _⟩ := h
  exact frozen_in hb k
theorem ShA.lt {B b : Nat} {p : Value} {acc : List UInt8} {ln : List ByteArray} {w : World} (h : ShA B b p acc ln w) : b < w.heap.size := by
  obtain ⟨_, v, hb, _⟩ := h
  exact (Array.getElem?_eq_some_iff.1 hb).1
theorem ShA.set {B b : Nat} {p : Value} {acc : List UInt8} {ln : List ByteArray} {w : World} (h : ShA B b p acc ln w) (k : Nat) (s : ByteArray) : ShA B b p acc (ln.set k s) (w.setCell ⟨b, 2 + k, none⟩ (.string s)) := by
  obtain ⟨hB, v, hb, ho⟩ := h
  have hne := Lib.ownBlock_neF ho hb (by decide)
  refine ⟨hB, v, ?_, ho.kept (row := some b) (set_grows _ _ _ _) (Or.inr hne)⟩
  have : (w.setCell ⟨b, 2 + k, none⟩ (.string s)).heap[b]? = some (.cells ((p :: v :: ln.map Value.string).toArray.setIfInBounds (2 + k) (.string s)) 53 (0, 0)) := by
    simp [World.setCell, Array.getElem?_modify, hb]
  rw [this]
  congr 2
  rw [show 2 + k = k + 2 by omega]
  simp [List.setIfInBounds_toArray, List.map_set]
theorem ShA.below {B b : Nat} {p : Value} {acc : List UInt8} {ln : List ByteArray} {w w' : World} (h : ShA B b p acc ln w) (hb : Below w.heap.size w w') : ShA B b p acc ln w' := by
  have hlt := h.lt
  obtain ⟨hB, v, hk, ho⟩ := h
  exact ⟨hB, v, (hb.block b hlt).trans hk, ownsF_below ho hb⟩
theorem ShB.cell {B b : Nat} {acc : List UInt8} {ln : List ByteArray} {w : World} (h : ShB B b acc ln w) (k : Nat) (hk : k < ln.length) : w.cell? ⟨b, 2 + k, none⟩ = some (.string (ln[k]'hk)) := h.elim (fun h => h.cell k hk) (fun h => h.cell k hk)
theorem ShB.notFrozen {B b : Nat} {acc : List UInt8} {ln : List ByteArray} {w : World} (h : ShB B b acc ln w) (k : Nat) : w.frozen? ⟨b, k, none⟩ = false := h.elim (fun h => h.notFrozen k) (fun h => h.notFrozen k)
theorem ShB.lt {B b : Nat} {acc : List UInt8} {ln : List ByteArray} {w : World} (h : ShB B b acc ln w) : b < w.heap.size := h.elim (fun h => h.lt) (fun h => h.lt)
theorem ShB.base {B b : Nat} {acc : List UInt8} {ln : List ByteArray} {w : World} (h : ShB B b acc ln w) : B ≤ b := h.elim (fun h => h.1) (fun h => h.1)
theorem ShB.set {B b : Nat} {acc : List UInt8} {ln : List ByteArray} {w : World} (h : ShB B b acc ln w) (k : Nat) (s : ByteArray) : ShB B b acc (ln.set k s) (w.setCell ⟨b, 2 + k, none⟩ (.string s)) := h.imp (fun h => h.set k s) (fun h => h.set k s)
theorem ShB.below {B b : Nat} {acc : List UInt8} {ln : List ByteArray} {w w' : World} (h : ShB B b acc ln w) (hb : Below w.heap.size w w') : ShB B b acc ln w' := h.imp (fun h => h.below hb) (fun h => h.below hb)
theorem ShB.some {B b : Nat} {acc : List UInt8} {ln : List ByteArray} {w : World} (h : ShB B b acc ln w) (k : Nat) (hk : k < ln.length) : (w.cell? ⟨b, 2 + k, none⟩).isSome = true := by rw [h.cell k hk]; rfl
/-- A cell of block b turns. -/
theorem Kp.set {B b : Nat} {w w' : World} (h : Kp B b w w') (hB : B ≤ b) (k : Nat) (x : Value) : Kp B b w (w'.setCell ⟨b, k, none⟩ x) :=
  ⟨h.bel.setCell (p := ⟨b, k, none⟩) hB _, h.oth.setCell ⟨b, k, none⟩ rfl _⟩
/-- A new one. -/
theorem shown_new (w : World) : ShB w.heap.size w.heap.size [] noLine (w.alloc (.cells #[.pointer none, .slice none 0 0, .string ⟨#[]⟩, .string ⟨#[]⟩, .string ⟨#[]⟩, .string ⟨#[]⟩, .string ⟨#[]⟩, .string ⟨#[]⟩] 53)) :=
  .inl ⟨Nat.le_refl _, .slice none 0 0, heap_alloc_new w _, World.ownsRowF_nil _ _ _ _⟩

set_option maxHeartbeats 1000000 in
set_option maxRecDepth 100000 in
/-- A new builder at the head of the struct is marked with its own address. -/
theorem headFresh (b : Nat) (w : World) (h0 : w.cell? ⟨b, 0, none⟩ = some (.pointer none)) (hsh : w.shape? b = some (53, 8)) (hfz : w.frozen? ⟨b, 0, none⟩ = false) :
    Calls Try.prog 26 #[.pointer (some ⟨b, 0, none⟩)] w fun e w' => e = .returned (.tuple #[]) ∧ w' = w.setCell ⟨b, 0, none⟩ (.pointer (some ⟨b, 0, none⟩)) := by
  obtain ⟨j, hj, hjs⟩ := Option.map_eq_some_iff.1 bld_size
  go_enter Try.func26, Try.ntmps26
  go_wp2
  rw [Lib.run_to_unsafe w ⟨b, 0, none⟩ Try.underlying37 Try.underlying76 hj (by rw [hjs]; decide) hsh (Nat.zero_lt_succ 7)]
  simp only [Result.andThen]
  rw [Oper.upon_value]
  go_wp2
  rw [run_callFunc_extern Try.func36 (by kernel_rfl) (by kernel_rfl) (by kernel_rfl) (e := Extern.AbiNoEscape.same) (by kernel_rfl)]
  rw [Lib.run_noEscape]
  simp only [Result.andThen]
  rw [Oper.upon_value]
  go_wp2
  rw [Lib.run_from_unsafe w ⟨b, 0, none⟩ Try.underlying76 Try.underlying37 hj hsh shown_lies]
  simp only [Result.andThen]
  rw [Oper.upon_value]
  go_wp2
  go_end0
  exact ⟨rfl, rfl⟩

theorem headAny (B b : Nat) (acc : List UInt8) (ln : List ByteArray) (w : World) (h : ShB B b acc ln w) (hn : ln.length = 6) :
    Calls Try.prog 26 #[.pointer (some ⟨b, 0, none⟩)] w fun e w' => e = .returned (.tuple #[]) ∧ ShA B b (.pointer (some ⟨b, 0, none⟩)) acc ln w' ∧ Kp B b w w' := by
  rcases h with h | h
  · obtain ⟨hB, v, hb, ho⟩ := h
    have hne := Lib.ownBlock_neF ho hb (by decide)
    refine (headFresh b w (by rw [cell_in hb]; rfl) (by simp [World.shape?, hb, hn]) (frozen_in hb 0)).mono ?_
    rintro e w' ⟨rfl, rfl⟩
    refine ⟨rfl, ⟨hB, v, ?_, ho.kept (row := some b) (set_grows _ _ _ _) (Or.inr hne)⟩, (Kp.refl B b w).set hB 0 _⟩
    simp [World.setCell, Array.getElem?_modify, hb]
  · have h0 := h
    obtain ⟨hB, v, hb, ho⟩ := h
    refine (checkUsed b w (by rw [cell_in hb]; rfl)).mono ?_
    rintro e w' ⟨rfl, rfl⟩
    exact ⟨rfl, h0, Kp.refl B b _⟩

set_option maxHeartbeats 2000000 in
set_option maxRecDepth 100000 in
theorem writeS (B b : Nat) (acc : List UInt8) (ln : List ByteArray) (s : ByteArray) (w : World) (h : ShB B b acc ln w) (hn : ln.length = 6) (hlen : acc.length + s.size ≤ 140737488355328) (hBw : B ≤ w.heap.size) :
    Calls Try.prog 15 #[.pointer (some ⟨b, 0, none⟩), .string s] w fun e w' => e = .returned (.tuple #[.int .i64 s.size, .nilIface]) ∧ ShB B b (acc ++ s.data.toList) ln w' ∧ Kp B b w w' := by
  obtain ⟨i0, hi, hz0, hz1, hz2⟩ := info_parts bld_info
  go_enter Try.func15, Try.ntmps15
  go_wp2_with fail
  refine (headAny B b acc ln _ h hn).mono ?_
  rintro e w1 ⟨rfl, ⟨hB, v, hbk, hown⟩, hk1⟩
  have hne := Lib.ownBlock_neF hown hbk (by decide)
  have hlt : b < w1.heap.size := (Array.getElem?_eq_some_iff.1 hbk).1
  have c0 : w1.cell? ⟨b, 0, none⟩ = some (.pointer (some ⟨b, 0, none⟩)) := by rw [cell_in hbk]; rfl
  have c1 : w1.cell? ⟨b, 1, none⟩ = some v := by rw [cell_in hbk]; rfl
  have hk1s := hk1.size
  go_wp2_with (at_builtin; refine Lib.wpList_append_own_stringF _ rfl _ _ 38 9 rfl B 5 i0 Try.underlying38 Try.underlying9 hi hz0 hz1 hz2 _ _ _ rfl hown s rfl ?c3 ?c4 ?c5 ?_)
  case c3 => unfold maxLen; omega
  case c4 => omega
  case c5 => omega
  intro v' w2 hown' hgrow _
  have hb2 : w2.heap[b]? = some (.cells (.pointer (some ⟨b, 0, none⟩) :: v :: ln.map Value.string).toArray 53 (0, 0)) := (hgrow.block b hlt (fun e => hne e.symm)).trans hbk
  have d1 : w2.cell? ⟨b, 1, none⟩ = some v := by rw [cell_in hb2]; rfl
  have f1 : w2.frozen? ⟨b, 1, none⟩ = false := frozen_in hb2 1
  obtain ⟨ao, n', cap, rfl⟩ : ∃ ao n' cap, v' = .slice ao n' cap := by
    rcases hown'.2 with ⟨hv, _⟩ | ⟨g, cap, cur, fz, hv, _⟩
    · exact ⟨_, _, _, hv⟩
    · exact ⟨_, _, _, hv⟩
  have hne2 := Lib.ownBlock_neF hown' hb2 (by decide)
  have hK : Hid (Kp B b w (w2.setCell ⟨b, 1, none⟩ (.slice ao n' cap))) := hk1.trans ⟨((Below.refl B w1).grown hgrow (by omega) (fun k hk => (hown.lt k hk).1)).setCell (p := ⟨b, 1, none⟩) hB _, ((Lib.OthersKept.refl _ _ w1).grown hgrow (Lib.ownsRowF_kind hown)).setCell ⟨b, 1, none⟩ rfl _⟩
  have hS : Hid (ShA B b (.pointer (some ⟨b, 0, none⟩)) (acc ++ s.data.toList) ln (w2.setCell ⟨b, 1, none⟩ (.slice ao n' cap))) := by
    refine ⟨hB, .slice ao n' cap, ?_, World.ownsRowF.kept (row := some b) ?_ (set_grows _ _ _ _) (Or.inr hne2)⟩
    · simp [World.setCell, Array.getElem?_modify, hb2]
    · have e1 : (acc ++ s.data.toList).length = acc.length + s.size := by rw [List.length_append, Array.length_toList]; rfl
      rw [byteCells_app, e1]
      exact hown'
  clear hi hz0 hz1 hz2 hown hown' hgrow hk1 h
  go_wp2
  go_ret2
  exact ⟨rfl, .inr hS.out, hK.out⟩

end Go.Proofs.Ytploagieecepfaa.Sg
