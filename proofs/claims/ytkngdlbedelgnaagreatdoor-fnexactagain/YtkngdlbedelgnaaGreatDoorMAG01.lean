/- What is kept but for some blocks. Contract of the laws' marks of texts. Contract of the laws' attributes compared: one with itself. Contract of the laws' slices of attributes compared: one with itself. Contracts of the laws' marks of texts, and of attributes compared. Elements that a call owns: each row in a block of its own. Texts in memory, one behind the other. What is escaped, and the names of the spaces, plain. No program in it. What is escaped is read as it was, plain. No program in it. -/
import Derived.Test.YtkngdlbedelgnaaGreatDoorMAG06
import Derived.Below
import Derived.Test.YtkngdlbedelgnaaGreatDoorMAG02
import Derived.Deep.Cut
import Derived.Deep.CutRange
import Derived.Deep.RegionHeld3
import Derived.Test.YtkngdlbedelgnaaGreatDoorElToS
import Derived.Test.YtkngdlbedelgnaaGreatDoorRdMem
import Derived.Test.YtkngdlbedelgnaaGreatDoorMAG03
import Derived.Test.YtkngdlbedelgnaaGreatDoorXmP
namespace Go.Proofs.YtkngdlbedelgnaaGreatDoor.Sg
open Go.ChangeShapes Go.WideShapes Go.ChangeAt Go.RowKit

/-- Of what was there nothing has turned but blocks that are S. -/
structure Kb (w w' : World) (S : Nat → Prop) : Prop where
  os : w'.os = w.os
  tape : w'.tape = w.tape
  output : w'.output = w.output
  size : w.heap.size ≤ w'.heap.size
  block : ∀ k, k < w.heap.size → ¬ S k → w'.heap[k]? = w.heap[k]?
theorem Kb.trans {a b c : World} {S : Nat → Prop} (h : Kb a b S) (k : Kb b c S) : Kb a c S :=
  ⟨k.os.trans h.os, k.tape.trans h.tape, k.output.trans h.output, Nat.le_trans h.size k.size, fun i hi hS => (k.block i (Nat.lt_of_lt_of_le hi h.size) hS).trans (h.block i hi hS)⟩
theorem Kb.of_below {a b : World} (h : Below a.heap.size a b) (S : Nat → Prop) : Kb a b S := ⟨h.os, h.tape, h.output, h.size, fun i hi _ => h.block i hi⟩
theorem Kb.of_grown {a b : World} {r : Option Nat} (h : a.grownBy b r) {S : Nat → Prop} (hS : ∀ k, r = some k → S k) : Kb a b S :=
  ⟨h.os, h.tape, h.output, h.size, fun i hi hn => h.block i hi fun e => hn (hS i e.symm)⟩
/-- A row that is none of these blocks is kept. -/
theorem Kb.owns {a b : World} {S : Nat → Prop} (h : Kb a b S) {base : Nat} {e : TypeId} {size : Nat} {v : Value} {n : Nat} {xs : List Value} (ho : a.ownsRow base e size v n xs) (hne : ∀ k, v.ownBlock = some k → ¬ S k) : b.ownsRow base e size v n xs := by
  obtain ⟨h1, h2⟩ := ho
  refine ⟨h1, ?_⟩
  rcases h2 with h2 | ⟨g, cap, cur, rfl, h3, h4, h5⟩
  · exact .inl h2
  · exact .inr ⟨g, cap, cur, rfl, h3, (h.block g (Array.getElem?_eq_some_iff.1 h4).1 (hne g rfl)).trans h4, h5⟩

end Go.Proofs.YtkngdlbedelgnaaGreatDoor.Sg

namespace Go.Proofs.YtkngdlbedelgnaaGreatDoor.Sg
open Go.ChangeShapes Go.WideShapes Go.ChangeAt Go.RowKit

end Go.Proofs.YtkngdlbedelgnaaGreatDoor.Sg

namespace Go.Proofs.YtkngdlbedelgnaaGreatDoor.Sg
open Go.ChangeShapes Go.WideShapes Go.ChangeAt Go.RowKit

end Go.Proofs.YtkngdlbedelgnaaGreatDoor.Sg

namespace Go.Proofs.YtkngdlbedelgnaaGreatDoor.Sg
open Go.ChangeShapes Go.WideShapes Go.ChangeAt Go.RowKit

end Go.Proofs.YtkngdlbedelgnaaGreatDoor.Sg

namespace Go.Proofs.YtkngdlbedelgnaaGreatDoor.Sg
open Go.ChangeShapes Go.WideShapes Go.ChangeAt Go.RowKit

end Go.Proofs.YtkngdlbedelgnaaGreatDoor.Sg

namespace Go.Proofs.YtkngdlbedelgnaaGreatDoor.Sg
open Go.ChangeShapes Go.WideShapes Go.ChangeAt Go.RowKit

abbrev Foot := Nat → Prop
/-- An element as a value, whose attributes are owned, and whose kids are S; all of it in blocks that are F. -/
def ElOwn (S : List ElB → Value → Foot → Prop) (w : World) (B : Nat) : ElB → Value → Foot → Prop
  | .mk kd sp nm ats tx ks, v, F => ∃ av kv Fk, v = .agg #[.int .i64 kd, .int .i64 sp, .string nm, av, .string tx, kv] ∧ w.ownsRow B 68 2 av ats.length (attrCells ats) ∧ (∀ b, av.ownBlock = some b → F b ∧ ¬ Fk b) ∧ S ks kv Fk ∧ ∀ b, Fk b → F b
/-- A row of elements, so deep at most, that is owned: in blocks that are F. -/
def OwnS (w : World) (B : Nat) : Nat → List ElB → Value → Foot → Prop
  | 0, l, v, F => l = [] ∧ w.ownsRow B 39 6 v 0 [] ∧ ∀ b, v.ownBlock = some b → F b
  | n + 1, l, v, F => ∃ (C : List Value) (Fs : Nat → Foot), w.ownsRow B 39 6 v l.length C ∧ (∀ b, v.ownBlock = some b → F b) ∧ (∀ i, i < l.length → ∀ b, Fs i b → F b ∧ v.ownBlock ≠ some b) ∧ (∀ i j, i < l.length → j < l.length → i ≠ j → ∀ b, Fs i b → ¬ Fs j b) ∧ ∀ i (hi : i < l.length), ElOwn (OwnS w B n) w B (l[i]'hi) (sixV C i) (Fs i)

theorem owns_stay {w w' : World} {base : Nat} {e : TypeId} {size : Nat} {v : Value} {n : Nat} {xs : List Value} (ho : w.ownsRow base e size v n xs) (hb : ∀ b, v.ownBlock = some b → b < w.heap.size → w'.heap[b]? = w.heap[b]?) : w'.ownsRow base e size v n xs := by
  obtain ⟨h1, h2⟩ := ho
  refine ⟨h1, ?_⟩
  rcases h2 with h2 | ⟨g, cap, cur, rfl, h3, h4, h5⟩
  · exact .inl h2
  · exact .inr ⟨g, cap, cur, rfl, h3, (hb g rfl (Array.getElem?_eq_some_iff.1 h4).1).trans h4, h5⟩
theorem ElOwn.stay {S S' : List ElB → Value → Foot → Prop} {w w' : World} {B : Nat} {e : ElB} {v : Value} {F : Foot} (h : ElOwn S w B e v F) (hS : ∀ l v F', (∀ b, F' b → F b) → S l v F' → S' l v F') (hb : ∀ b, F b → b < w.heap.size → w'.heap[b]? = w.heap[b]?) : ElOwn S' w' B e v F := by
  obtain ⟨kd, sp, nm, ats, tx, ks⟩ := e
  obtain ⟨av, kv, Fk, rfl, ha, hab, hk, hkf⟩ := h
  exact ⟨av, kv, Fk, rfl, owns_stay ha (fun b h1 h2 => hb b (hab b h1).1 h2), hab, hS _ _ _ hkf hk, hkf⟩
theorem OwnS.stay {B : Nat} : ∀ (n : Nat) {w w' : World} {l : List ElB} {v : Value} {F : Foot}, OwnS w B n l v F → (∀ b, F b → b < w.heap.size → w'.heap[b]? = w.heap[b]?) → OwnS w' B n l v F
  | 0, _, _, _, _, _, ⟨h1, h2, h3⟩, hb => ⟨h1, owns_stay h2 (fun b h4 h5 => hb b (h3 b h4) h5), h3⟩
  | n + 1, _, _, _, _, _, ⟨C, Fs, h1, h2, h3, h4, h5⟩, hb =>
    ⟨C, Fs, owns_stay h1 (fun b h6 h7 => hb b (h2 b h6) h7), h2, h3, h4, fun i hi => (h5 i hi).stay (fun _ _ _ hF hs => OwnS.stay n hs (fun b hb1 hb2 => hb b ((h3 i hi b (hF b hb1)).1) hb2)) (fun b h6 h7 => hb b (h3 i hi b h6).1 h7)⟩
theorem OwnS.up {B : Nat} : ∀ (n : Nat) {w : World} {l : List ElB} {v : Value} {F : Foot}, OwnS w B n l v F → OwnS w B (n + 1) l v F
  | 0, _, _, _, _, ⟨h1, h2, h3⟩ => by
    subst h1
    exact ⟨[], fun _ _ => False, h2, h3, fun i hi => absurd hi (Nat.not_lt_zero _), fun i j hi => absurd hi (Nat.not_lt_zero _), fun i hi => absurd hi (Nat.not_lt_zero _)⟩
  | n + 1, _, _, _, _, ⟨C, Fs, h1, h2, h3, h4, h5⟩ => ⟨C, Fs, h1, h2, h3, h4, fun i hi => (h5 i hi).stay (fun _ _ _ _ hs => OwnS.up n hs) (fun _ _ _ => rfl)⟩
theorem OwnS.ups {B : Nat} {n m : Nat} {w : World} {l : List ElB} {v : Value} {F : Foot} (h : OwnS w B n l v F) (hm : n ≤ m) : OwnS w B m l v F := by
  obtain ⟨d, rfl⟩ := Nat.exists_eq_add_of_le hm
  clear hm
  induction d with
  | zero => exact h
  | succ k ih => exact OwnS.up _ ih
theorem OwnS.nil (w : World) (B n : Nat) (F : Foot) : OwnS w B n [] (.slice none 0 0) F := OwnS.ups (n := 0) ⟨rfl, ⟨rfl, .inl ⟨rfl, rfl⟩⟩, fun _ h => by cases h⟩ (Nat.zero_le _)
theorem OwnS.kids {B : Nat} : ∀ (n : Nat) {w : World} {l : List ElB} {v : Value} {F : Foot}, OwnS w B n l v F → ∃ a c, v = .slice a l.length c ∧ KidsIn (QP (B ≤ ·)) (B ≤ ·) w a l
  | 0, w, l, v, F, ⟨h1, h2, h3⟩ => by
    subst h1
    rcases h2.2 with ⟨rfl, _⟩ | ⟨g, cap, cur, rfl, _⟩
    · exact ⟨none, 0, rfl, .inl rfl⟩
    · exact ⟨_, cap, rfl, .inl rfl⟩
  | n + 1, w, l, v, F, ⟨C, Fs, ho, h2, h3, h4, h5⟩ => by
    have hC : C.length = l.length * 6 := ho.1
    rcases ho.2 with ⟨rfl, h0⟩ | ⟨g, cap, cur, rfl, hg, _⟩
    · have : l = [] := List.eq_nil_of_length_eq_zero h0
      subst this
      exact ⟨none, 0, rfl, .inl rfl⟩
    · refine ⟨some ⟨g, 0, none⟩, cap, rfl, .inr ⟨g, 0, rfl, hg, ElsIn.of fun i hi => ?_⟩⟩
      have cell : ∀ j, j < 6 → w.cell? ⟨g, i * 6 + j, none⟩ = some (C.getD (i * 6 + j) undef) := fun j hj => by
        have hlt : i * 6 + j < l.length * 6 := by omega
        rw [(own_cell ho hlt).1]
        simp [List.getD, show i * 6 + j < C.length by omega]
      have hv : ElV (QP (B ≤ ·)) (B ≤ ·) w (sixV C i) (l[i]'hi) := by
        have h6 := h5 i hi
        generalize l[i]'hi = e0 at h6 ⊢
        obtain ⟨kd, sp, nm, ats, tx, ks⟩ := e0
        obtain ⟨av, kv, Fk, e, ha, hab, hk, hkf⟩ := h6
        obtain ⟨a, c, ek, hkk⟩ := OwnS.kids n hk
        subst ek
        exact ⟨av, a, c, e, QP.of_own ha, hkk⟩
      rw [Nat.zero_add]
      exact ElV.cells hv (cell 0 (by omega)) (cell 1 (by omega)) (cell 2 (by omega)) (cell 3 (by omega)) (cell 4 (by omega)) (cell 5 (by omega))

end Go.Proofs.YtkngdlbedelgnaaGreatDoor.Sg

namespace Go.Proofs.YtkngdlbedelgnaaGreatDoor.Sg
open Go.ChangeShapes Go.WideShapes Go.ChangeAt Go.RowKit

/-- A text of some bytes. -/
def strB (l : List UInt8) : ByteArray := ⟨l.toArray⟩
theorem strB_size (l : List UInt8) : (strB l).size = l.length := by simp [strB, ByteArray.size]
/-- Texts lie one behind the other from a block's beginning. -/
def Texts (w : World) (b : Nat) (ls : List (List UInt8)) : Prop :=
  b < w.heap.size ∧ ∀ k, k < ls.length → w.cell? ⟨b, k, none⟩ = some (.string (strB (ls.getD k [])))

theorem Texts.laid (w : World) (ls : List (List UInt8)) (C : Array Value) (t : TypeId) (hC : C = (ls.map fun l => Value.string (strB l)).toArray) : Texts (w.alloc (.cells C t)) w.heap.size ls := by
  subst hC
  refine ⟨by simp, fun k hk => ?_⟩
  rw [World.cell?_alloc_new, List.getElem?_toArray, List.getElem?_map]
  simp [List.getD, hk]

theorem Texts.below {w w' : World} {b : Nat} {ls : List (List UInt8)} (h : Texts w b ls) {B : Nat} (hB : b < B) (hb : Below B w w') : Texts w' b ls :=
  ⟨Nat.lt_of_lt_of_le h.1 hb.size, fun k hk => (hb.cell hB).trans (h.2 k hk)⟩

end Go.Proofs.YtkngdlbedelgnaaGreatDoor.Sg

namespace Go.Proofs.YtkngdlbedelgnaaGreatDoor.Sg

/-- The bytes that are escaped (in a value), and what stands in their place. -/
def escW : Bool → List UInt8
  | false => [38, 60, 62, 13]
  | true => [38, 60, 62, 13, 34, 9, 10]
def escT : Bool → List (List UInt8)
  | false => [[38, 97, 109, 112, 59], [38, 108, 116, 59], [38, 103, 116, 59], [38, 35, 49, 51, 59]]
  | true => [[38, 97, 109, 112, 59], [38, 108, 116, 59], [38, 103, 116, 59], [38, 35, 49, 51, 59], [38, 113, 117, 111, 116, 59], [38, 35, 57, 59], [38, 35, 49, 48, 59]]
def escL (v : Bool) (l : List UInt8) : List UInt8 := swapL (escW v) (escT v) l
def escS (s : ByteArray) (v : Bool) : ByteArray := strB (escL v s.data.toList)
theorem esc1_length (v : Bool) (b : UInt8) : (swap1 (escW v) (escT v) b).length ≤ 6 := by
  unfold swap1
  split
  · simp
  · rename_i k hk
    have : ∀ v k, (List.getD (escT v) k []).length ≤ 6 := by
      intro v k
      rw [List.getD_eq_getElem?_getD]
      cases h : (escT v)[k]? with
      | none => simp
      | some x =>
        have hm := List.mem_of_getElem? h
        have : ∀ v, ∀ x ∈ escT v, x.length ≤ 6 := by decide
        exact this v x hm
    exact this v k
theorem escL_length (v : Bool) (l : List UInt8) : (escL v l).length ≤ 6 * l.length := by
  unfold escL swapL
  induction l with
  | nil => simp
  | cons b l ih =>
    rw [List.flatMap_cons, List.length_append, List.length_cons]
    have := esc1_length v b
    omega
theorem escS_size (s : ByteArray) (v : Bool) : (escS s v).size ≤ 6 * s.size := by
  unfold escS
  rw [strB_size]
  have := escL_length v s.data.toList
  rw [Array.length_toList] at this
  exact this

/-- The name of a space. -/
def spaceS (n : Int) : ByteArray :=
  if n = 0 then ⟨#[104, 116, 116, 112, 58, 47, 47, 119, 119, 119, 46, 119, 51, 46, 111, 114, 103, 47, 49, 57, 57, 57, 47, 120, 104, 116, 109, 108]⟩
  else if n = 1 then ⟨#[104, 116, 116, 112, 58, 47, 47, 119, 119, 119, 46, 119, 51, 46, 111, 114, 103, 47, 50, 48, 48, 48, 47, 115, 118, 103]⟩
  else if n = 2 then ⟨#[104, 116, 116, 112, 58, 47, 47, 119, 119, 119, 46, 119, 51, 46, 111, 114, 103, 47, 49, 57, 57, 56, 47, 77, 97, 116, 104, 47, 77, 97, 116, 104, 77, 76]⟩
  else ⟨#[]⟩

end Go.Proofs.YtkngdlbedelgnaaGreatDoor.Sg

namespace Go.Proofs.YtkngdlbedelgnaaGreatDoor.Sg

/-- A text's byte, by its bytes. -/
theorem at_list {l : List UInt8} {k : Nat} {b : UInt8} (h : l[k]? = some b) : ∃ hk : k < (strB l).size, (strB l)[k]'hk = b := by
  have hk : k < l.length := (List.getElem?_eq_some_iff.1 h).1
  refine ⟨by rw [strB_size]; exact hk, ?_⟩
  have h2 := (List.getElem?_eq_some_iff.1 h).2
  exact h2
/-- A text stands where its bytes come next. -/
theorem stands_pre (pre l t : List UInt8) : standsB (strB (pre ++ l)) pre.length (strB t) = t.isPrefixOf l := by
  unfold standsB
  rw [strB_size, strB_size, List.length_append, ByteArray.toList_eq, ByteArray.toList_eq]
  have e1 : (strB t).data.toList = t := by simp [strB]
  have e2 : ((strB (pre ++ l)).extract pre.length (pre.length + t.length)).data.toList = l.take t.length := by
    rw [ByteArray.data_extract, Array.toList_extract]
    simp [strB]
  rw [e1, e2]
  by_cases h : t <+: l
  · rw [List.isPrefixOf_iff_prefix.2 h]
    have := h.length_le
    have e := List.prefix_iff_eq_take.1 h
    rw [decide_eq_true (by omega), ← e]
    simp
  · have h2 : t.isPrefixOf l = false := by
      cases hc : t.isPrefixOf l with
      | false => rfl
      | true => exact absurd (List.isPrefixOf_iff_prefix.1 hc) h
    rw [h2, Bool.and_eq_false_iff]
    right
    rw [beq_eq_false_iff_ne]
    intro e
    exact h (List.prefix_iff_eq_take.2 e.symm)

/-- Digits up to a semicolon. -/
theorem xdig_list (ds : List UInt8) : ∀ (pre rest : List UInt8) (f n : Nat), ds.length ≤ f → (∀ d ∈ ds, 48 ≤ d.toNat ∧ d.toNat ≤ 57) →
    xdigR (strB (pre ++ (ds ++ 59 :: rest))) f pre.length n = (ds.foldl (fun n d => 10 * n + (d.toNat - 48)) n, pre.length + ds.length) := by
  induction ds with
  | nil =>
    intro pre rest f n hf hd
    obtain ⟨hk, e⟩ := at_list (l := pre ++ ([] ++ 59 :: rest)) (k := pre.length) (b := 59) (by
      simp)
    exact xdigR_stop hk (by rw [e]; decide)
  | cons d ds ih =>
    intro pre rest f n hf hd
    obtain ⟨g, rfl⟩ : ∃ g, f = g + 1 := ⟨f - 1, by simp at hf; omega⟩
    obtain ⟨hk, e⟩ := at_list (l := pre ++ (d :: ds ++ 59 :: rest)) (k := pre.length) (b := d) (by
      simp)
    rw [xdigR_go hk (by rw [e]; exact hd d List.mem_cons_self), e]
    have h := ih (pre ++ [d]) rest g (10 * n + (d.toNat - 48)) (by simp at hf; omega) fun x hx => hd x (List.mem_cons_of_mem _ hx)
    rw [List.length_append, List.length_singleton, List.append_assoc] at h
    rw [show pre ++ (d :: ds ++ 59 :: rest) = pre ++ ([d] ++ (ds ++ 59 :: rest)) by simp, h]
    simp [List.foldl_cons]
    omega
theorem putS_z {z : Int} (h0 : 0 ≤ z) (h1 : z ≤ 127) : putS z = strB [UInt8.ofNat z.toNat] := by
  apply ByteArray.ext
  apply Array.toList_inj.1
  rw [putS_one h0 h1]
  simp [strB]
end Go.Proofs.YtkngdlbedelgnaaGreatDoor.Sg
