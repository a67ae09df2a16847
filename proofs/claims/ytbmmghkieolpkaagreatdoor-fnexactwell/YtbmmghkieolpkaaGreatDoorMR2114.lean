/- Contracts of the laws' marks of texts, and of attributes compared. Elements that a call owns: each row in a block of its own. Texts in memory, one behind the other. What is escaped, and the names of the spaces, plain. No program in it. What is escaped is read as it was, plain. No program in it. References of a strict text, by what stands up to the first byte 59. Plain. No program in it. -/
import Derived.Test.YtbmmghkieolpkaaGreatDoorMR2102
import Derived.Test.YtbmmghkieolpkaaGreatDoorGAttrs
import Derived.Deep.Cut
import Derived.Deep.CutRange
import Derived.Deep.RegionHeld3
import Derived.Test.YtbmmghkieolpkaaGreatDoorRdMem
import Derived.Test.YtbmmghkieolpkaaGreatDoorSgOk
import Derived.Below
import Derived.Test.YtbmmghkieolpkaaGreatDoorMR2108
import Derived.Lib.IndexMore
namespace Go.Proofs.YtbmmghkieolpkaaGreatDoor.Sg
open Go.ChangeShapes Go.WideShapes Go.ChangeAt Go.RowKit

/-- n attributes marked from k on. -/
def markL (k n : Nat) : List AttrB := (List.range n).map fun i => (markB (k + 2 * i), markB (k + 2 * i + 1))
theorem markL_length (k n : Nat) : (markL k n).length = n := by simp [markL]
theorem markL_cells (k n j : Nat) (h : j < n * 2) : (attrCells (markL k n))[j]? = some (.string (markB (k + j))) := by
  have hl : j / 2 < (markL k n).length := by rw [markL_length]; omega
  obtain ⟨h1, h2⟩ := attrCells_at (markL k n) (j / 2) hl
  have e : (markL k n).getD (j / 2) (ByteArray.empty, ByteArray.empty) = (markB (k + 2 * (j / 2)), markB (k + 2 * (j / 2) + 1)) := by
    rw [markL_length] at hl
    simp [markL, hl]
  rw [e] at h1 h2
  rcases Nat.mod_two_eq_zero_or_one j with hm | hm
  · have ej : j / 2 * 2 = j := by omega
    rw [ej] at h1
    rw [h1]
    show some (Value.string (markB (k + 2 * (j / 2)))) = _
    rw [show k + 2 * (j / 2) = k + j by omega]
  · have ej : j / 2 * 2 + 1 = j := by omega
    rw [ej] at h2
    rw [h2]
    show some (Value.string (markB (k + 2 * (j / 2) + 1))) = _
    rw [show k + 2 * (j / 2) + 1 = k + j by omega]

theorem own_of_rowIs {w : World} {B g cap n k : Nat} {e : TypeId} {f : Nat → Value} (hB : B ≤ g) (hn : n ≤ cap) (hm : cap ≤ maxLen) (h : w.rowIs g e (cap * 2) f) (hf : ∀ j, j < n * 2 → f j = .string (markB (k + j))) :
    w.ownsRow B e 2 (.slice (some ⟨g, 0, none⟩) n cap) n (attrCells (markL k n)) := by
  obtain ⟨c, hb, hc, hv⟩ := h
  refine ⟨by rw [attrCells_length, markL_length], .inr ⟨g, cap, c, rfl, hB, hb, hn, hm, hc, ?_⟩⟩
  apply List.ext_getElem?
  intro j
  by_cases hj : j < n * 2
  · rw [List.getElem?_take_of_lt hj, Array.getElem?_toList, hv j (by omega), hf j hj, markL_cells k n j hj]
  · rw [List.getElem?_eq_none (by simp; omega), List.getElem?_eq_none (by rw [attrCells_length, markL_length]; omega)]

end Go.Proofs.YtbmmghkieolpkaaGreatDoor.Sg

namespace Go.Proofs.YtbmmghkieolpkaaGreatDoor.Sg
open Go.ChangeShapes Go.WideShapes Go.ChangeAt Go.RowKit

abbrev Foot := Nat → Prop
/-- An element as a value, whose attributes are owned, and whose kids are S; all of it in blocks that are F. -/
def ElOwn (S : List ElB → Value → Foot → Prop) (w : World) (B : Nat) : ElB → Value → Foot → Prop
  | .mk kd sp nm ats tx ks, v, F => ∃ av kv Fk, v = .agg #[.int .i64 kd, .int .i64 sp, .string nm, av, .string tx, kv] ∧ w.ownsRow B 73 2 av ats.length (attrCells ats) ∧ (∀ b, av.ownBlock = some b → F b ∧ ¬ Fk b) ∧ S ks kv Fk ∧ ∀ b, Fk b → F b
/-- A row of elements, so deep at most, that is owned: in blocks that are F. -/
def OwnS (w : World) (B : Nat) : Nat → List ElB → Value → Foot → Prop
  | 0, l, v, F => l = [] ∧ w.ownsRow B 25 6 v 0 [] ∧ ∀ b, v.ownBlock = some b → F b
  | n + 1, l, v, F => ∃ (C : List Value) (Fs : Nat → Foot), w.ownsRow B 25 6 v l.length C ∧ (∀ b, v.ownBlock = some b → F b) ∧ (∀ i, i < l.length → ∀ b, Fs i b → F b ∧ v.ownBlock ≠ some b) ∧ (∀ i j, i < l.length → j < l.length → i ≠ j → ∀ b, Fs i b → ¬ Fs j b) ∧ ∀ i (hi : i < l.length), ElOwn (OwnS w B n) w B (l[i]'hi) (sixV C i) (Fs i)

theorem owns_stay {w w' : World} {base : Nat} {e : TypeId} {size : Nat} {v : Value} {n : Nat} {xs : List Value} (ho : w.ownsRow base e size v n xs) (hb : ∀ b, v.ownBlock = some b → b < w.heap.size → w'.heap[b]? = w.heap[b]?) : w'.ownsRow base e size v n xs := by
  obtain ⟨h1, h2⟩ := ho
  refine ⟨h1, ?_⟩
  rcases h2 with h2 | ⟨g, cap, cur, rfl, h3, h4, h5⟩
  · exact .inl h2
  · exact .inr ⟨g, cap, cur, rfl, h3, (hb g rfl (Array.getElem?_eq_some_iff.1 h4).1).trans h4, h5⟩
theorem ElOwn.stay {S S' : List ElB → Value → Foot → Prop} {w w' : World} {B : Nat} {e : ElB} {v : Value} {F : Foot} (h : ElOwn S w B e v F) (hS : ∀ l v F', (∀ b, F' b → F b) → S l v F' → S' l v F') (hb : ∀ b, F b → b < w.heap.size → w'.heap[b]? = w.heap[b]?) : ElOwn S' w' B e v F := by
  obtain ⟨kd, sp, nm, ats, tx, ks⟩ := e
  obtain ⟨av, kv, Fk, rfl, ha, hab, hk, hkf⟩ := h
  exact ⟨av, kv, Fk, rfl, owns_stay ha (fun b h1 h2 => hb b (hab b h1).1 h2), hab, hS _ _ _ hkf hk, hkf⟩
theorem OwnS.stay {B : Nat} : ∀ (n : Nat) {w w' : World} {l : List ElB} {v : Value} {F : Foot}, OwnS w B n l v F → (∀ b, F b → b < w.heap.size → w'.heap[b]? = w.heap[b]?) → OwnS w' B n l v F
  | 0, _, _, _, _, _, ⟨h1, h2, h3⟩, hb => ⟨h1, owns_stay h2 (fun b h4 h5 => hb b (h3 b h4) h5), h3⟩
  | n + 1, _, _, _, _, _, ⟨C, Fs, h1, h2, h3, h4, h5⟩, hb =>
    ⟨C, Fs, owns_stay h1 (fun b h6 h7 => hb b (h2 b h6) h7), h2, h3, h4, fun i hi => (h5 i hi).stay (fun _ _ _ hF hs => OwnS.stay n hs (fun b hb1 hb2 => hb b ((h3 i hi b (hF b hb1)).1) hb2)) (fun b h6 h7 => hb b (h3 i hi b h6).1 h7)⟩
theorem OwnS.up {B : Nat} : ∀ (n : Nat) {w : World} {l : List ElB} {v : Value} {F : Foot}, OwnS w B n l v F → OwnS w B (n + 1) l v F
  | 0, _, _, _, _, ⟨h1, h2, h3⟩ => by
    subst h1
    exact ⟨[], fun _ _ => False, h2, h3, fun i hi => absurd hi (Nat.not_lt_zero _), fun i j hi => absurd hi (Nat.not_lt_zero _), fun i hi => absurd hi (Nat.not_lt_zero _)⟩
  | n + 1, _, _, _, _, ⟨C, Fs, h1, h2, h3, h4, h5⟩ => ⟨C, Fs, h1, h2, h3, h4, fun i hi => (h5 i hi).stay (fun _ _ _ _ hs => OwnS.up n hs) (fun _ _ _ => rfl)⟩
theorem OwnS.ups {B : Nat} {n m : Nat} {w : World} {l : List ElB} {v : Value} {F : Foot} (h : OwnS w B n l v F) (hm : n ≤ m) : OwnS w B m l v F := by
  obtain ⟨d, rfl⟩ := Nat.exists_eq_add_of_le hm
  clear hm
  induction d with
  | zero => exact h
  | succ k ih => exact OwnS.up _ ih
theorem OwnS.nil (w : World) (B n : Nat) (F : Foot) : OwnS w B n [] (.slice none 0 0) F := OwnS.ups (n := 0) ⟨rfl, ⟨rfl, .inl ⟨rfl, rfl⟩⟩, fun _ h => by cases h⟩ (Nat.zero_le _)
theorem OwnS.wide {B : Nat} {n : Nat} {w : World} {l : List ElB} {v : Value} {F F' : Foot} (h : OwnS w B n l v F) (hF : ∀ b, F b → F' b) : OwnS w B n l v F' := by
  cases n with
  | zero => exact ⟨h.1, h.2.1, fun b hb => hF b (h.2.2 b hb)⟩
  | succ n =>
    obtain ⟨C, Fs, h1, h2, h3, h4, h5⟩ := h
    exact ⟨C, Fs, h1, fun b hb => hF b (h2 b hb), fun i hi b hb => ⟨hF b (h3 i hi b hb).1, (h3 i hi b hb).2⟩, h4, h5⟩
/-- Owned elements lie in memory. -/
theorem els_type : (25 : Nat) ≠ 73 := by decide
theorem OwnS.form {B : Nat} {n : Nat} {w : World} {l : List ElB} {v : Value} {F : Foot} (h : OwnS w B n l v F) : ∃ C, w.ownsRow B 25 6 v l.length C ∧ ∀ b, v.ownBlock = some b → F b := by
  cases n with
  | zero => obtain ⟨h1, h2, h3⟩ := h; subst h1; exact ⟨[], h2, h3⟩
  | succ n => obtain ⟨C, Fs, h1, h2, _⟩ := h; exact ⟨C, h1, h2⟩
theorem OwnS.kids {B : Nat} : ∀ (n : Nat) {w : World} {l : List ElB} {v : Value} {F : Foot}, OwnS w B n l v F → ∃ a c, v = .slice a l.length c ∧ KidsIn (QP (B ≤ ·)) (B ≤ ·) w a l
  | 0, w, l, v, F, ⟨h1, h2, h3⟩ => by
    subst h1
    rcases h2.2 with ⟨rfl, _⟩ | ⟨g, cap, cur, rfl, _⟩
    · exact ⟨none, 0, rfl, .inl rfl⟩
    · exact ⟨_, cap, rfl, .inl rfl⟩
  | n + 1, w, l, v, F, ⟨C, Fs, ho, h2, h3, h4, h5⟩ => by
    have hC : C.length = l.length * 6 := ho.1
    rcases ho.2 with ⟨rfl, h0⟩ | ⟨g, cap, cur, rfl, hg, _⟩
    · have : l = [] := List.eq_nil_of_length_eq_zero h0
      subst this
      exact ⟨none, 0, rfl, .inl rfl⟩
    · refine ⟨some ⟨g, 0, none⟩, cap, rfl, .inr ⟨g, 0, rfl, hg, ElsIn.of fun i hi => ?_⟩⟩
      have cell : ∀ j, j < 6 → w.cell? ⟨g, i * 6 + j, none⟩ = some (C.getD (i * 6 + j) undef) := fun j hj => by
        have hlt : i * 6 + j < l.length * 6 := by omega
        rw [(own_cell ho hlt).1]
        simp [List.getD, show i * 6 + j < C.length by omega]
      have hv : ElV (QP (B ≤ ·)) (B ≤ ·) w (sixV C i) (l[i]'hi) := by
        have h6 := h5 i hi
        generalize l[i]'hi = e0 at h6 ⊢
        obtain ⟨kd, sp, nm, ats, tx, ks⟩ := e0
        obtain ⟨av, kv, Fk, e, ha, hab, hk, hkf⟩ := h6
        obtain ⟨a, c, ek, hkk⟩ := OwnS.kids n hk
        subst ek
        exact ⟨av, a, c, e, QP.of_own ha, hkk⟩
      rw [Nat.zero_add]
      exact ElV.cells hv (cell 0 (by omega)) (cell 1 (by omega)) (cell 2 (by omega)) (cell 3 (by omega)) (cell 4 (by omega)) (cell 5 (by omega))

mutual
def mkE : ElB → Nat → ElB
  | .mk _ _ _ ats _ ks, k => .mk (k : Int) ((k : Int) + 1) (markB (k + 2)) (markL (k + 3) ats.length) (markB (k + 3 + 2 * ats.length)) (mkEs ks (k + 4 + 2 * ats.length))
def mkEs : List ElB → Nat → List ElB
  | [], _ => []
  | e :: es, k => mkE e k :: mkEs es (k + cntE e)
def cntE : ElB → Nat
  | .mk _ _ _ ats _ ks => 4 + 2 * ats.length + cntEs ks
def cntEs : List ElB → Nat
  | [] => 0
  | e :: es => cntE e + cntEs es
end
theorem mkEs_length : ∀ (es : List ElB) (k : Nat), (mkEs es k).length = es.length
  | [], _ => by rw [mkEs]
  | e :: es, k => by rw [mkEs, List.length_cons, List.length_cons, mkEs_length es]
theorem cntEs_take : ∀ (es : List ElB) (i : Nat) (hi : i < es.length), cntEs (es.take (i + 1)) = cntEs (es.take i) + cntE (es[i]'hi) ∧ cntEs (es.take i) + cntE (es[i]'hi) ≤ cntEs es
  | e :: es, 0, _ => by simp [cntEs]
  | e :: es, i + 1, hi => by
    have h := cntEs_take es i (by simpa using hi)
    simp only [List.take_succ_cons, cntEs, List.getElem_cons_succ]
    omega
theorem mkEs_get : ∀ (es : List ElB) (k i : Nat) (hi : i < es.length) (hi' : i < (mkEs es k).length), (mkEs es k)[i]'hi' = mkE (es[i]'hi) (k + cntEs (es.take i))
  | e :: es, k, 0, _, _ => by simp [mkEs, cntEs]
  | e :: es, k, i + 1, hi, hi' => by
    have h := mkEs_get es (k + cntE e) i (by simpa using hi) (by rw [mkEs_length]; simpa using hi)
    simp only [mkEs, List.getElem_cons_succ, List.take_succ_cons, cntEs]
    rw [h]
    congr 1
    omega
theorem cntE_ats (kd sp : Int) (nm : ByteArray) (ats : List AttrB) (tx : ByteArray) (ks : List ElB) : cntE (.mk kd sp nm ats tx ks) = 4 + 2 * ats.length + cntEs ks := by rw [cntE]

end Go.Proofs.YtbmmghkieolpkaaGreatDoor.Sg

namespace Go.Proofs.YtbmmghkieolpkaaGreatDoor.Sg
open Go.ChangeShapes Go.WideShapes Go.ChangeAt Go.RowKit

/-- A text of some bytes. -/
def strB (l : List UInt8) : ByteArray := ⟨l.toArray⟩
theorem strB_size (l : List UInt8) : (strB l).size = l.length := by simp [strB, ByteArray.size]
theorem strB_inj {l m : List UInt8} (h : strB l = strB m) : l = m := by
  have := congrArg (fun s : ByteArray => s.data.toList) h
  simpa [strB] using this
theorem strB_of (s : ByteArray) : strB s.data.toList = s := by simp [strB]

theorem str_eq {y : List UInt8} {s : ByteArray} (h : y = s.data.toList) : ((strB y).toList == s.toList) = true := by
  rw [ByteArray.toList_eq, ByteArray.toList_eq, ← h]
  simp [strB]
theorem str_ne {y : List UInt8} {s : ByteArray} (h : y ≠ s.data.toList) : ((strB y).toList == s.toList) = false := by
  rw [ByteArray.toList_eq, ByteArray.toList_eq]
  simpa [strB] using h

/-- Texts lie one behind the other from a block's beginning. -/
def Texts (w : World) (b : Nat) (ls : List (List UInt8)) : Prop :=
  b < w.heap.size ∧ ∀ k, k < ls.length → w.cell? ⟨b, k, none⟩ = some (.string (strB (ls.getD k [])))

theorem Texts.laid (w : World) (ls : List (List UInt8)) (C : Array Value) (t : TypeId) (hC : C = (ls.map fun l => Value.string (strB l)).toArray) : Texts (w.alloc (.cells C t)) w.heap.size ls := by
  subst hC
  refine ⟨by simp, fun k hk => ?_⟩
  rw [World.cell?_alloc_new, List.getElem?_toArray, List.getElem?_map]
  simp [List.getD, hk]

theorem Texts.below {w w' : World} {b : Nat} {ls : List (List UInt8)} (h : Texts w b ls) {B : Nat} (hB : b < B) (hb : Below B w w') : Texts w' b ls :=
  ⟨Nat.lt_of_lt_of_le h.1 hb.size, fun k hk => (hb.cell hB).trans (h.2 k hk)⟩

end Go.Proofs.YtbmmghkieolpkaaGreatDoor.Sg

namespace Go.Proofs.YtbmmghkieolpkaaGreatDoor.Sg

/-- The bytes that are escaped (in a value), and what stands in their place. -/
def escW : Bool → List UInt8
  | false => [38, 60, 62, 13]
  | true => [38, 60, 62, 13, 34, 9, 10]
def escT : Bool → List (List UInt8)
  | false => [[38, 97, 109, 112, 59], [38, 108, 116, 59], [38, 103, 116, 59], [38, 35, 49, 51, 59]]
  | true => [[38, 97, 109, 112, 59], [38, 108, 116, 59], [38, 103, 116, 59], [38, 35, 49, 51, 59], [38, 113, 117, 111, 116, 59], [38, 35, 57, 59], [38, 35, 49, 48, 59]]
def escL (v : Bool) (l : List UInt8) : List UInt8 := swapL (escW v) (escT v) l
def escS (s : ByteArray) (v : Bool) : ByteArray := strB (escL v s.data.toList)
theorem esc1_length (v : Bool) (b : UInt8) : (swap1 (escW v) (escT v) b).length ≤ 6 := by
  unfold swap1
  split
  · simp
  · rename_i k hk
    have : ∀ v k, (List.getD (escT v) k []).length ≤ 6 := by
      intro v k
      rw [List.getD_eq_getElem?_getD]
      cases h : (escT v)[k]? with
      | none => simp
      | some x =>
        have hm := List.mem_of_getElem? h
        have : ∀ v, ∀ x ∈ escT v, x.length ≤ 6 := by decide
        exact this v x hm
    exact this v k
theorem escL_length (v : Bool) (l : List UInt8) : (escL v l).length ≤ 6 * l.length := by
  unfold escL swapL
  induction l with
  | nil => simp
  | cons b l ih =>
    rw [List.flatMap_cons, List.length_append, List.length_cons]
    have := esc1_length v b
    omega
theorem escS_size (s : ByteArray) (v : Bool) : (escS s v).size ≤ 6 * s.size := by
  unfold escS
  rw [strB_size]
  have := escL_length v s.data.toList
  rw [Array.length_toList] at this
  exact this

/-- The name of a space. -/
def spaceS (n : Int) : ByteArray :=
  if n = 0 then ⟨#[104, 116, 116, 112, 58, 47, 47, 119, 119, 119, 46, 119, 51, 46, 111, 114, 103, 47, 49, 57, 57, 57, 47, 120, 104, 116, 109, 108]⟩
  else if n = 1 then ⟨#[104, 116, 116, 112, 58, 47, 47, 119, 119, 119, 46, 119, 51, 46, 111, 114, 103, 47, 50, 48, 48, 48, 47, 115, 118, 103]⟩
  else if n = 2 then ⟨#[104, 116, 116, 112, 58, 47, 47, 119, 119, 119, 46, 119, 51, 46, 111, 114, 103, 47, 49, 57, 57, 56, 47, 77, 97, 116, 104, 47, 77, 97, 116, 104, 77, 76]⟩
  else ⟨#[]⟩

end Go.Proofs.YtbmmghkieolpkaaGreatDoor.Sg

namespace Go.Proofs.YtbmmghkieolpkaaGreatDoor.Sg

/-- A text's byte, by its bytes. -/
theorem at_list {l : List UInt8} {k : Nat} {b : UInt8} (h : l[k]? = some b) : ∃ hk : k < (strB l).size, (strB l)[k]'hk = b := by
  have hk : k < l.length := (List.getElem?_eq_some_iff.1 h).1
  refine ⟨by rw [strB_size]; exact hk, ?_⟩
  have h2 := (List.getElem?_eq_some_iff.1 h).2
  exact h2
theorem get_mid (pre l : List UInt8) (j : Nat) : (pre ++ l)[pre.length + j]? = l[j]? := by
  rw [List.getElem?_append_right (by omega), show pre.length + j - pre.length = j by omega]
theorem extract_mid (pre m post : List UInt8) : ((strB (pre ++ (m ++ post))).extract pre.length (pre.length + m.length)).data.toList = m := by
  rw [ByteArray.data_extract, Array.toList_extract]
  simp [strB]
/-- A text stands where its bytes come next. -/
theorem stands_pre (pre l t : List UInt8) : standsB (strB (pre ++ l)) pre.length (strB t) = t.isPrefixOf l := by
  unfold standsB
  rw [strB_size, strB_size, List.length_append, ByteArray.toList_eq, ByteArray.toList_eq]
  have e1 : (strB t).data.toList = t := by simp [strB]
  have e2 : ((strB (pre ++ l)).extract pre.length (pre.length + t.length)).data.toList = l.take t.length := by
    rw [ByteArray.data_extract, Array.toList_extract]
    simp [strB]
  rw [e1, e2]
  by_cases h : t <+: l
  · rw [List.isPrefixOf_iff_prefix.2 h]
    have := h.length_le
    have e := List.prefix_iff_eq_take.1 h
    rw [decide_eq_true (by omega), ← e]
    simp
  · have h2 : t.isPrefixOf l = false := by
      cases hc : t.isPrefixOf l with
      | false => rfl
      | true => exact absurd (List.isPrefixOf_iff_prefix.1 hc) h
    rw [h2, Bool.and_eq_false_iff]
    right
    rw [beq_eq_false_iff_ne]
    intro e
    exact h (List.prefix_iff_eq_take.2 e.symm)

/-- Digits up to a semicolon. -/
theorem xdig_list (ds : List UInt8) : ∀ (pre rest : List UInt8) (f n : Nat), ds.length ≤ f → (∀ d ∈ ds, 48 ≤ d.toNat ∧ d.toNat ≤ 57) →
    xdigR (strB (pre ++ (ds ++ 59 :: rest))) f pre.length n = (ds.foldl (fun n d => 10 * n + (d.toNat - 48)) n, pre.length + ds.length) := by
  induction ds with
  | nil =>
    intro pre rest f n hf hd
    obtain ⟨hk, e⟩ := at_list (l := pre ++ ([] ++ 59 :: rest)) (k := pre.length) (b := 59) (by
      simp)
    exact xdigR_stop hk (by rw [e]; decide)
  | cons d ds ih =>
    intro pre rest f n hf hd
    obtain ⟨g, rfl⟩ : ∃ g, f = g + 1 := ⟨f - 1, by simp at hf; omega⟩
    obtain ⟨hk, e⟩ := at_list (l := pre ++ (d :: ds ++ 59 :: rest)) (k := pre.length) (b := d) (by
      simp)
    rw [xdigR_go hk (by rw [e]; exact hd d List.mem_cons_self), e]
    have h := ih (pre ++ [d]) rest g (10 * n + (d.toNat - 48)) (by simp at hf; omega) fun x hx => hd x (List.mem_cons_of_mem _ hx)
    rw [List.length_append, List.length_singleton, List.append_assoc] at h
    rw [show pre ++ (d :: ds ++ 59 :: rest) = pre ++ ([d] ++ (ds ++ 59 :: rest)) by simp, h]
    simp [List.foldl_cons]
    omega
theorem xnum_list (pre rest ds : List UInt8) (h0 : ds ≠ []) (h7 : ds.length ≤ 7) (hd : ∀ d ∈ ds, 48 ≤ d.toNat ∧ d.toNat ≤ 57) (hn : ds.head? ≠ some 48) (ht : textB ((ds.foldl (fun n d => 10 * n + (d.toNat - 48)) 0 : Nat) : Int) = true) :
    xnumR (strB (pre ++ (38 :: 35 :: (ds ++ 59 :: rest)))) pre.length = some (ds.foldl (fun n d => 10 * n + (d.toNat - 48)) 0, pre.length + 2 + ds.length) := by
  have e0 : pre ++ (38 :: 35 :: (ds ++ 59 :: rest)) = (pre ++ [38, 35]) ++ (ds ++ 59 :: rest) := by simp
  have hx := xdig_list ds (pre ++ [38, 35]) rest 7 0 h7 hd
  rw [List.length_append, show ([38, 35] : List UInt8).length = 2 from rfl] at hx
  rw [e0]
  unfold xnumR
  simp only
  rw [hx]
  have hl : ds.length ≠ 0 := by
    intro h
    exact h0 (List.eq_nil_of_length_eq_zero h)
  rw [if_neg]
  rintro (h | h | h | h | h)
  · simp only at h
    omega
  · have : bN (strB ((pre ++ [38, 35]) ++ (ds ++ 59 :: rest))) (pre.length + 2) = (ds.getD 0 0).toNat := by
      have := bN_mid (pre ++ [38, 35]) ds (59 :: rest) 0 (by omega)
      rw [List.length_append, show ([38, 35] : List UInt8).length = 2 from rfl] at this
      exact this
    rw [this] at h
    cases ds with
    | nil => exact h0 rfl
    | cons d ds =>
      have : d = 48 := UInt8.toNat_inj.1 h
      exact hn (by rw [this]; rfl)
  · apply h
    simp only
    rw [strB_size]
    simp
    omega
  · apply h
    have := bN_mid (pre ++ [38, 35] ++ ds) [59] rest 0 (by simp)
    rw [List.length_append, List.length_append, show ([38, 35] : List UInt8).length = 2 from rfl, List.append_assoc (pre ++ [38, 35])] at this
    exact this
  · rw [ht] at h
    cases h

/-- The byte that is escaped, and what stands in its place. -/
def entOf (b : UInt8) : List UInt8 := if b = 38 then [38, 97, 109, 112, 59] else if b = 60 then [38, 108, 116, 59] else if b = 62 then [38, 103, 116, 59] else if b = 13 then [38, 35, 49, 51, 59] else if b = 34 then [38, 113, 117, 111, 116, 59] else if b = 9 then [38, 35, 57, 59] else [38, 35, 49, 48, 59]
theorem swap_in (v : Bool) (b : UInt8) (h : b ∈ escW v) : swap1 (escW v) (escT v) b = entOf b := by
  have : ∀ v, ∀ b ∈ escW v, swap1 (escW v) (escT v) b = entOf b := by decide
  exact this v b h
theorem swap_out (v : Bool) (b : UInt8) (h : b ∉ escW v) : swap1 (escW v) (escT v) b = [b] := by
  have key : ∀ (l : List UInt8), b ∉ l → findL b l = none := by
    intro l
    induction l with
    | nil => intro _; rfl
    | cons x l ih =>
      intro hn
      show (if x = b then some 0 else Option.map (· + 1) (findL b l)) = none
      rw [if_neg (fun e => hn (by rw [e]; exact List.mem_cons_self)), ih (fun hm => hn (List.mem_cons_of_mem _ hm))]
      rfl
  unfold swap1
  rw [key _ h]
theorem escL_nil (v : Bool) : escL v [] = [] := rfl
theorem escL_append (v : Bool) (a b : List UInt8) : escL v (a ++ b) = escL v a ++ escL v b := by unfold escL swapL; rw [List.flatMap_append]
theorem escL_one (v : Bool) (b : UInt8) : escL v [b] = swap1 (escW v) (escT v) b := by unfold escL swapL; simp
theorem escL_same (v : Bool) : ∀ (l : List UInt8), (∀ b ∈ l, b ∉ escW v) → escL v l = l
  | [], _ => rfl
  | b :: l, h => by
    rw [show b :: l = [b] ++ l from rfl, escL_append, escL_one, swap_out v b (h b List.mem_cons_self), escL_same v l fun x hx => h x (List.mem_cons_of_mem _ hx)]
/-- What was escaped has no byte 60, 62, and in a value no 34. -/
theorem escL_free (v : Bool) (l : List UInt8) : ∀ b ∈ escL v l, b ≠ 60 ∧ b ≠ 62 ∧ (v = true → b ≠ 34) := by
  have one : ∀ (v : Bool) (x b : UInt8), b ∈ swap1 (escW v) (escT v) x → b ≠ 60 ∧ b ≠ 62 ∧ (v = true → b ≠ 34) := by
    intro v x b hb
    by_cases h : x ∈ escW v
    · rw [swap_in v x h] at hb
      have : ∀ v, ∀ x ∈ escW v, ∀ b ∈ entOf x, b ≠ 60 ∧ b ≠ 62 ∧ (v = true → b ≠ 34) := by decide
      exact this v x h b hb
    · rw [swap_out v x h, List.mem_singleton] at hb
      subst hb
      refine ⟨?_, ?_, ?_⟩
      · rintro rfl
        cases v <;> exact h (by decide)
      · rintro rfl
        cases v <;> exact h (by decide)
      · rintro rfl rfl
        exact h (by decide)
  intro b hb
  unfold escL swapL at hb
  rw [List.mem_flatMap] at hb
  obtain ⟨x, _, hx⟩ := hb
  exact one v x b hx
theorem putS_z {z : Int} (h0 : 0 ≤ z) (h1 : z ≤ 127) : putS z = strB [UInt8.ofNat z.toNat] := by
  apply ByteArray.ext
  apply Array.toList_inj.1
  rw [putS_one h0 h1]
  simp [strB]
/-- A byte's reference is read as the byte. -/
theorem ref_ent (v : Bool) (b : UInt8) (hb : b ∈ escW v) (pre rest : List UInt8) : xrefR (strB (pre ++ (entOf b ++ rest))) pre.length = some (strB [b], pre.length + (entOf b).length) := by
  have hc : b = 38 ∨ b = 60 ∨ b = 62 ∨ b = 13 ∨ b = 34 ∨ b = 9 ∨ b = 10 := by
    have : ∀ v, ∀ b ∈ escW v, b = 38 ∨ b = 60 ∨ b = 62 ∨ b = 13 ∨ b = 34 ∨ b = 9 ∨ b = 10 := by decide
    exact this v b hb
  have S : ∀ l, standsB (strB (pre ++ l)) pre.length ampB = List.isPrefixOf [38, 97, 109, 112, 59] l ∧ standsB (strB (pre ++ l)) pre.length ltB = List.isPrefixOf [38, 108, 116, 59] l ∧ standsB (strB (pre ++ l)) pre.length gtB = List.isPrefixOf [38, 103, 116, 59] l ∧ standsB (strB (pre ++ l)) pre.length quotB = List.isPrefixOf [38, 113, 117, 111, 116, 59] l ∧ standsB (strB (pre ++ l)) pre.length aposB = List.isPrefixOf [38, 97, 112, 111, 115, 59] l ∧ standsB (strB (pre ++ l)) pre.length hashB = List.isPrefixOf [38, 35] l :=
    fun l => ⟨stands_pre pre l _, stands_pre pre l _, stands_pre pre l _, stands_pre pre l _, stands_pre pre l _, stands_pre pre l _⟩
  unfold xrefR
  obtain ⟨s1, s2, s3, s4, s5, s6⟩ := S (entOf b ++ rest)
  rw [s1, s2, s3, s4, s5, s6]
  rcases hc with rfl | rfl | rfl | rfl | rfl | rfl | rfl
  · rfl
  · rfl
  · rfl
  · have h := xnum_list pre rest [49, 51] (by simp) (by decide) (by decide) (by decide) (by decide)
    show Option.map _ (xnumR (strB (pre ++ (38 :: 35 :: ([49, 51] ++ 59 :: rest)))) pre.length) = _
    rw [h]
    show some (putS 13, _) = _
    rw [putS_z (by decide) (by decide)]
    rfl
  · rfl
  · have h := xnum_list pre rest [57] (by simp) (by decide) (by decide) (by decide) (by decide)
    show Option.map _ (xnumR (strB (pre ++ (38 :: 35 :: ([57] ++ 59 :: rest)))) pre.length) = _
    rw [h]
    show some (putS 9, _) = _
    rw [putS_z (by decide) (by decide)]
    rfl
  · have h := xnum_list pre rest [49, 48] (by simp) (by decide) (by decide) (by decide) (by decide)
    show Option.map _ (xnumR (strB (pre ++ (38 :: 35 :: ([49, 48] ++ 59 :: rest)))) pre.length) = _
    rw [h]
    show some (putS 10, _) = _
    rw [putS_z (by decide) (by decide)]
    rfl

end Go.Proofs.YtbmmghkieolpkaaGreatDoor.Sg

namespace Go.Proofs.YtbmmghkieolpkaaGreatDoor.Sg

def digB (b : UInt8) : Bool := decide (48 ≤ b.toNat ∧ b.toNat ≤ 57)
theorem digB_of {b : UInt8} (h : digB b = true) : 48 ≤ b.toNat ∧ b.toNat ≤ 57 := of_decide_eq_true h
theorem digB_not {b : UInt8} (h : digB b = false) : ¬ (48 ≤ b.toNat ∧ b.toNat ≤ 57) := of_decide_eq_false h
def foldD (n : Nat) (d : List UInt8) : Nat := d.foldl (fun n d => 10 * n + (d.toNat - 48)) n
theorem numG_all : ∀ (d : List UInt8) (a m : Nat), d.all digB = true → numG 10 (min a 1114112) m d = (min (foldD a d) 1114112, m + d.length)
  | [], a, m, _ => rfl
  | b :: d, a, m, h => by
    rw [List.all_cons, Bool.and_eq_true] at h
    have hb := digB_of h.1
    have hd : digV b.toNat = b.toNat - 48 := by rcases digV_cases b.toNat with h | h | h | h <;> omega
    unfold numG
    rw [if_pos (by omega), hd, show min (min a 1114112 * 10 + (b.toNat - 48)) 1114112 = min (10 * a + (b.toNat - 48)) 1114112 by omega, numG_all d _ _ h.2]
    show (min (foldD (10 * a + (b.toNat - 48)) d) 1114112, m + 1 + d.length) = (min (foldD a (b :: d)) 1114112, m + (d.length + 1))
    rw [show m + 1 + d.length = m + (d.length + 1) by omega]
    rfl
theorem numG_full : ∀ (d : List UInt8) (a m : Nat), (numG 10 a m d).2 = m + d.length → d.all digB = true
  | [], _, _, _ => rfl
  | b :: d, a, m, h => by
    unfold numG at h
    by_cases hv : digV b.toNat < 10
    · rw [if_pos hv] at h
      have hb : digB b = true := by
        apply decide_eq_true
        rcases digV_cases b.toNat with h | h | h | h <;> omega
      rw [List.all_cons, hb, Bool.true_and]
      exact numG_full d _ (m + 1) (by rw [h]; simp; omega)
    · rw [if_neg hv] at h
      simp at h

/-- The number for some digits. -/
def numL (d : List UInt8) : Option Int := if (numG 10 0 0 d).2 = d.length ∧ d.length ≤ 7 ∧ d.head? ≠ some 48 ∧ textB ((numG 10 0 0 d).1 : Int) = true then some ((numG 10 0 0 d).1 : Int) else none
/-- The sign for what stands between a reference's first and last byte. -/
def refSignL (x : List UInt8) : Option Int :=
  if x = [97, 109, 112] then some 38
  else if x = [108, 116] then some 60
  else if x = [103, 116] then some 62
  else if x = [113, 117, 111, 116] then some 34
  else if x = [97, 112, 111, 115] then some 39
  else if x.head? = some 35 then numL x.tail
  else none

theorem pre_semi : ∀ (y x r : List UInt8), (59 : UInt8) ∉ y → (59 : UInt8) ∉ x → ((y ++ [59]).isPrefixOf (x ++ 59 :: r) = decide (x = y))
  | [], [], r, _, _ => by simp [List.isPrefixOf]
  | [], a :: x, r, _, h => by
    have ha : (59 : UInt8) ≠ a := fun e => h (e ▸ List.mem_cons_self)
    simp [List.isPrefixOf, ha]
  | b :: y, [], r, h, _ => by
    have hb : b ≠ (59 : UInt8) := fun e => h (e ▸ List.mem_cons_self)
    simp [List.isPrefixOf, hb]
  | b :: y, a :: x, r, h, h2 => by
    have ih := pre_semi y x r (fun hm => h (List.mem_cons_of_mem _ hm)) (fun hm => h2 (List.mem_cons_of_mem _ hm))
    show ((b == a) && (y ++ [59]).isPrefixOf (x ++ 59 :: r)) = _
    rw [ih]
    by_cases e : b = a
    · subst e
      simp
    · have e2 : ¬ a = b := fun h => e h.symm
      simp [e, e2]
/-- What was read as digits are digits. -/
theorem xdig_digits (s : ByteArray) : ∀ (f k n j : Nat), k ≤ j → j < (xdigR s f k n).2 → 48 ≤ bN s j ∧ bN s j ≤ 57
  | 0, k, n, j, h, h2 => by
    have : (xdigR s 0 k n).2 = k := rfl
    omega
  | f + 1, k, n, j, h, h2 => by
    by_cases hk : k < s.size
    · by_cases h1 : 48 ≤ (s[k]'hk).toNat ∧ (s[k]'hk).toNat ≤ 57
      · rw [xdigR_go hk h1] at h2
        by_cases e : j = k
        · subst e
          rw [← bN_eq s j hk]
          exact h1
        · exact xdig_digits s f (k + 1) _ j (by omega) h2
      · rw [xdigR_stop hk h1] at h2
        simp only at h2
        omega
    · rw [xdigR_end hk] at h2
      simp only at h2
      omega
theorem bN_tail {s : ByteArray} {k j : Nat} {b : UInt8} (h : (tailL s k)[j]? = some b) : bN s (k + j) = b.toNat := by
  unfold tailL at h
  rw [List.getElem?_drop] at h
  unfold bN
  congr 1
  show s.data[k + j]! = b
  rw [getElem!_def]
  rw [Array.getElem?_toList] at h
  rw [h]
theorem tail_of_bN {s : ByteArray} {k j : Nat} (h : k + j < s.size) : (tailL s k)[j]? = some (s.get! (k + j)) := by
  unfold tailL
  rw [List.getElem?_drop, Array.getElem?_toList]
  show s.data[k + j]? = some (s.data[k + j]!)
  have h' : k + j < s.data.size := h
  rw [getElem!_def, Array.getElem?_eq_getElem h']
/-- A reference by number, by what stands up to the first byte 59. -/
theorem xnum_semi (pre d r : List UInt8) (hd : (59 : UInt8) ∉ d) : (xnumR (strB (pre ++ (38 :: 35 :: (d ++ 59 :: r)))) pre.length).map (fun q => (putS (q.1 : Int), q.2 + 1)) = (numL d).map fun z => (putS z, pre.length + 3 + d.length) := by
  have e0 : pre ++ (38 :: 35 :: (d ++ 59 :: r)) = (pre ++ [38, 35]) ++ (d ++ 59 :: r) := by simp
  have hl2 : (pre ++ [38, 35]).length = pre.length + 2 := by simp
  have hsz : (strB (pre ++ (38 :: 35 :: (d ++ 59 :: r)))).size = pre.length + 3 + d.length + r.length := by rw [strB_size]; simp; omega
  have h59 : bN (strB (pre ++ (38 :: 35 :: (d ++ 59 :: r)))) (pre.length + 2 + d.length) = 59 := by
    have := bN_mid (pre ++ [38, 35] ++ d) [59] r 0 (by simp)
    rw [List.length_append, hl2, List.append_assoc (pre ++ [38, 35])] at this
    rw [e0]
    exact this
  by_cases hA : d.all digB = true ∧ d.length ≤ 7
  · have hx := xdig_list d (pre ++ [38, 35]) r 7 0 hA.2 (fun b hb => digB_of (List.all_eq_true.1 hA.1 b hb))
    rw [hl2, ← e0] at hx
    have hg := numG_all d 0 0 hA.1
    rw [show min 0 1114112 = 0 from rfl, Nat.zero_add] at hg
    have ht : textB ((min (foldD 0 d) 1114112 : Nat) : Int) = textB (foldD 0 d : Int) := by
      by_cases h : foldD 0 d ≤ 1114112
      · rw [Nat.min_eq_left h]
      · rw [Nat.min_eq_right (by omega)]
        have h1 : textB (foldD 0 d : Int) = false := by
          cases hc : textB (foldD 0 d : Int) with
          | false => rfl
          | true =>
            have := okB_of (textB_ok hc)
            omega
        rw [h1]
        decide
    have hh : bN (strB (pre ++ (38 :: 35 :: (d ++ 59 :: r)))) (pre.length + 2) = 48 ↔ d.head? = some 48 := by
      cases d with
      | nil =>
        rw [List.length_nil, Nat.add_zero] at h59
        rw [h59]
        simp
      | cons b d =>
        have h := bN_mid (pre ++ [38, 35]) (b :: d) (59 :: r) 0 (by simp)
        rw [hl2, Nat.add_zero, ← e0] at h
        have h' : bN (strB (pre ++ 38 :: 35 :: (b :: d ++ 59 :: r))) (pre.length + 2) = ((b :: d).getD 0 0).toNat := h
        rw [h']
        simp only [List.getD_cons_zero, List.head?_cons, Option.some.injEq]
        exact ⟨fun h => UInt8.toNat_inj.1 h, fun h => by rw [h]; rfl⟩
    unfold xnumR numL
    simp only
    rw [hx, hg]
    simp only [true_and]
    by_cases hz : d = []
    · subst hz
      rw [if_pos (.inl (by simp))]
      rfl
    · have hl : 0 < d.length := by
        cases d with
        | nil => exact absurd rfl hz
        | cons b d => simp
      by_cases hc : d.head? ≠ some 48 ∧ textB (foldD 0 d : Int) = true
      · rw [if_neg, if_pos ⟨hA.2, hc.1, by rw [ht]; exact hc.2⟩]
        · have h14 : foldD 0 d ≤ 1114111 := by
            have := okB_of (textB_ok hc.2)
            omega
          rw [Nat.min_eq_left (by omega)]
          show some (putS (foldD 0 d : Int), _) = some (putS (foldD 0 d : Int), _)
          congr 2
          omega
        · rintro (h | h | h | h | h)
          · omega
          · exact hc.1 (hh.1 h)
          · apply h
            rw [hsz]
            omega
          · exact h h59
          · have h5 : textB (foldD 0 d : Int) = false := h
            rw [hc.2] at h5
            cases h5
      · have hR : (if d.length ≤ 7 ∧ d.head? ≠ some 48 ∧ textB ((min (foldD 0 d) 1114112 : Nat) : Int) = true then some ((min (foldD 0 d) 1114112 : Nat) : Int) else none) = none := if_neg fun h => hc ⟨h.2.1, by rw [← ht]; exact h.2.2⟩
        rw [hR, if_pos]
        · rfl
        · by_cases h1 : d.head? = some 48
          · exact .inr (.inl (hh.2 h1))
          · refine .inr (.inr (.inr (.inr ?_)))
            show textB (foldD 0 d : Int) = false
            cases h2 : textB (foldD 0 d : Int) with
            | false => rfl
            | true => exact absurd ⟨h1, h2⟩ hc
  · have hn : numL d = none := by
      unfold numL
      rw [if_neg]
      rintro ⟨h1, h2, _⟩
      exact hA ⟨numG_full d 0 0 (by rw [h1]; simp), h2⟩
    rw [hn]
    cases hq : xnumR (strB (pre ++ (38 :: 35 :: (d ++ 59 :: r)))) pre.length with
    | none => rfl
    | some q =>
      exfalso
      have hle := xnumR_le hq
      unfold xnumR at hq
      simp only at hq
      split at hq
      · cases hq
      · rename_i hne
        cases hq
        have hdg := xdig_digits (strB (pre ++ (38 :: 35 :: (d ++ 59 :: r)))) 7 (pre.length + 2) 0
        have hl7 := (xdigR_le (strB (pre ++ (38 :: 35 :: (d ++ 59 :: r)))) 7 (pre.length + 2) 0)
        have hb59 : bN (strB (pre ++ (38 :: 35 :: (d ++ 59 :: r)))) (xdigR (strB (pre ++ (38 :: 35 :: (d ++ 59 :: r)))) 7 (pre.length + 2) 0).2 = 59 := Classical.byContradiction fun h => hne (.inr (.inr (.inr (.inl h))))
        generalize (xdigR (strB (pre ++ (38 :: 35 :: (d ++ 59 :: r)))) 7 (pre.length + 2) 0).2 = e at *
        have hin : ∀ j (hj : j < d.length), bN (strB (pre ++ (38 :: 35 :: (d ++ 59 :: r)))) (pre.length + 2 + j) = (d[j]'hj).toNat := by
          intro j hj
          have h := bN_mid (pre ++ [38, 35]) d (59 :: r) j hj
          rw [hl2, ← e0] at h
          have h' : bN (strB (pre ++ 38 :: 35 :: (d ++ 59 :: r))) (pre.length + 2 + j) = (d.getD j 0).toNat := h
          rw [h', List.getD_eq_getElem?_getD, List.getElem?_eq_getElem hj]
          rfl
        have he : e = pre.length + 2 + d.length := by
          by_cases h1 : e < pre.length + 2 + d.length
          · exfalso
            have h2 := hin (e - (pre.length + 2)) (by omega)
            rw [show pre.length + 2 + (e - (pre.length + 2)) = e by omega, hb59] at h2
            have h3 : (d[e - (pre.length + 2)]'(by omega)) = 59 := UInt8.toNat_inj.1 h2.symm
            exact hd (h3 ▸ List.getElem_mem _)
          · by_cases h2 : pre.length + 2 + d.length < e
            · have := hdg (pre.length + 2 + d.length) (by omega) h2
              rw [h59] at this
              omega
            · omega
        subst he
        apply hA
        refine ⟨List.all_eq_true.2 fun b hb => ?_, by omega⟩
        obtain ⟨j, hj, rfl⟩ := List.getElem_of_mem hb
        have := hdg (pre.length + 2 + j) (by omega) (by omega)
        rw [hin j hj] at this
        exact decide_eq_true this

theorem hash_semi (x r : List UInt8) : List.isPrefixOf [35] (x ++ 59 :: r) = decide (x.head? = some 35) := by
  cases x with
  | nil => rfl
  | cons a x =>
    show ((35 : UInt8) == a && true) = _
    rw [Bool.and_true]
    by_cases h : a = 35
    · subst h
      rfl
    · have h2 : ((35 : UInt8) == a) = false := beq_false_of_ne (Ne.symm h)
      rw [h2]
      simp [h]

/-- A reference, by what stands up to the first byte 59. -/
theorem xref_semi (pre x r : List UInt8) (hx : (59 : UInt8) ∉ x) : xrefR (strB (pre ++ (38 :: (x ++ 59 :: r)))) pre.length = (refSignL x).map fun z => (putS z, pre.length + 2 + x.length) := by
  have S : ∀ y : List UInt8, (59 : UInt8) ∉ y → standsB (strB (pre ++ (38 :: (x ++ 59 :: r)))) pre.length (strB (38 :: (y ++ [59]))) = decide (x = y) := by
    intro y hy
    rw [stands_pre]
    show ((38 : UInt8) == 38 && (y ++ [59]).isPrefixOf (x ++ 59 :: r)) = _
    rw [pre_semi y x r hy hx]
    rfl
  have s1 : standsB (strB (pre ++ (38 :: (x ++ 59 :: r)))) pre.length ampB = decide (x = [97, 109, 112]) := S [97, 109, 112] (by decide)
  have s2 : standsB (strB (pre ++ (38 :: (x ++ 59 :: r)))) pre.length ltB = decide (x = [108, 116]) := S [108, 116] (by decide)
  have s3 : standsB (strB (pre ++ (38 :: (x ++ 59 :: r)))) pre.length gtB = decide (x = [103, 116]) := S [103, 116] (by decide)
  have s4 : standsB (strB (pre ++ (38 :: (x ++ 59 :: r)))) pre.length quotB = decide (x = [113, 117, 111, 116]) := S [113, 117, 111, 116] (by decide)
  have s5 : standsB (strB (pre ++ (38 :: (x ++ 59 :: r)))) pre.length aposB = decide (x = [97, 112, 111, 115]) := S [97, 112, 111, 115] (by decide)
  have s6 : standsB (strB (pre ++ (38 :: (x ++ 59 :: r)))) pre.length hashB = decide (x.head? = some 35) := by
    rw [show hashB = strB [38, 35] from rfl, stands_pre]
    show ((38 : UInt8) == 38 && List.isPrefixOf [35] (x ++ 59 :: r)) = _
    rw [hash_semi]
    rfl
  have P : ∀ z : Int, 0 ≤ z → z ≤ 127 → putS z = ⟨#[UInt8.ofNat z.toNat]⟩ := fun z h0 h1 => putS_z h0 h1
  unfold xrefR refSignL
  rw [s1, s2, s3, s4, s5, s6]
  simp only [decide_eq_true_eq]
  by_cases c1 : x = [97, 109, 112]
  · rw [if_pos c1, if_pos c1, Option.map_some, P 38 (by decide) (by decide), c1]
    rfl
  rw [if_neg c1, if_neg c1]
  by_cases c2 : x = [108, 116]
  · rw [if_pos c2, if_pos c2, Option.map_some, P 60 (by decide) (by decide), c2]
    rfl
  rw [if_neg c2, if_neg c2]
  by_cases c3 : x = [103, 116]
  · rw [if_pos c3, if_pos c3, Option.map_some, P 62 (by decide) (by decide), c3]
    rfl
  rw [if_neg c3, if_neg c3]
  by_cases c4 : x = [113, 117, 111, 116]
  · rw [if_pos c4, if_pos c4, Option.map_some, P 34 (by decide) (by decide), c4]
    rfl
  rw [if_neg c4, if_neg c4]
  by_cases c5 : x = [97, 112, 111, 115]
  · rw [if_pos c5, if_pos c5, Option.map_some, P 39 (by decide) (by decide), c5]
    rfl
  rw [if_neg c5, if_neg c5]
  by_cases c6 : x.head? = some 35
  · rw [if_pos c6, if_pos c6]
    cases x with
    | nil => cases c6
    | cons a d =>
      have : a = 35 := by simpa using c6
      subst this
      have h := xnum_semi pre d r fun hm => hx (List.mem_cons_of_mem _ hm)
      show Option.map _ (xnumR (strB (pre ++ (38 :: 35 :: (d ++ 59 :: r)))) pre.length) = Option.map _ (numL d)
      rw [h]
      congr 1
      funext z
      simp
      omega
  · rw [if_neg c6, if_neg c6]
    rfl
/-- Without a byte 59 there is no reference. -/
theorem xref_none (pre l : List UInt8) (hl : (59 : UInt8) ∉ l) : xrefR (strB (pre ++ (38 :: l))) pre.length = none := by
  have S : ∀ y : List UInt8, standsB (strB (pre ++ (38 :: l))) pre.length (strB (38 :: (y ++ [59]))) = false := by
    intro y
    rw [stands_pre]
    cases hc : List.isPrefixOf (38 :: (y ++ [59])) (38 :: l) with
    | false => rfl
    | true =>
      obtain ⟨r, hr⟩ := List.isPrefixOf_iff_prefix.1 hc
      exfalso
      injection hr with _ hr
      exact hl (hr ▸ by simp)
  unfold xrefR
  rw [show standsB _ _ ampB = false from S [97, 109, 112], show standsB _ _ ltB = false from S [108, 116], show standsB _ _ gtB = false from S [103, 116], show standsB _ _ quotB = false from S [113, 117, 111, 116], show standsB _ _ aposB = false from S [97, 112, 111, 115]]
  simp only [Bool.false_eq_true, if_false]
  split
  · cases hq : xnumR (strB (pre ++ (38 :: l))) pre.length with
    | none => rfl
    | some q =>
      exfalso
      have hle := xnumR_le hq
      unfold xnumR at hq
      simp only at hq
      split at hq
      · cases hq
      · rename_i hne
        cases hq
        have hb59 : bN (strB (pre ++ (38 :: l))) (xdigR (strB (pre ++ (38 :: l))) 7 (pre.length + 2) 0).2 = 59 := Classical.byContradiction fun h => hne (.inr (.inr (.inr (.inl h))))
        generalize (xdigR (strB (pre ++ (38 :: l))) 7 (pre.length + 2) 0).2 = e at *
        rw [strB_size, List.length_append, List.length_cons] at hle
        have h := bN_mid (pre ++ [38]) l [] (e - (pre.length + 1)) (by omega)
        rw [List.length_append, List.length_singleton, List.append_nil, List.append_assoc, List.singleton_append, show pre.length + 1 + (e - (pre.length + 1)) = e by omega] at h
        have h2 : (l.getD (e - (pre.length + 1)) 0).toNat = 59 := h.symm.trans hb59
        rw [List.getD_eq_getElem?_getD, List.getElem?_eq_getElem (by omega)] at h2
        have h3 : (l[e - (pre.length + 1)]'(by omega)) = 59 := UInt8.toNat_inj.1 h2
        exact hl (h3 ▸ List.getElem_mem _)
  · rfl

/-- A text, parted at a place. -/
theorem parted (s : ByteArray) (k : Nat) (h : k < s.size) : s = strB (s.data.toList.take k ++ ((s[k]'h) :: tailL s (k + 1))) ∧ (s.data.toList.take k).length = k := by
  have hl : k < s.data.toList.length := by rw [Array.length_toList]; exact h
  refine ⟨?_, by rw [List.length_take]; omega⟩
  rw [← tailL_step s k h]
  unfold tailL strB
  rw [List.take_append_drop]
/-- What the program reads at a byte 38. -/
def refP (l : List UInt8) : Option (Int × Nat) := if 0 ≤ Lib.index l [59] then (refSignL (l.take (Lib.index l [59]).toNat)).map fun z => (z, (Lib.index l [59]).toNat) else none
theorem occ_semi (l : List UInt8) (i : Nat) : Lib.occAt l [59] i = true ↔ l[i]? = some 59 := by
  unfold Lib.occAt
  rw [List.isPrefixOf_iff_prefix]
  constructor
  · rintro ⟨r, hr⟩
    have := congrArg List.head? hr
    rw [List.head?_drop] at this
    exact this.symm
  · intro h
    have hi : i < l.length := (List.getElem?_eq_some_iff.1 h).1
    rw [List.drop_eq_getElem_cons hi, (List.getElem?_eq_some_iff.1 h).2]
    exact ⟨_, rfl⟩
theorem refP_eq {s : ByteArray} {k : Nat} (h : k < s.size) (h38 : s[k]'h = 38) : xrefR s k = (refP (tailL s (k + 1))).map fun r => (putS r.1, k + 2 + r.2) := by
  obtain ⟨e, hl⟩ := parted s k h
  rw [h38] at e
  generalize s.data.toList.take k = pre at *
  generalize tailL s (k + 1) = l at *
  subst hl
  rw [e]
  rcases Lib.index_spec l [59] with ⟨h1, h2⟩ | ⟨i, h1, h2, h3, h4⟩
  · unfold refP
    rw [if_neg (by omega)]
    exact xref_none pre l fun hm => by
      obtain ⟨j, hj, he⟩ := List.getElem_of_mem hm
      have := h2 j (by omega)
      have h5 := (occ_semi l j).2 (by rw [List.getElem?_eq_getElem hj, he])
      rw [this] at h5
      cases h5
  · have hi := (occ_semi l i).1 h3
    obtain ⟨hi1, hi2⟩ := List.getElem?_eq_some_iff.1 hi
    have hs : l = l.take i ++ 59 :: l.drop (i + 1) := by
      conv => lhs; rw [← List.take_append_drop i l, List.drop_eq_getElem_cons hi1, hi2]
    have hno : (59 : UInt8) ∉ l.take i := fun hm => by
      obtain ⟨j, hj, he⟩ := List.getElem_of_mem hm
      rw [List.length_take] at hj
      have := h4 j (by omega)
      have h5 := (occ_semi l j).2 (by rw [List.getElem?_eq_getElem (by omega)]; rw [List.getElem_take] at he; rw [he])
      rw [this] at h5
      cases h5
    have hx := xref_semi pre (l.take i) (l.drop (i + 1)) hno
    rw [← hs] at hx
    unfold refP
    rw [h1, if_pos (by omega), show ((i : Nat) : Int).toNat = i from rfl, hx, Option.map_map]
    congr 1
    funext z
    show (putS z, _) = (putS z, _)
    rw [List.length_take, Nat.min_eq_left (by omega)]

end Go.Proofs.YtbmmghkieolpkaaGreatDoor.Sg
