/- Texts in memory, one behind the other. Kinds of tags, in plain terms. No program in it. Pages in memory: what they hold, and that a call owns them; what is open, in plain terms. -/
import Derived.Test.YtlnegnikedinaaaSgOk
import Derived.Below
import Derived.Test.YtlnegnikedinaaaLwItTo2
namespace Go.Proofs.Ytlnegnikedinaaa.Sg
open Go.ChangeShapes Go.WideShapes Go.ChangeAt Go.RowKit

/-- A text of some bytes. -/
def strB (l : List UInt8) : ByteArray := ⟨l.toArray⟩
theorem strB_size (l : List UInt8) : (strB l).size = l.length := by simp [strB, ByteArray.size]
theorem strB_inj {l m : List UInt8} (h : strB l = strB m) : l = m := by
  have := congrArg (fun s : ByteArray => s.data.toList) h
  simpa [strB] using this
theorem strB_of (s : ByteArray) : strB s.data.toList = s := by simp [strB]

theorem str_eq {y : List UInt8} {s : ByteArray} (h : y = s.data.toList) : ((strB y).toList == s.toList) = true := by
  rw [ByteArray.toList_eq, ByteArray.toList_eq, ← h]
  simp [strB]
theorem str_ne {y : List UInt8} {s : ByteArray} (h : y ≠ s.data.toList) : ((strB y).toList == s.toList) = false := by
  rw [ByteArray.toList_eq, ByteArray.toList_eq]
  simpa [strB] using h

/-- Texts lie one behind the other from a block's beginning. -/
def Texts (w : World) (b : Nat) (ls : List (List UInt8)) : Prop :=
  b < w.heap.size ∧ ∀ k, k < ls.length → w.cell? ⟨b, k, none⟩ = some (.string (strB (ls.getD k [])))

theorem Texts.laid (w : World) (ls : List (List UInt8)) (C : Array Value) (t : TypeId) (hC : C = (ls.map fun l => Value.string (strB l)).toArray) : Texts (w.alloc (.cells C t)) w.heap.size ls := by
  subst hC
  refine ⟨by simp, fun k hk => ?_⟩
  rw [World.cell?_alloc_new, List.getElem?_toArray, List.getElem?_map]
  simp [List.getD, hk]

theorem Texts.below {w w' : World} {b : Nat} {ls : List (List UInt8)} (h : Texts w b ls) {B : Nat} (hB : b < B) (hb : Below B w w') : Texts w' b ls :=
  ⟨Nat.lt_of_lt_of_le h.1 hb.size, fun k hk => (hb.cell hB).trans (h.2 k hk)⟩

end Go.Proofs.Ytlnegnikedinaaa.Sg

namespace Go.Proofs.Ytlnegnikedinaaa.Sg

/-- Whether a name is among some. -/
def isIn (s : ByteArray) (ls : List (List UInt8)) : Bool := ls.any fun y => y == s.data.toList
theorem isIn_iff {s : ByteArray} {ls : List (List UInt8)} : isIn s ls = true ↔ s.data.toList ∈ ls := by
  unfold isIn
  rw [List.any_eq_true]
  constructor
  · rintro ⟨y, h, e⟩
    rw [← eq_of_beq e]
    exact h
  · intro h
    exact ⟨_, h, by simp⟩
theorem isIn_drop {s : ByteArray} {ls : List (List UInt8)} {k : Nat} (h : k < ls.length) : isIn s (ls.drop k) = (ls.getD k [] == s.data.toList || isIn s (ls.drop (k + 1))) := by
  unfold isIn
  rw [List.drop_eq_getElem_cons h, List.any_cons]
  simp [List.getD, h]
theorem isIn_end {s : ByteArray} {ls : List (List UInt8)} {k : Nat} (h : ls.length ≤ k) : isIn s (ls.drop k) = false := by
  unfold isIn
  rw [List.drop_eq_nil_of_le h]
  rfl

def voidL : List (List UInt8) := [[98, 114], [104, 114], [105, 109, 103], [105, 110, 112, 117, 116], [109, 101, 116, 97], [108, 105, 110, 107], [98, 97, 115, 101], [119, 98, 114], [99, 111, 108]]
def ofHeadL : List (List UInt8) := [[116, 105, 116, 108, 101], [109, 101, 116, 97], [108, 105, 110, 107], [98, 97, 115, 101], [115, 116, 121, 108, 101], [115, 99, 114, 105, 112, 116]]
def formatL : List (List UInt8) := [[97], [98], [105], [117], [101, 109], [115, 116, 114, 111, 110, 103], [99, 111, 100, 101], [115, 109, 97, 108, 108]]
def blockL : List (List UInt8) := [[112], [100, 105, 118], [117, 108], [111, 108], [108, 105], [104, 49], [104, 50], [104, 51], [112, 114, 101], [104, 114], [116, 97, 98, 108, 101], [102, 111, 114, 109], [115, 101, 99, 116, 105, 111, 110]]
def partL : List (List UInt8) := [[116, 98, 111, 100, 121], [116, 114], [116, 100], [116, 104]]
def wallL : List (List UInt8) := [[104, 116, 109, 108], [116, 97, 98, 108, 101], [116, 100], [116, 104]]
def headL : List (List UInt8) := [[104, 49], [104, 50], [104, 51]]

/-- No name is of both. -/
theorem isIn_apart {s : ByteArray} {ls ms : List (List UInt8)} (h : ls.all (fun y => !(ms.any fun z => z == y)) = true) : (isIn s ls && isIn s ms) = false := by
  cases h1 : isIn s ls with
  | false => rfl
  | true =>
    have h2 := List.all_eq_true.1 h _ (isIn_iff.1 h1)
    unfold isIn
    simpa using h2
/-- A name of the one kind is of the other. -/
theorem isIn_sub {s : ByteArray} {ls ms : List (List UInt8)} (h : ls.all (fun y => ms.any fun z => z == y) = true) (h1 : isIn s ls = true) : isIn s ms = true :=
  List.all_eq_true.1 h _ (isIn_iff.1 h1)
theorem part_block (s : ByteArray) : (isIn s partL && isIn s blockL) = false := isIn_apart (by decide)
theorem format_void (s : ByteArray) : (isIn s formatL && isIn s voidL) = false := isIn_apart (by decide)
theorem head_block (s : ByteArray) (h : isIn s headL = true) : isIn s blockL = true := isIn_sub (by decide) h

end Go.Proofs.Ytlnegnikedinaaa.Sg

namespace Go.Proofs.Ytlnegnikedinaaa.Sg
open Go.ChangeShapes Go.WideShapes Go.ChangeAt Go.RowKit

/-- A page. -/
structure PgB where
  its : List ItB
  opn : List Int
  fms : List Int
  hd : Int
  bd : Int

/-- A page that came in holds just p. -/
def PgIn (w : World) (v : Value) (p : PgB) : Prop := ∃ ia ic oa oc fa fc, v = .agg #[.slice ia p.its.length ic, .slice oa p.opn.length oc, .slice fa p.fms.length fc, .int .i64 p.hd, .int .i64 p.bd] ∧ ItsIn w ia p.its ∧ Ints w oa p.opn ∧ Ints w fa p.fms
theorem PgIn.keep {w w' : World} {v : Value} {p : PgB} (h : PgIn w v p) (hb : Below w.heap.size w w') : PgIn w' v p := by
  obtain ⟨ia, ic, oa, oc, fa, fc, h1, h2, h3, h4⟩ := h
  exact ⟨ia, ic, oa, oc, fa, fc, h1, h2.keep hb, h3.below (Nat.le_refl _) hb, h4.below (Nat.le_refl _) hb⟩

/-- A page of the program holds just p, with room in its lists. -/
def PgAt (w : World) (v : Value) (p : PgB) : Prop := ∃ ia ic oa oc fa fc, v = .agg #[.slice ia p.its.length ic, .slice oa p.opn.length oc, .slice fa p.fms.length fc, .int .i64 p.hd, .int .i64 p.bd] ∧ (ItsAt w ia p.its ∧ p.its.length ≤ ic) ∧ (Ints w oa p.opn ∧ p.opn.length ≤ oc) ∧ (Ints w fa p.fms ∧ p.fms.length ≤ fc)
theorem PgAt.keep {w w' : World} {v : Value} {p : PgB} (h : PgAt w v p) (hb : Below w.heap.size w w') : PgAt w' v p := by
  obtain ⟨ia, ic, oa, oc, fa, fc, h1, h2, h3, h4⟩ := h
  exact ⟨ia, ic, oa, oc, fa, fc, h1, ⟨h2.1.keep hb, h2.2⟩, ⟨h3.1.below (Nat.le_refl _) hb, h3.2⟩, ⟨h4.1.below (Nat.le_refl _) hb, h4.2⟩⟩

/-- The three slices of a page are owned, with all that they hold, each row by itself. -/
def OwnPg3 (w : World) (B : Nat) (iv ov fv : Value) (p : PgB) : Prop :=
  ∃ L : List (ItB × Value × Value), L.map (·.1) = p.its ∧ w.ownsRow B 50 7 iv L.length (itCells L) ∧ OwnEachI w B L ∧
    w.ownsRow B 3 1 ov p.opn.length (intCellsI p.opn) ∧ w.ownsRow B 3 1 fv p.fms.length (intCellsI p.fms) ∧
    (∀ b, ov.ownBlock = some b → fv.ownBlock ≠ some b) ∧ (∀ q ∈ L, ∀ b, q.2.2.ownBlock = some b → ov.ownBlock ≠ some b ∧ fv.ownBlock ≠ some b)
def OwnPg (w : World) (B : Nat) (v : Value) (p : PgB) : Prop :=
  ∃ iv ov fv, v = .agg #[iv, ov, fv, .int .i64 p.hd, .int .i64 p.bd] ∧ OwnPg3 w B iv ov fv p
theorem OwnPg3.keep {w w' : World} {B : Nat} {iv ov fv : Value} {p : PgB} (h : OwnPg3 w B iv ov fv p) (hb : Below w.heap.size w w') : OwnPg3 w' B iv ov fv p := by
  obtain ⟨L, h1, h2, h3, h4, h5, h6⟩ := h
  exact ⟨L, h1, owns_below h2 (Nat.le_refl _) hb, h3.keep hb, owns_below h4 (Nat.le_refl _) hb, owns_below h5 (Nat.le_refl _) hb, h6⟩
theorem OwnPg.keep {w w' : World} {B : Nat} {v : Value} {p : PgB} (h : OwnPg w B v p) (hb : Below w.heap.size w w') : OwnPg w' B v p := by
  obtain ⟨iv, ov, fv, h1, h2⟩ := h
  exact ⟨iv, ov, fv, h1, h2.keep hb⟩

theorem pg_of_own {w : World} {B : Nat} {v : Value} {p : PgB} (h : OwnPg w B v p) : PgAt w v p := by
  obtain ⟨iv, ov, fv, rfl, L, h1, h2, h3, h4, h5, _⟩ := h
  obtain ⟨ia, ic, rfl, hic, hA⟩ := its_of_own (l := p.its) ⟨L, h1, h2, h3⟩
  obtain ⟨oa, oc, rfl, hoc, hO⟩ := ints_of_own h4
  obtain ⟨fa, fc, rfl, hfc, hF⟩ := ints_of_own h5
  exact ⟨ia, ic, oa, oc, fa, fc, rfl, ⟨hA, hic⟩, ⟨hO, hoc⟩, ⟨hF, hfc⟩⟩

/-- The weight of a page. -/
def pgW (p : PgB) : Nat := itsW p.its + (p.opn.length + p.fms.length)
def PgHeld (p : PgB) : Prop := ItsHeld p.its ∧ p.opn.length ≤ 9223372036854775807 ∧ p.fms.length ≤ 9223372036854775807

/-- The name of what is open at a place; empty where there is none. -/
def nameAt (p : PgB) (k : Nat) : ByteArray :=
  match p.opn[k]? with
  | none => ⟨#[]⟩
  | some i => if 0 ≤ i then (match p.its[i.toNat]? with | none => ⟨#[]⟩ | some t => t.nm) else ⟨#[]⟩
/-- The innermost one of a name among the first n that are open. -/
def findF (p : PgB) (s : ByteArray) : Nat → Int
  | 0 => -1
  | n + 1 => if nameAt p n = s then (n : Int) else findF p s n
/-- A text held against one that is written out. -/
def isT (s : ByteArray) (l : List UInt8) : Bool := s.toList == l
/-- What keeps a name from being in scope. -/
def stopsB (x : ByteArray) (list : Bool) : Bool := isIn x wallL || (list && (isT x [117, 108] || isT x [111, 108]))
/-- Whether a name is in scope among the first n that are open. -/
def scopeF (p : PgB) (s : ByteArray) (list : Bool) : Nat → Bool
  | 0 => false
  | n + 1 => if nameAt p n = s then true else if stopsB (nameAt p n) list = true then false else scopeF p s list n
def tableB : ByteArray := ⟨#[116, 97, 98, 108, 101]⟩
/-- The name of the innermost one. -/
def lastN (p : PgB) : ByteArray := if p.opn.length = 0 then ⟨#[]⟩ else nameAt p (p.opn.length - 1)
def inTableB (p : PgB) : Bool := isT (lastN p) [116, 97, 98, 108, 101] || (isT (lastN p) [116, 98, 111, 100, 121] || isT (lastN p) [116, 114])

theorem nameAt_none {p : PgB} {k : Nat} (h : p.opn.length ≤ k) : nameAt p k = ⟨#[]⟩ := by
  unfold nameAt
  rw [List.getElem?_eq_none h]
theorem nameAt_low {p : PgB} {k : Nat} (h : k < p.opn.length) (hi : p.opn[k] < 0) : nameAt p k = ⟨#[]⟩ := by
  unfold nameAt
  rw [List.getElem?_eq_getElem h]
  simp only
  rw [if_neg (by omega)]
theorem nameAt_high {p : PgB} {k : Nat} (h : k < p.opn.length) (hi : (p.its.length : Int) ≤ p.opn[k]) : nameAt p k = ⟨#[]⟩ := by
  unfold nameAt
  rw [List.getElem?_eq_getElem h]
  simp only
  rw [if_pos (by omega), List.getElem?_eq_none (by omega)]
theorem nameAt_in {p : PgB} {k i : Nat} (h : k < p.opn.length) (hi : p.opn[k] = (i : Int)) (hl : i < p.its.length) : nameAt p k = (p.its[i]'hl).nm := by
  unfold nameAt
  rw [List.getElem?_eq_getElem h]
  simp only
  rw [if_pos (by omega), hi, Int.toNat_natCast, List.getElem?_eq_getElem hl]

end Go.Proofs.Ytlnegnikedinaaa.Sg
