/- Pages in memory: what they hold, and that a call owns them; what is open, in plain terms. -/
import Derived.Test.YtlnegnikedinaaaLwItTo2
import Derived.Test.YtlnegnikedinaaaKtP
namespace Go.Proofs.Ytlnegnikedinaaa.Sg
open Go.ChangeShapes Go.WideShapes Go.ChangeAt Go.RowKit

/-- A page. -/
structure PgB where
  its : List ItB
  opn : List Int
  fms : List Int
  hd : Int
  bd : Int

/-- A page that came in holds just p. -/
def PgIn (w : World) (v : Value) (p : PgB) : Prop := ∃ ia ic oa oc fa fc, v = .agg #[.slice ia p.its.length ic, .slice oa p.opn.length oc, .slice fa p.fms.length fc, .int .i64 p.hd, .int .i64 p.bd] ∧ ItsIn w ia p.its ∧ Ints w oa p.opn ∧ Ints w fa p.fms
theorem PgIn.keep {w w' : World} {v : Value} {p : PgB} (h : PgIn w v p) (hb : Below w.heap.size w w') : PgIn w' v p := by
  obtain ⟨ia, ic, oa, oc, fa, fc, h1, h2, h3, h4⟩ := h
  exact ⟨ia, ic, oa, oc, fa, fc, h1, h2.keep hb, h3.below (Nat.le_refl _) hb, h4.below (Nat.le_refl _) hb⟩

/-- A page of the program holds just p, with room in its lists. -/
def PgAt (w : World) (v : Value) (p : PgB) : Prop := ∃ ia ic oa oc fa fc, v = .agg #[.slice ia p.its.length ic, .slice oa p.opn.length oc, .slice fa p.fms.length fc, .int .i64 p.hd, .int .i64 p.bd] ∧ (ItsAt w ia p.its ∧ p.its.length ≤ ic) ∧ (Ints w oa p.opn ∧ p.opn.length ≤ oc) ∧ (Ints w fa p.fms ∧ p.fms.length ≤ fc)
theorem PgAt.keep {w w' : World} {v : Value} {p : PgB} (h : PgAt w v p) (hb : Below w.heap.size w w') : PgAt w' v p := by
  obtain ⟨ia, ic, oa, oc, fa, fc, h1, h2, h3, h4⟩ := h
  exact ⟨ia, ic, oa, oc, fa, fc, h1, ⟨h2.1.keep hb, h2.2⟩, ⟨h3.1.below (Nat.le_refl _) hb, h3.2⟩, ⟨h4.1.below (Nat.le_refl _) hb, h4.2⟩⟩

/-- The three slices of a page are owned, with all that they hold, each row by itself. -/
def OwnPg3 (w : World) (B : Nat) (iv ov fv : Value) (p : PgB) : Prop :=
  ∃ L : List (ItB × Value × Value), L.map (·.1) = p.its ∧ w.ownsRow B 50 7 iv L.length (itCells L) ∧ OwnEachI w B L ∧
    w.ownsRow B 3 1 ov p.opn.length (intCellsI p.opn) ∧ w.ownsRow B 3 1 fv p.fms.length (intCellsI p.fms) ∧
    (∀ b, ov.ownBlock = some b → fv.ownBlock ≠ some b) ∧ (∀ q ∈ L, ∀ b, q.2.2.ownBlock = some b → ov.ownBlock ≠ some b ∧ fv.ownBlock ≠ some b)
def OwnPg (w : World) (B : Nat) (v : Value) (p : PgB) : Prop :=
  ∃ iv ov fv, v = .agg #[iv, ov, fv, .int .i64 p.hd, .int .i64 p.bd] ∧ OwnPg3 w B iv ov fv p
theorem OwnPg3.keep {w w' : World} {B : Nat} {iv ov fv : Value} {p : PgB} (h : OwnPg3 w B iv ov fv p) (hb : Below w.heap.size w w') : OwnPg3 w' B iv ov fv p := by
  obtain ⟨L, h1, h2, h3, h4, h5, h6⟩ := h
  exact ⟨L, h1, owns_below h2 (Nat.le_refl _) hb, h3.keep hb, owns_below h4 (Nat.le_refl _) hb, owns_below h5 (Nat.le_refl _) hb, h6⟩
theorem OwnPg.keep {w w' : World} {B : Nat} {v : Value} {p : PgB} (h : OwnPg w B v p) (hb : Below w.heap.size w w') : OwnPg w' B v p := by
  obtain ⟨iv, ov, fv, h1, h2⟩ := h
  exact ⟨iv, ov, fv, h1, h2.keep hb⟩

theorem pg_of_own {w : World} {B : Nat} {v : Value} {p : PgB} (h : OwnPg w B v p) : PgAt w v p := by
  obtain ⟨iv, ov, fv, rfl, L, h1, h2, h3, h4, h5, _⟩ := h
  obtain ⟨ia, ic, rfl, hic, hA⟩ := its_of_own (l := p.its) ⟨L, h1, h2, h3⟩
  obtain ⟨oa, oc, rfl, hoc, hO⟩ := ints_of_own h4
  obtain ⟨fa, fc, rfl, hfc, hF⟩ := ints_of_own h5
  exact ⟨ia, ic, oa, oc, fa, fc, rfl, ⟨hA, hic⟩, ⟨hO, hoc⟩, ⟨hF, hfc⟩⟩

/-- The weight of a page. -/
def pgW (p : PgB) : Nat := itsW p.its + (p.opn.length + p.fms.length)
def PgHeld (p : PgB) : Prop := ItsHeld p.its ∧ p.opn.length ≤ 9223372036854775807 ∧ p.fms.length ≤ 9223372036854775807

/-- The name of what is open at a place; empty where there is none. -/
def nameAt (p : PgB) (k : Nat) : ByteArray :=
  match p.opn[k]? with
  | none => ⟨#[]⟩
  | some i => if 0 ≤ i then (match p.its[i.toNat]? with | none => ⟨#[]⟩ | some t => t.nm) else ⟨#[]⟩
/-- The innermost one of a name among the first n that are open. -/
def findF (p : PgB) (s : ByteArray) : Nat → Int
  | 0 => -1
  | n + 1 => if nameAt p n = s then (n : Int) else findF p s n
/-- A text held against one that is written out. -/
def isT (s : ByteArray) (l : List UInt8) : Bool := s.toList == l
/-- What keeps a name from being in scope. -/
def stopsB (x : ByteArray) (list : Bool) : Bool := isIn x wallL || (list && (isT x [117, 108] || isT x [111, 108]))
/-- Whether a name is in scope among the first n that are open. -/
def scopeF (p : PgB) (s : ByteArray) (list : Bool) : Nat → Bool
  | 0 => false
  | n + 1 => if nameAt p n = s then true else if stopsB (nameAt p n) list = true then false else scopeF p s list n
def tableB : ByteArray := ⟨#[116, 97, 98, 108, 101]⟩
/-- The name of the innermost one. -/
def lastN (p : PgB) : ByteArray := if p.opn.length = 0 then ⟨#[]⟩ else nameAt p (p.opn.length - 1)
def inTableB (p : PgB) : Bool := isT (lastN p) [116, 97, 98, 108, 101] || (isT (lastN p) [116, 98, 111, 100, 121] || isT (lastN p) [116, 114])

theorem nameAt_none {p : PgB} {k : Nat} (h : p.opn.length ≤ k) : nameAt p k = ⟨#[]⟩ := by
  unfold nameAt
  rw [List.getElem?_eq_none h]
theorem nameAt_low {p : PgB} {k : Nat} (h : k < p.opn.length) (hi : p.opn[k] < 0) : nameAt p k = ⟨#[]⟩ := by
  unfold nameAt
  rw [List.getElem?_eq_getElem h]
  simp only
  rw [if_neg (by omega)]
theorem nameAt_high {p : PgB} {k : Nat} (h : k < p.opn.length) (hi : (p.its.length : Int) ≤ p.opn[k]) : nameAt p k = ⟨#[]⟩ := by
  unfold nameAt
  rw [List.getElem?_eq_getElem h]
  simp only
  rw [if_pos (by omega), List.getElem?_eq_none (by omega)]
theorem nameAt_in {p : PgB} {k i : Nat} (h : k < p.opn.length) (hi : p.opn[k] = (i : Int)) (hl : i < p.its.length) : nameAt p k = (p.its[i]'hl).nm := by
  unfold nameAt
  rw [List.getElem?_eq_getElem h]
  simp only
  rw [if_pos (by omega), hi, Int.toNat_natCast, List.getElem?_eq_getElem hl]

end Go.Proofs.Ytlnegnikedinaaa.Sg
