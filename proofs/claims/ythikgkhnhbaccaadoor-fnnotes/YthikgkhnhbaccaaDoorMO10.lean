/- Contract of the model's XmlRef. What the model's XmlRef hands back, at any place; its contract. The program's refAt and XmlRef. -/
import Derived.Test.YthikgkhnhbaccaaDoorMO01
import Derived.Test.YthikgkhnhbaccaaDoorMO13
import Derived.Test.YthikgkhnhbaccaaDoorMO11
import Derived.BigQuiet
import Derived.Deep.QuietTactic
import Derived.Test.YthikgkhnhbaccaaDoorMO04
namespace Go.Proofs.YthikgkhnhbaccaaDoor.Sg
open Go.ChangeShapes Go.WideShapes Go.ChangeAt Go.RowKit

def names5 : List (List UInt8) := [[38, 97, 109, 112, 59], [38, 108, 116, 59], [38, 103, 116, 59], [38, 113, 117, 111, 116, 59], [38, 97, 112, 111, 115, 59]]
def signs5 : List (List UInt8) := [[38], [60], [62], [34], [39]]
/-- What the model's XmlRef hands back. -/
def xrefV : Option (ByteArray × Nat) → Value
  | none => .tuple #[.string ⟨#[]⟩, .int .i64 (-1)]
  | some r => .tuple #[.string r.1, .int .i64 (r.2 : Int)]
theorem stands_head {s t : ByteArray} {k : Nat} {b : UInt8} (h : standsB s k t = true) (ht : t.data.toList.head? = some b) (hk : k < s.size) : s[k]'hk = b := by
  have hl := stands_le h
  unfold standsB at h
  rw [Bool.and_eq_true] at h
  have h2 : (s.extract k (k + t.size)).toList = t.toList := by simpa using h.2
  rw [ByteArray.toList_eq, ByteArray.toList_eq] at h2
  rw [← h2] at ht
  have hz : 0 < t.size := by
    cases hc : t.size with
    | zero =>
      rw [hc] at ht
      have : (s.extract k (k + 0)).data.toList = [] := by
        apply List.eq_nil_of_length_eq_zero
        rw [Array.length_toList]
        show (s.extract k (k + 0)).size = 0
        rw [ByteArray.size_extract]
        omega
      rw [this] at ht
      cases ht
    | succ _ => omega
  have e : (s.extract k (k + t.size)).data.toList = (s.data.toList.drop k).take t.size := by
    rw [ByteArray.data_extract, Array.toList_extract]
    simp
  rw [e, List.head?_take, if_neg (by omega), List.head?_drop] at ht
  have : s.data.toList[k]? = some (s[k]'hk) := by
    rw [List.getElem?_eq_getElem (by rw [Array.length_toList]; exact hk)]
    rfl
  rw [this] at ht
  exact Option.some.inj ht
theorem xrefR_38 {s : ByteArray} {k : Nat} (hk : k < s.size) (h : ¬ (s[k]'hk).toNat = 38) : xrefR s k = none := by
  have key : ∀ t : ByteArray, t.data.toList.head? = some 38 → standsB s k t = false := by
    intro t ht
    cases hc : standsB s k t with
    | false => rfl
    | true => exact absurd (by rw [stands_head hc ht hk]; rfl) h
  unfold xrefR
  rw [key ampB rfl, key ltB rfl, key gtB rfl, key quotB rfl, key aposB rfl, key hashB rfl]
  rfl
theorem xrefR_first {s : ByteArray} {k q : Nat} (hq : q < 5) (h1 : ∀ j, j < q → standsB s k (strB (names5.getD j [])) = false) (h2 : standsB s k (strB (names5.getD q [])) = true) :
    xrefR s k = some (strB (signs5.getD q []), k + (names5.getD q []).length) := by
  have e0 : strB (names5.getD 0 []) = ampB := rfl
  have e1 : strB (names5.getD 1 []) = ltB := rfl
  have e2 : strB (names5.getD 2 []) = gtB := rfl
  have e3 : strB (names5.getD 3 []) = quotB := rfl
  have e4 : strB (names5.getD 4 []) = aposB := rfl
  unfold xrefR
  match q, hq with
  | 0, _ =>
    rw [e0] at h2
    rw [h2]
    rfl
  | 1, _ =>
    have z0 := h1 0 (by omega)
    rw [e0] at z0
    rw [e1] at h2
    rw [z0, h2]
    rfl
  | 2, _ =>
    have z0 := h1 0 (by omega)
    have z1 := h1 1 (by omega)
    rw [e0] at z0
    rw [e1] at z1
    rw [e2] at h2
    rw [z0, z1, h2]
    rfl
  | 3, _ =>
    have z0 := h1 0 (by omega)
    have z1 := h1 1 (by omega)
    have z2 := h1 2 (by omega)
    rw [e0] at z0
    rw [e1] at z1
    rw [e2] at z2
    rw [e3] at h2
    rw [z0, z1, z2, h2]
    rfl
  | 4, _ =>
    have z0 := h1 0 (by omega)
    have z1 := h1 1 (by omega)
    have z2 := h1 2 (by omega)
    have z3 := h1 3 (by omega)
    rw [e0] at z0
    rw [e1] at z1
    rw [e2] at z2
    rw [e3] at z3
    rw [e4] at h2
    rw [z0, z1, z2, z3, h2]
    rfl
theorem xrefR_rest {s : ByteArray} {k : Nat} (h1 : ∀ j, j < 5 → standsB s k (strB (names5.getD j [])) = false) : xrefR s k = if standsB s k hashB = true then (xnumR s k).map (fun r => (putS (r.1 : Int), r.2 + 1)) else none := by
  have z0 := h1 0 (by omega)
  have z1 := h1 1 (by omega)
  have z2 := h1 2 (by omega)
  have z3 := h1 3 (by omega)
  have z4 := h1 4 (by omega)
  rw [show strB (names5.getD 0 []) = ampB from rfl] at z0
  rw [show strB (names5.getD 1 []) = ltB from rfl] at z1
  rw [show strB (names5.getD 2 []) = gtB from rfl] at z2
  rw [show strB (names5.getD 3 []) = quotB from rfl] at z3
  rw [show strB (names5.getD 4 []) = aposB from rfl] at z4
  unfold xrefR
  rw [z0, z1, z2, z3, z4]
  rfl

end Go.Proofs.YthikgkhnhbaccaaDoor.Sg

namespace Go.Proofs.YthikgkhnhbaccaaDoor.Sg
open Go.ChangeShapes Go.WideShapes Go.ChangeAt Go.RowKit

def xrO (s : ByteArray) (i : Int) : Option (ByteArray × Nat) := if 0 ≤ i ∧ i < s.size then xrefR s i.toNat else none
def xrS (s : ByteArray) (i : Int) : ByteArray := ((xrO s i).map (·.1)).getD ⟨#[]⟩
def xrI (s : ByteArray) (i : Int) : Int := ((xrO s i).map fun r => (r.2 : Int)).getD (-1)

end Go.Proofs.YthikgkhnhbaccaaDoor.Sg

namespace Go.Proofs.YthikgkhnhbaccaaDoor.Sg
open Go.ChangeShapes Go.WideShapes Go.ChangeAt Go.RowKit

/-- What refAt tells. -/
def prefV (a : Addr) (k : Int) : Option (ByteArray × Nat) → Value
  | some r => .tuple #[.string r.1, .int .i64 (r.2 : Int), .nilIface]
  | none => .tuple #[.string ⟨#[]⟩, .int .i64 k, errV a]
theorem ret_pref {a : Addr} {k : Int} {o : Option (ByteArray × Nat)} {t : ByteArray} {j : Nat} {v : Value} (h : o = some (t, j)) (hv : v = .tuple #[.string t, .int .i64 (j : Int), .nilIface]) : Ending.returned v = .returned (prefV a k o) := by rw [h, hv]; rfl
theorem ret_pref0 {a : Addr} {k : Int} {o : Option (ByteArray × Nat)} (h : o = none) : Ending.returned (.tuple #[.string ⟨#[]⟩, .int .i64 k, errV a]) = .returned (prefV a k o) := by rw [h]; rfl

theorem tail_bytes (s : ByteArray) (k : Nat) : (s.extract k s.size).data.toList = tailL s k := by
  rw [Lib.extract_data]
  exact List.take_of_length_le (by rw [List.length_drop, ← Lib.size_eq]; exact Nat.le_refl _)
theorem cut_hit {l : List UInt8} {i : Nat} (h : Lib.index l [59] = i) : Lib.cut l [59] = (l.take i, l.drop (i + 1), true) := by
  unfold Lib.cut
  rw [h, if_pos (by omega)]
  rfl
theorem cut_miss {l : List UInt8} (h : Lib.index l [59] = -1) : Lib.cut l [59] = (l, [], false) := by
  unfold Lib.cut
  rw [h, if_neg (by omega)]

theorem xref_not {s : ByteArray} {k : Nat} (h : k < s.size) (h38 : s[k]'h ≠ 38) : xrefR s k = none := by
  have S : ∀ y : List UInt8, standsB s k (strB (38 :: y)) = false := by
    intro y
    cases hc : standsB s k (strB (38 :: y)) with
    | false => rfl
    | true =>
      exfalso
      obtain ⟨e, hl⟩ := parted s k h
      generalize s.data.toList.take k = pre at *
      subst hl
      rw [e, stands_pre, List.isPrefixOf_iff_prefix] at hc
      obtain ⟨r, hr⟩ := hc
      injection hr with h1 _
      exact h38 h1.symm
  unfold xrefR
  rw [show standsB s k ampB = false from S _, show standsB s k ltB = false from S _, show standsB s k gtB = false from S _, show standsB s k quotB = false from S _, show standsB s k aposB = false from S _, show standsB s k hashB = false from S _]
  rfl

end Go.Proofs.YthikgkhnhbaccaaDoor.Sg
