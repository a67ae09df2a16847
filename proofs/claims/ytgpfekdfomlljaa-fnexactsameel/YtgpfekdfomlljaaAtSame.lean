/- Contract of the model's l6Attrs. -/
import Derived.Test.YtgpfekdfomlljaaAtOne
import Derived.Test.YtgpfekdfomlljaaGEqAttr
import Derived.BigQuiet
import Derived.Deep.QuietTactic
namespace Go.Proofs.Ytgpfekdfomlljaa.Sg
open Go.ChangeShapes Go.WideShapes Go.ChangeAt Go.RowKit

def eqA (p q : AttrB) : Bool := p.1.toList == q.1.toList && p.2.toList == q.2.toList
/-- Two lists of attributes are alike. -/
def sameA : List AttrB → List AttrB → Bool
  | [], [] => true
  | p :: x, q :: y => eqA p q && sameA x y
  | _, _ => false
theorem sameA_len : ∀ (x y : List AttrB), sameA x y = true → x.length = y.length
  | [], [], _ => rfl
  | p :: x, q :: y, h => by
    rw [sameA, Bool.and_eq_true] at h
    rw [List.length_cons, List.length_cons, sameA_len x y h.2]
  | [], _ :: _, h => by cases h
  | _ :: _, [], h => by cases h
theorem sameA_end (x y : List AttrB) (h : x = [] ∨ y = []) : sameA x y = decide (x.length = y.length) := by
  rcases h with rfl | rfl
  · cases y <;> simp [sameA]
  · cases x <;> simp [sameA]
theorem sameA_step (x y : List AttrB) (k : Nat) (h1 : k < x.length) (h2 : k < y.length) : sameA (x.drop k) (y.drop k) = (eqA (x[k]'h1) (y[k]'h2) && sameA (x.drop (k + 1)) (y.drop (k + 1))) := by
  rw [List.drop_eq_getElem_cons h1, List.drop_eq_getElem_cons h2, sameA]

set_option maxRecDepth 20000 in
set_option maxHeartbeats 4000000 in
theorem specAttrsSame (x y : List AttrB) (a b : Option Addr) (n m ca cb : Nat) (w : World) (ha : AttrsAt w a x) (hb : AttrsAt w b y) (hx : x.length = n) (hy : y.length = m) (hn : n ≤ 1099511627776) (hm : m ≤ 1099511627776) :
    Calls Try.prog 23 #[.slice a n ca, .slice b m cb] w fun e w' => e = .returned (.bool (sameA x y)) ∧ Below w.heap.size w w' := by
  have HA : Hid (AttrsAt w a x) := ha
  have HB : Hid (AttrsAt w b y) := hb
  have Hx : Hid (x.length = n) := hx
  have Hy : Hid (y.length = m) := hy
  have HR : Hid (sameA x y = sameA (x.drop 0) (y.drop 0)) := rfl
  generalize sameA x y = R at *
  clear ha hb hx hy
  go_enter Try.func23, Try.ntmps23
  go_wp2
  go_loopw [5] (fun iv wr => ∃ k : Nat, k ≤ n ∧ k ≤ m ∧ iv = .int .i64 k ∧ Hid (R = sameA (x.drop k) (y.drop k)) ∧ Below w.heap.size w wr) (fun iv _ => n - (intOf iv).toNat)
  case atStart => exact ⟨0, Nat.zero_le _, Nat.zero_le _, rfl, HR, Below.refl _ _⟩
  case round =>
    clear HR
    obtain ⟨k, hkn, hkm, rfl, HR, hbel⟩ := hrel
    have k0 : (0 : Int) ≤ (k : Int) := by omega
    by_cases h1 : k < n
    · have k1 : (k : Int) < (n : Int) := by omega
      by_cases h2 : k < m
      · have k2 : (k : Int) < (m : Int) := by omega
        have hx1 : k < x.length := by rw [Hx.out]; exact h1
        have hy1 : k < y.length := by rw [Hy.out]; exact h2
        obtain ⟨ab, rfl, c0, c1⟩ := attrs_one (HA.out.below hbel) k hx1
        obtain ⟨bb, rfl, d0, d1⟩ := attrs_one (HB.out.below hbel) k hy1
        rw [sameA_step x y k hx1 hy1] at HR
        generalize x[k]'hx1 = p at *
        generalize y[k]'hy1 = q at *
        obtain ⟨p1, p2⟩ := p
        obtain ⟨q1, q2⟩ := q
        simp only at c0 c1 d0 d1
        have heq := eq_attr p1 p2 q1 q2
        have EQ : Hid (eqA (p1, p2) (q1, q2) = (p1.toList == q1.toList && p2.toList == q2.toList)) := rfl
        rw [EQ.out] at HR
        clear EQ
        cases he : (p1.toList == q1.toList && p2.toList == q2.toList)
        · rw [he] at HR heq
          have Hn : Hid (R = false) := HR
          clear HR
          go_wp2_with fail
          go_quiet (fail)
          have bf := drew_kd hbel nq
          go_wp2_with fail
          go_ret
          exact ⟨ret_bo Hn.out.symm, bf⟩
        · rw [he] at HR heq
          have HR2 : Hid (R = sameA (x.drop (k + 1)) (y.drop (k + 1))) := HR
          clear HR
          go_wp2_with fail
          go_quiet (fail)
          have bf := drew_kd hbel nq
          go_wp2_with fail
          go_roundw
          case rel => exact ⟨k + 1, by omega, by omega, by go_num, HR2, bf⟩
          case measure => simp [intOf]; omega
      · have g2 : decide ((k : Int) < (m : Int)) = false := decide_eq_false (by omega)
        have gl : ((n : Int) == (m : Int)) = false := by simp; omega
        have Hn : Hid (R = false) := by
          show _ = _
          rw [HR.out, sameA_end _ _ (.inr (List.drop_of_length_le (by rw [Hy.out]; omega)))]
          rw [List.length_drop, List.length_drop, Hx.out, Hy.out]
          exact decide_eq_false (by omega)
        clear HR
        go_wp2_with fail
        go_ret
        exact ⟨ret_bo Hn.out.symm, hbel⟩
    · have hk : k = n := by omega
      subst hk
      have g1 : decide ((k : Int) < (k : Int)) = false := by simp
      have Hn : Hid (R = ((k : Int) == (m : Int))) := by
        show _ = _
        rw [HR.out, sameA_end _ _ (.inl (List.drop_of_length_le (by rw [Hx.out]; exact Nat.le_refl _)))]
        rw [List.length_drop, List.length_drop, Hx.out, Hy.out]
        by_cases h : k = m
        · subst h; simp
        · have h2 : ((k : Int) == (m : Int)) = false := by simp; omega
          rw [h2]
          exact decide_eq_false (by omega)
      clear HR
      go_wp2_with fail
      go_ret
      exact ⟨ret_bo Hn.out.symm, hbel⟩

end Go.Proofs.Ytgpfekdfomlljaa.Sg
