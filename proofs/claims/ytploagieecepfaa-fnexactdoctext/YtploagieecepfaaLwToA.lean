/- The laws' attributes, as they come in: weighed. -/
import Derived.Test.YtploagieecepfaaGAttrs
import Derived.Laws.DeepStrings4
namespace Go.Proofs.Ytploagieecepfaa.Sg
open Go.ChangeShapes Go.WideShapes Go.ChangeAt Go.RowKit

/-- A slice of attributes, wherever it begins, holds just l. -/
def AttrsIn (w : World) (a : Option Addr) (l : List AttrB) : Prop :=
  l = [] ∨ ∃ b off, a = some ⟨b, off, none⟩ ∧ b < w.heap.size ∧ ∀ k (h : k < l.length), w.cell? ⟨b, off + k * 2, none⟩ = some (.string (l[k]'h).1) ∧ w.cell? ⟨b, off + k * 2 + 1, none⟩ = some (.string (l[k]'h).2)
theorem AttrsIn.keep {w w' : World} {a : Option Addr} {l : List AttrB} (h : AttrsIn w a l) (hb : Below w.heap.size w w') : AttrsIn w' a l := by
  rcases h with h | ⟨b, off, h1, h2, h3⟩
  · exact .inl h
  · exact .inr ⟨b, off, h1, Nat.lt_of_lt_of_le h2 hb.size, fun k hk => ⟨(hb.cell h2).trans (h3 k hk).1, (hb.cell h2).trans (h3 k hk).2⟩⟩
def SlAttrsIn (w : World) (v : Value) (l : List AttrB) : Prop := ∃ a cap, v = .slice a l.length cap ∧ AttrsIn w a l
theorem SlAttrsIn.keep {w w' : World} {v : Value} {l : List AttrB} (h : SlAttrsIn w v l) (hb : Below w.heap.size w w') : SlAttrsIn w' v l := by
  obtain ⟨a, cap, h1, h2⟩ := h
  exact ⟨a, cap, h1, h2.keep hb⟩
/-- What is left of a number when a weight is taken; -1 where it does not go. -/
def leftZ (left : Int) (wt : Nat) : Int := if (wt : Int) ≤ left then left - (wt : Int) else -1
def attrW (p : AttrB) : Nat := p.1.size + p.2.size
def attrsW (l : List AttrB) : Nat := l.length + (l.map attrW).sum

theorem ret_left {a b : Int} (h : a = b) : Ending.returned (.int .i64 a) = .returned (.int .i64 b) := by rw [h]

set_option maxHeartbeats 1000000 in
theorem szAttr_any (p : AttrB) (left : Int) (w : World) (hl : -1 ≤ left) (hl2 : left ≤ 1048576) (h1 : p.1.size ≤ 9223372036854775807) (h2 : p.2.size ≤ 9223372036854775807) :
    Calls Try.prog 34 #[.agg #[.string p.1, .string p.2], .int .i64 left] w fun e w' => e = .returned (.int .i64 (leftZ left (attrW p))) ∧ Below w.heap.size w w' := by
  obtain ⟨x, y⟩ := p
  simp only at h1 h2
  have Hn : Hid (leftZ left (attrW (x, y)) = if (x.size : Int) + (y.size : Int) ≤ left then left - ((x.size : Int) + (y.size : Int)) else -1) := by
    show _ = _
    unfold leftZ attrW
    simp only
    rw [show ((x.size + y.size : Nat) : Int) = (x.size : Int) + (y.size : Int) by omega]
  have q1 : IntKind.i64.wrap (left - (x.size : Int)) = left - (x.size : Int) := IntWalk.i64_in _ (by omega)
  by_cases g1 : left - (x.size : Int) < 0
  · have Hn2 : Hid (leftZ left (attrW (x, y)) = -1) := by
      show _ = _
      rw [Hn.out, if_neg (by omega)]
    clear Hn
    go_enter Try.func34, Try.ntmps34
    go_wp2
    go_ret
    exact ⟨ret_left Hn2.out.symm, (Below.refl _ _).alloc (Nat.le_refl _) _⟩
  · have q2 : IntKind.i64.wrap (left - (x.size : Int) - (y.size : Int)) = left - (x.size : Int) - (y.size : Int) := IntWalk.i64_in _ (by omega)
    have g1' : decide (left - (x.size : Int) < 0) = false := decide_eq_false g1
    by_cases g2 : left - (x.size : Int) - (y.size : Int) < 0
    · have Hn2 : Hid (leftZ left (attrW (x, y)) = -1) := by
        show _ = _
        rw [Hn.out, if_neg (by omega)]
      clear Hn
      go_enter Try.func34, Try.ntmps34
      go_wp2
      go_ret
      exact ⟨ret_left Hn2.out.symm, (Below.refl _ _).alloc (Nat.le_refl _) _⟩
    · have Hn2 : Hid (leftZ left (attrW (x, y)) = left - (x.size : Int) - (y.size : Int)) := by
        show _ = _
        rw [Hn.out, if_pos (by omega)]
        omega
      have g2' : decide (left - (x.size : Int) - (y.size : Int) < 0) = false := decide_eq_false g2
      clear Hn
      go_enter Try.func34, Try.ntmps34
      go_wp2
      go_ret
      exact ⟨ret_left Hn2.out.symm, (Below.refl _ _).alloc (Nat.le_refl _) _⟩

theorem leftZ_no {cur : Int} {a b : Nat} (h : leftZ cur a < 0) (_hc : 0 ≤ cur) : leftZ cur (a + b) = -1 := by
  unfold leftZ at *
  split at h
  · omega
  · rw [if_neg (by omega)]
theorem leftZ_yes {cur : Int} {a b : Nat} (h : ¬ leftZ cur a < 0) (_hc : 0 ≤ cur) : leftZ cur (a + b) = leftZ (leftZ cur a) b ∧ leftZ cur a ≤ cur := by
  unfold leftZ at *
  by_cases g : (a : Int) ≤ cur
  · rw [if_pos g] at *
    refine ⟨?_, by omega⟩
    by_cases g2 : ((a + b : Nat) : Int) ≤ cur
    · rw [if_pos g2, if_pos (by omega)]
      omega
    · rw [if_neg g2, if_neg (by omega)]
  · rw [if_neg g] at h
    omega
theorem leftZ_zero {cur : Int} (hc : 0 ≤ cur) : leftZ cur 0 = cur := by
  unfold leftZ
  rw [if_pos (by omega)]
  omega
theorem sum_drop {X : Type} (f : X → Nat) (l : List X) (k : Nat) (h : k < l.length) : ((l.drop k).map f).sum = f (l[k]'h) + ((l.drop (k + 1)).map f).sum := by
  rw [List.drop_eq_getElem_cons h, List.map_cons, List.sum_cons]

/-- Texts of attributes that a machine can hold. -/
def AttrsHeld (l : List AttrB) : Prop := l.length ≤ 9223372036854775807 ∧ ∀ p ∈ l, p.1.size ≤ 9223372036854775807 ∧ p.2.size ≤ 9223372036854775807

set_option maxHeartbeats 2000000 in
theorem szAttrS_any (l : List AttrB) (a : Option Addr) (n cap : Nat) (left : Int) (w : World) (ha : AttrsIn w a l) (hl : l.length = n) (hh : AttrsHeld l) (hl1 : 0 ≤ left) (hl2 : left ≤ 1048576) :
    Calls Try.prog 23 #[.slice a n cap, .int .i64 left] w fun e w' => e = .returned (.int .i64 (leftZ left (attrsW l))) ∧ Below w.heap.size w w' := by
  have Ha : Hid (AttrsIn w a l) := ha
  have Hl : Hid (l.length = n) := hl
  have Hh : Hid (AttrsHeld l) := hh
  have hn : n ≤ 9223372036854775807 := by rw [← hl]; exact hh.1
  have Hn : Hid (leftZ left (attrsW l) = leftZ left (n + (l.map attrW).sum)) := by
    show _ = _
    unfold attrsW
    rw [hl]
  have q1 : IntKind.i64.wrap (left - (n : Int)) = left - (n : Int) := IntWalk.i64_in _ (by omega)
  clear ha hl hh
  by_cases g1 : left - (n : Int) < 0
  · have Hn2 : Hid (leftZ left (attrsW l) = -1) := by
      show _ = _
      rw [Hn.out]
      exact leftZ_no (by unfold leftZ; rw [if_neg (by omega)]; omega) hl1
    clear Hn
    go_enter Try.func23, Try.ntmps23
    go_wp2
    go_ret
    exact ⟨ret_left Hn2.out.symm, Below.refl _ _⟩
  have g1' : decide (left - (n : Int) < 0) = false := decide_eq_false g1
  have Hn2 : Hid (leftZ left (attrsW l) = leftZ (left - (n : Int)) ((l.drop 0).map attrW).sum) := by
    show _ = _
    have e : leftZ left n = left - (n : Int) := by unfold leftZ; rw [if_pos (by omega)]
    rw [Hn.out, (leftZ_yes (by rw [e]; exact g1) hl1).1, e]
    rfl
  clear Hn
  go_enter Try.func23, Try.ntmps23
  go_wp2
  go_loopw [1, 5] (fun lv iv wr => ∃ (k : Nat) (cur : Int), k ≤ n ∧ iv = .int .i64 (k : Int) ∧ lv = .int .i64 cur ∧ 0 ≤ cur ∧ cur ≤ 1048576 ∧ Hid (leftZ left (attrsW l) = leftZ cur ((l.drop k).map attrW).sum) ∧ Below w.heap.size w wr) (fun _ iv _ => n - (intOf iv).toNat)
  case atStart => exact ⟨0, left - (n : Int), Nat.zero_le _, rfl, rfl, by omega, by omega, Hn2, Below.refl _ _⟩
  case round =>
    obtain ⟨k, cur, hk, rfl, rfl, hc0, hc1, Hsp, hbel⟩ := hrel
    by_cases hlt : k < n
    · have hkl : k < l.length := by rw [Hl.out]; exact hlt
      rcases Ha.out with h | ⟨b, off, rfl, hb, hc⟩
      · rw [h] at hkl
        exact absurd hkl (Nat.not_lt_zero _)
      obtain ⟨c1, c2⟩ := hc k hkl
      have hsum := sum_drop attrW l k hkl
      have hp := Hh.out.2 _ (List.getElem_mem hkl)
      clear hc
      generalize l[k]'hkl = p at *
      clear hkl
      have c1' := (hbel.cell (p := ⟨b, off + k * 2, none⟩) hb).trans c1
      have c2' := (hbel.cell (p := ⟨b, off + k * 2 + 1, none⟩) hb).trans c2
      have Hs := fun w => szAttr_any p cur w (by omega) hc1 hp.1 hp.2
      rw [hsum] at Hsp
      clear c1 c2 hsum hp
      obtain ⟨z, hz⟩ : ∃ z, leftZ cur (attrW p) = z := ⟨_, rfl⟩
      rw [hz] at Hs
      have k0 : (0 : Int) ≤ (k : Int) := by omega
      have k1 : (k : Int) < (n : Int) := by omega
      by_cases gz : z < 0
      · have Hf : Hid (leftZ left (attrsW l) = -1) := Hsp.out.trans (leftZ_no (by rw [hz]; exact gz) hc0)
        clear Hsp hz
        obtain ⟨x, y⟩ := p
        go_wp2_with fail
        refine (Hs _).mono ?_
        rintro e w1 ⟨rfl, b1⟩
        have b2 := hbel.trans (b1.mono hbel.size)
        clear b1
        go_wp2_with fail
        go_ret
        exact ⟨ret_left Hf.out.symm, b2⟩
      · have hy := leftZ_yes (b := ((l.drop (k + 1)).map attrW).sum) (by rw [hz]; exact gz) hc0
        rw [hz] at hy
        have Hf : Hid (leftZ left (attrsW l) = leftZ z ((l.drop (k + 1)).map attrW).sum) := Hsp.out.trans hy.1
        have hzc := hy.2
        have gz' : decide (z < 0) = false := decide_eq_false gz
        clear Hsp hz hy
        obtain ⟨x, y⟩ := p
        go_wp2_with fail
        refine (Hs _).mono ?_
        rintro e w1 ⟨rfl, b1⟩
        have b2 := hbel.trans (b1.mono hbel.size)
        clear b1
        go_wp2_with fail
        go_roundw
        case rel => exact ⟨k + 1, z, by omega, by go_num, rfl, by omega, by omega, Hf, b2⟩
        case measure => simp [intOf]; omega
    · have Hf : Hid (leftZ left (attrsW l) = cur) := by
        show _ = _
        rw [Hsp.out, List.drop_eq_nil_of_le (by have := Hl.out; omega)]
        exact leftZ_zero hc0
      have g2 : decide ((k : Int) < (n : Int)) = false := decide_eq_false (by omega)
      clear Hsp
      go_wp2
      go_ret
      exact ⟨ret_left Hf.out.symm, hbel⟩

end Go.Proofs.Ytploagieecepfaa.Sg
