/- Contract of slices.Equal over attributes. An element's six cells. -/
import Derived.Test.YtgpfekdfomlljaaElSpec
import Derived.Test.YtgpfekdfomlljaaElSame
import Derived.Shelf.Abstract
namespace Go.Proofs.Ytgpfekdfomlljaa.Sg
open Go.ChangeShapes Go.WideShapes Go.ChangeAt Go.RowKit Go.Shelf

/-- The six cells of an element, each by its kind. -/
theorem ElIn.parts {lo : Nat} {P : Nat → Prop} {W : World} {e : ElB} {b o : Nat} (h : ElIn (QA lo) P W e b o) : ∃ kd sp nm xa n xc tx ka m kc, W.cell? ⟨b, o, none⟩ = some (.int .i64 kd) ∧ W.cell? ⟨b, o + 1, none⟩ = some (.int .i64 sp) ∧ W.cell? ⟨b, o + 2, none⟩ = some (.string nm) ∧ W.cell? ⟨b, o + 3, none⟩ = some (.slice xa n xc) ∧ W.cell? ⟨b, o + 4, none⟩ = some (.string tx) ∧ W.cell? ⟨b, o + 5, none⟩ = some (.slice ka m kc) ∧ kindE e = kd ∧ ElV (QA lo) P W (.agg #[.int .i64 kd, .int .i64 sp, .string nm, .slice xa n xc, .string tx, .slice ka m kc]) e := by
  obtain ⟨kd, sp, nm, ats, tx, ks⟩ := e
  unfold ElIn at h
  obtain ⟨c0, c1, c2, ⟨av, c3, hq⟩, c4, ka, kc, c5, hk⟩ := h
  obtain ⟨xa, xc, rfl⟩ := (QA.lies lo).slice hq
  exact ⟨kd, sp, nm, xa, _, xc, tx, ka, _, kc, c0, c1, c2, c3, c4, c5, rfl, _, ka, kc, rfl, hq, hk⟩

theorem sameA_no {x y : List AttrB} (h : x.length ≠ y.length) : sameA x y = false := by
  cases hs : sameA x y
  · rfl
  · exact absurd (sameA_len x y hs) h

set_option maxRecDepth 20000 in
set_option maxHeartbeats 4000000 in
theorem implAttrsEq (x y : List AttrB) (a b : Option Addr) (n m ca cb : Nat) (w : World) (ha : AttrsAt w a x) (hb : AttrsAt w b y) (hx : x.length = n) (hy : y.length = m) (hn : n ≤ 1099511627776) (hm : m ≤ 1099511627776) :
    Calls Try.prog 30 #[.slice a n ca, .slice b m cb] w fun e w' => e = .returned (.bool (sameA x y)) ∧ Below w.heap.size w w' := by
  by_cases hnm : n = m
  rotate_left
  · have Hf : Hid (sameA x y = false) := sameA_no (by omega)
    have g1 : ((n : Int) != (m : Int)) = true := by simp; omega
    clear ha hb hx hy
    go_enter Try.func30, Try.ntmps30
    go_wp2_with fail
    go_ret
    exact ⟨ret_bo Hf.out.symm, Below.refl _ _⟩
  subst hnm
  have HA : Hid (AttrsAt w a x) := ha
  have HB : Hid (AttrsAt w b y) := hb
  have Hx : Hid (x.length = n) := hx
  have Hy : Hid (y.length = n) := hy
  have HR : Hid (sameA x y = sameA (x.drop 0) (y.drop 0)) := rfl
  generalize sameA x y = R at *
  clear ha hb hx hy hm
  go_enter Try.func30, Try.ntmps30
  go_wp2_with fail
  go_loopw [5, 13] (fun _ iv wr => ∃ k : Nat, k ≤ n ∧ iv = .int .i64 k ∧ Hid (R = sameA (x.drop k) (y.drop k)) ∧ Below w.heap.size w wr) (fun _ iv _ => n - (intOf iv).toNat)
  case atStart => exact ⟨0, Nat.zero_le _, rfl, HR, Below.refl _ _⟩
  case round =>
    clear HR
    obtain ⟨k, hkn, rfl, HR, hbel⟩ := hrel
    have k0 : (0 : Int) ≤ (k : Int) := by omega
    by_cases h1 : k < n
    · have k1 : (k : Int) < (n : Int) := by omega
      have hx1 : k < x.length := by rw [Hx.out]; exact h1
      have hy1 : k < y.length := by rw [Hy.out]; exact h1
      obtain ⟨ab, rfl, c0, c1⟩ := attrs_one (HA.out.below hbel) k hx1
      obtain ⟨bb, rfl, d0, d1⟩ := attrs_one (HB.out.below hbel) k hy1
      rw [sameA_step x y k hx1 hy1] at HR
      generalize x[k]'hx1 = p at *
      generalize y[k]'hy1 = q at *
      obtain ⟨p1, p2⟩ := p
      obtain ⟨q1, q2⟩ := q
      simp only at c0 c1 d0 d1
      have heq := eq_attr p1 p2 q1 q2
      have EQ : Hid (eqA (p1, p2) (q1, q2) = (p1.toList == q1.toList && p2.toList == q2.toList)) := rfl
      rw [EQ.out] at HR
      clear EQ
      cases he : (p1.toList == q1.toList && p2.toList == q2.toList)
      · rw [he] at HR heq
        have Hn : Hid (R = false) := HR
        clear HR
        go_wp2_with fail
        go_quiet (fail)
        have bf := drew_kd hbel nq
        go_wp2_with fail
        go_ret
        exact ⟨ret_bo Hn.out.symm, bf⟩
      · rw [he] at HR heq
        have HR2 : Hid (R = sameA (x.drop (k + 1)) (y.drop (k + 1))) := HR
        clear HR
        go_wp2_with fail
        go_quiet (fail)
        have bf := drew_kd hbel nq
        go_wp2_with fail
        go_roundw
        case rel => exact ⟨k + 1, by omega, by go_num, HR2, bf⟩
        case measure => simp [intOf]; omega
    · have hk : k = n := by omega
      subst hk
      have g1 : decide ((k : Int) < (k : Int)) = false := by simp
      have Hn : Hid (R = true) := by
        show _ = _
        rw [HR.out, sameA_end _ _ (.inl (List.drop_of_length_le (by rw [Hx.out]; exact Nat.le_refl _)))]
        rw [List.length_drop, List.length_drop, Hx.out, Hy.out]
        exact decide_eq_true rfl
      clear HR
      go_wp2_with fail
      go_ret
      exact ⟨ret_bo Hn.out.symm, hbel⟩


end Go.Proofs.Ytgpfekdfomlljaa.Sg
