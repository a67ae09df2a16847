/- Contract of the model's AttrsOf. -/
import Derived.Test.YtdpjmngodbgacaaGreatDoorElAttrsQ
namespace Go.Proofs.YtdpjmngodbgacaaGreatDoor.Sg
open Go.ChangeShapes Go.WideShapes Go.ChangeAt Go.RowKit

/-- One attribute more, made strict, if it is to stand. -/
def attrMade (out : List AttrB) (p : AttrB) : List AttrB := if (stNameS p.1).toList == xmlnsB.toList || hasA out (stNameS p.1) then out else out ++ [(stNameS p.1, mildS p.2)]
def attrsMade (out l : List AttrB) : List AttrB := l.foldl attrMade out
theorem attrsMade_drop (out l : List AttrB) (k : Nat) (h : k < l.length) : attrsMade out (l.drop k) = attrsMade (attrMade out (l[k]'h)) (l.drop (k + 1)) := by
  unfold attrsMade
  rw [List.drop_eq_getElem_cons h, List.foldl_cons]
theorem attrMade_len (out : List AttrB) (p : AttrB) : (attrMade out p).length ≤ out.length + 1 := by
  unfold attrMade
  split
  · omega
  · rw [List.length_append]
    exact Nat.le_refl _
theorem info_pair : (Tryz.prog.info? 34).map (fun i => (i.zero, i.size, i.bytes)) = some (some (.agg #[.string ⟨#[]⟩, .string ⟨#[]⟩]), 2, 32) := by kernel_rfl
theorem pair_at (w : World) (x y : Value) (t : TypeId) : ∀ j u, ([x, y])[j]? = some u → (w.alloc (.cells #[x, y] t)).cell? ((⟨w.heap.size, 0, none⟩ : Addr).add j) = some u := by
  intro j u hj
  match j, hj with
  | 0, hj => simp at hj; subst hj; simp [Addr.add]
  | 1, hj => simp at hj; subst hj; simp [Addr.add]
theorem pair_one (x y : ByteArray) : ∀ u ∈ [Value.string x, Value.string y], u.oneCell' = true := by
  intro u hu
  simp at hu
  rcases hu with rfl | rfl <;> rfl
theorem own_grownA {w w2 : World} {B : Nat} {e : TypeId} {z : Nat} {v : Value} {n : Nat} {xs : List Value} {B0 : Nat} {w0 : World} (hown : w.ownsRow B e z v n xs) (hb : Below B0 w0 w) (hB : B0 ≤ B) (hg : w.grownBy w2 v.ownBlock) (hsz : B0 ≤ w.heap.size) : Below B0 w0 w2 :=
  hb.grown hg hsz (by
    intro r hr
    obtain ⟨_, h⟩ := hown
    rcases h with ⟨h, _⟩ | ⟨g, _, _, h, hg, _⟩
    · rw [h] at hr
      simp [Value.ownBlock] at hr
    · rw [h] at hr
      simp [Value.ownBlock] at hr
      omega)

set_option maxRecDepth 20000 in
set_option maxHeartbeats 8000000 in
theorem specAttrsOf (l : List AttrB) (a : Option Addr) (n cap : Nat) (w : World) (ha : AttrsAt w a l) (hl : l.length = n) (hn : n ≤ 1048576) (hsz : ∀ p ∈ l, p.1.size ≤ 1048576 ∧ p.2.size ≤ 1048576) :
    Calls Tryz.prog 5 #[.slice a n cap] w fun e w' => ∃ v, e = .returned v ∧ w'.ownsRow w.heap.size 34 2 v (attrsMade [] l).length (attrCells (attrsMade [] l)) ∧ Below w.heap.size w w' := by
  obtain ⟨i0, hi0, hz0, hz1, hz2⟩ := info_parts info_pair
  have Hi : Hid (Tryz.prog.info? 34 = some i0) := hi0
  have Hz0 : Hid (i0.zero = some (.agg #[.string ⟨#[]⟩, .string ⟨#[]⟩])) := hz0
  have Hz1 : Hid (i0.size = 2) := hz1
  have Hz2 : Hid (i0.bytes = 32) := hz2
  have HA : Hid (AttrsAt w a l) := ha
  have Hl : Hid (l.length = n) := hl
  have HW : Hid (∀ p ∈ l, p.1.size ≤ 1048576 ∧ p.2.size ≤ 1048576) := hsz
  obtain ⟨R, HR⟩ : ∃ R, Hid (attrsMade [] (l.drop 0) = R) := ⟨_, rfl⟩
  have HR0 : attrsMade [] l = R := HR.out
  rw [HR0]
  clear ha hl hsz hi0 hz0 hz1 hz2 HR0
  go_enter Tryz.func5, Tryz.ntmps5
  go_wp2_with fail
  go_loopw [3, 4] (fun v iv wr => ∃ (k : Nat) (out : List AttrB), k ≤ n ∧ out.length ≤ k ∧ iv = .int .i64 (k : Int) ∧ wr.ownsRow w.heap.size 34 2 v out.length (attrCells out) ∧ Below w.heap.size w wr ∧ Hid (attrsMade out (l.drop k) = R)) (fun _ iv _ => n - (intOf iv).toNat)
  case atStart =>
    refine ⟨0, [], Nat.zero_le _, Nat.le_refl _, rfl, ⟨rfl, .inr ⟨w.heap.size, 0, #[], rfl, Nat.le_refl _, ?_, Nat.le_refl _, Nat.zero_le _, rfl, rfl⟩⟩, (Below.refl _ _).alloc (Nat.le_refl _) _, HR⟩
    show (w.heap.push _)[w.heap.size]? = _
    simp
  case round =>
    clear HR
    obtain ⟨k, out, hk, hout, rfl, hown, hbel, HR⟩ := hrel
    by_cases hlt : k < n
    · have hkl : k < l.length := by rw [Hl.out]; exact hlt
      obtain ⟨b, rfl, c0, c1⟩ := attrs_one (HA.out.below hbel) k hkl
      have hp := HW.out _ (List.getElem_mem hkl)
      have hst := HR.out
      rw [attrsMade_drop out l k hkl] at hst
      generalize l[k]'hkl = p at *
      clear hkl HR
      obtain ⟨x, v⟩ := p
      simp only at c0 c1 hp
      have HN := fun W => specNameOf x W (by omega)
      have HT := fun W => specTextOf v W (by omega)
      have Hok : Hid (attrMade out (x, v) = if (stNameS x).toList == [120, 109, 108, 110, 115] || hasA out (stNameS x) then out else out ++ [(stNameS x, mildS v)]) := by
        show _ = _
        unfold attrMade
        rw [show xmlnsB.toList = [120, 109, 108, 110, 115] from ByteArray.toList_mk _]
      generalize stNameS x = nm at *
      generalize mildS v = vl at *
      have k0 : (0 : Int) ≤ (k : Int) := by omega
      have k1 : (k : Int) < (n : Int) := by omega
      go_wp2_with fail
      refine (HN _).mono ?_
      rintro e w1 ⟨rfl, b1⟩
      have hb0 : b < wr.heap.size := block_lt_of_cell c1
      have c1' := (b1.cell (by exact hb0)).trans c1
      have hb1 : b < w1.heap.size := Nat.lt_of_lt_of_le hb0 b1.size
      have hown1 := owns_below hown (Nat.le_refl _) b1
      have hbel1 : Below w.heap.size w w1 := hbel.trans (b1.mono hbel.size)
      clear b1 c0 c1 HN hown hbel hb0
      cases hX : (nm.toList == [120, 109, 108, 110, 115])
      · obtain ⟨oa, oc, rfl, hAt⟩ := attrs_of_own hown1
        have Hhas : Hid (Calls Tryz.prog 13 #[.slice oa out.length oc, .string nm] w1 fun e w' => e = .returned (.bool (hasA out nm)) ∧ w' = w1) := specHas out nm oa out.length oc _ hAt rfl (by omega)
        clear hAt
        go_wp2_with fail
        refine Hhas.out.mono ?_
        rintro e w2 ⟨rfl, rfl⟩
        cases hh : hasA out nm
        · have HR2 : Hid (attrsMade (out ++ [(nm, vl)]) (l.drop (k + 1)) = R) := by
            show _ = _
            rw [← hst, Hok.out, hX, hh]
            rfl
          clear hst Hok hX hh Hhas
          go_wp2_with fail
          refine (HT _).mono ?_
          rintro e w3 ⟨rfl, b3⟩
          have hown3 := owns_below hown1 (Nat.le_refl _) b3
          have hbel3 : Below w.heap.size w w3 := hbel1.trans (b3.mono hbel1.size)
          clear b3 c1' hown1 hbel1 HT
          go_wp2_with (at_builtin; refine wpList_append_own _ rfl (.tmp 27) (.tmp 36) 24 rfl w.heap.size 34 i0 (.agg #[.string ⟨#[]⟩, .string ⟨#[]⟩]) 2 32 Tryz.underlying24 Hi.out Hz0.out Hz1.out Hz2.out rfl (by decide) _ out.length (attrCells out) rfl (hown3.alloc _) ⟨_, 0, none⟩ 1 1 [.string nm, .string vl] rfl rfl (pair_at _ _ _ _) (pair_one _ _) ?c3 ?c4 ?c5 ?_)
          case c3 => unfold maxLen; omega
          case c4 => omega
          case c5 => have := hbel3.size; first | omega | (simp; omega)
          intro v' w5 hown' hgrow _
          have hbel5 : Below w.heap.size w w5 := own_grownA (hown3.alloc _) (hbel3.alloc hbel3.size _) (Nat.le_refl _) hgrow (by have := hbel3.size; simp; omega)
          have hown5 : w5.ownsRow w.heap.size 34 2 v' (out ++ [(nm, vl)]).length (attrCells (out ++ [(nm, vl)])) := by
            rw [List.length_append, attrCells_more]
            exact hown'
          clear hown' hgrow hown3 hbel3
          go_wp2_with fail
          go_roundw
          case rel => exact ⟨k + 1, out ++ [(nm, vl)], by omega, by rw [List.length_append]; show out.length + 1 ≤ k + 1; omega, by go_num, hown5, hbel5, HR2⟩
          case measure => simp [intOf]; omega
        · have HR2 : Hid (attrsMade out (l.drop (k + 1)) = R) := by
            show _ = _
            rw [← hst, Hok.out, hX, hh]
            rfl
          clear hst Hok hX hh Hhas HT c1'
          go_wp2_with fail
          go_roundw
          case rel => exact ⟨k + 1, out, by omega, by omega, by go_num, hown1, hbel1, HR2⟩
          case measure => simp [intOf]; omega
      · have HR2 : Hid (attrsMade out (l.drop (k + 1)) = R) := by
          show _ = _
          rw [← hst, Hok.out, hX]
          rfl
        clear hst Hok HT c1'
        go_wp2_with fail
        go_roundw
        case rel => exact ⟨k + 1, out, by omega, by omega, by go_num, hown1, hbel1, HR2⟩
        case measure => simp [intOf]; omega
    · have hf : out = R := by
        have := HR.out
        rw [List.drop_eq_nil_of_le (by rw [Hl.out]; omega)] at this
        exact this
      have g1 : decide ((k : Int) < (n : Int)) = false := decide_eq_false (by omega)
      clear HR
      subst hf
      go_wp2_with fail
      go_ret
      exact ⟨_, rfl, hown, hbel⟩

end Go.Proofs.YtdpjmngodbgacaaGreatDoor.Sg
