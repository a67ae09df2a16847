/- Contract of the model's l8Copy. -/
import Derived.Test.YtlnegnikedinaaaCpItems
import Derived.Test.YtlnegnikedinaaaCpInts
import Derived.Test.YtlnegnikedinaaaTnAttrs
import Derived.Deep.RegionHeld3
namespace Go.Proofs.Ytlnegnikedinaaa.Sg
open Go.ChangeShapes Go.WideShapes Go.ChangeAt Go.RowKit

/-- What a cell holds. -/
def cellV (w : World) (b i : Nat) : Value := (w.cell? ⟨b, i, none⟩).getD undef
theorem cellV_of {w : World} {b i : Nat} {v : Value} (h : w.cell? ⟨b, i, none⟩ = some v) : w.cell? ⟨b, i, none⟩ = some (cellV w b i) := by
  unfold cellV
  rw [h]
  rfl
theorem cellV_keep {w w' : World} (hb : Below w.heap.size w w') {b i : Nat} (h : w.cell? ⟨b, i, none⟩ = some (cellV w b i)) : w'.cell? ⟨b, i, none⟩ = some (cellV w' b i) := cellV_of (keep_cell hb h)
theorem frozen_keep {w w' : World} (hb : Below w.heap.size w w') {b i : Nat} (h : w.cell? ⟨b, i, none⟩ = some (cellV w b i) ∧ w.frozen? ⟨b, i, none⟩ = false) : w'.frozen? ⟨b, i, none⟩ = false := by
  have hlt : b < w.heap.size := cell_block h.1
  exact (hb.frozen hlt).trans h.2
theorem al_below (W : World) (o : Obj) : Below W.heap.size W (W.alloc o) := (Below.refl _ _).alloc (Nat.le_refl _) _

theorem al_drew (W : World) (o : Obj) : Below W.drew.heap.size W.drew (W.alloc o).drew := al_below W.drew o

/-- Five cells of a block are written. -/
theorem set_box {W : World} {b c i k : Nat} {v x : Value} (hne : c ≠ b) (h : W.cell? ⟨b, i, none⟩ = some v) : (W.setCell ⟨c, k, none⟩ x).cell? ⟨b, i, none⟩ = some v := (World.cell?_setCell_other _ _ _ _ (fun e => hne (congrArg Addr.block e))).trans h
theorem set_there {W : World} {c i k : Nat} {v x : Value} (h : W.cell? ⟨c, i, none⟩ = some v) : ∃ u, (W.setCell ⟨c, k, none⟩ x).cell? ⟨c, i, none⟩ = some u := by
  by_cases e : k = i
  · subst e
    exact ⟨x, World.cell?_setCell_same _ _ _ h⟩
  · exact ⟨v, (World.cell?_setCell_other _ _ _ _ (fun e2 => e (congrArg Addr.off e2))).trans h⟩
theorem st5_box {W : World} {b c i : Nat} {v x0 x1 x2 x3 x4 : Value} (hne : c ≠ b) (h : W.cell? ⟨b, i, none⟩ = some v) : (((((W.setCell ⟨c, 0, none⟩ x0).setCell ⟨c, 1, none⟩ x1).setCell ⟨c, 2, none⟩ x2).setCell ⟨c, 3, none⟩ x3).setCell ⟨c, 4, none⟩ x4).cell? ⟨b, i, none⟩ = some v := set_box hne (set_box hne (set_box hne (set_box hne (set_box hne h))))
theorem st5_cell {W : World} {c i : Nat} {x0 x1 x2 x3 x4 : Value} (h : W.cell? ⟨c, i, none⟩ = some (cellV W c i)) : (((((W.setCell ⟨c, 0, none⟩ x0).setCell ⟨c, 1, none⟩ x1).setCell ⟨c, 2, none⟩ x2).setCell ⟨c, 3, none⟩ x3).setCell ⟨c, 4, none⟩ x4).cell? ⟨c, i, none⟩ = some (cellV (((((W.setCell ⟨c, 0, none⟩ x0).setCell ⟨c, 1, none⟩ x1).setCell ⟨c, 2, none⟩ x2).setCell ⟨c, 3, none⟩ x3).setCell ⟨c, 4, none⟩ x4) c i) := by
  obtain ⟨u0, h0⟩ := set_there (k := 0) (x := x0) h
  obtain ⟨u1, h1⟩ := set_there (k := 1) (x := x1) h0
  obtain ⟨u2, h2⟩ := set_there (k := 2) (x := x2) h1
  obtain ⟨u3, h3⟩ := set_there (k := 3) (x := x3) h2
  obtain ⟨u4, h4⟩ := set_there (k := 4) (x := x4) h3
  exact cellV_of h4
theorem st5_frozen {W : World} {c i : Nat} {x0 x1 x2 x3 x4 : Value} (h : W.frozen? ⟨c, i, none⟩ = false) : (((((W.setCell ⟨c, 0, none⟩ x0).setCell ⟨c, 1, none⟩ x1).setCell ⟨c, 2, none⟩ x2).setCell ⟨c, 3, none⟩ x3).setCell ⟨c, 4, none⟩ x4).frozen? ⟨c, i, none⟩ = false := by simpa using h
theorem st5_below {w W : World} {c : Nat} {x0 x1 x2 x3 x4 : Value} (hc : w.heap.size ≤ c) (h : Below w.heap.size w W) : Below w.heap.size w (((((W.setCell ⟨c, 0, none⟩ x0).setCell ⟨c, 1, none⟩ x1).setCell ⟨c, 2, none⟩ x2).setCell ⟨c, 3, none⟩ x3).setCell ⟨c, 4, none⟩ x4) :=
  ((((h.setCell (p := ⟨c, 0, none⟩) hc x0).setCell (p := ⟨c, 1, none⟩) hc x1).setCell (p := ⟨c, 2, none⟩) hc x2).setCell (p := ⟨c, 3, none⟩) hc x3).setCell (p := ⟨c, 4, none⟩) hc x4

theorem st5_size {W : World} {c H : Nat} {x0 x1 x2 x3 x4 : Value} (h : H ≤ W.heap.size) : H ≤ (((((W.setCell ⟨c, 0, none⟩ x0).setCell ⟨c, 1, none⟩ x1).setCell ⟨c, 2, none⟩ x2).setCell ⟨c, 3, none⟩ x3).setCell ⟨c, 4, none⟩ x4).heap.size := by simpa using h
theorem st5_kb {W : World} {c H : Nat} {x0 x1 x2 x3 x4 : Value} (hc : c < H) : Kb W (((((W.setCell ⟨c, 0, none⟩ x0).setCell ⟨c, 1, none⟩ x1).setCell ⟨c, 2, none⟩ x2).setCell ⟨c, 3, none⟩ x3).setCell ⟨c, 4, none⟩ x4) (fun b => b < H) :=
  Kb.of_grown (grown_trans (grown_trans (grown_trans (grown_trans (grown_set W c 0 x0) (grown_set _ c 1 x1)) (grown_set _ c 2 x2)) (grown_set _ c 3 x3)) (grown_set _ c 4 x4)) fun k e => by have := Option.some.inj e; omega
theorem set_self {W : World} {c i : Nat} {x : Value} (h : ∃ u, W.cell? ⟨c, i, none⟩ = some u) : (W.setCell ⟨c, i, none⟩ x).cell? ⟨c, i, none⟩ = some x := by
  obtain ⟨u, h⟩ := h
  exact World.cell?_setCell_same _ _ _ h
theorem set_else {W : World} {c i k : Nat} {v x : Value} (hne : k ≠ i) (h : W.cell? ⟨c, i, none⟩ = some v) : (W.setCell ⟨c, k, none⟩ x).cell? ⟨c, i, none⟩ = some v := (World.cell?_setCell_other _ _ _ _ (fun e2 => hne (congrArg Addr.off e2))).trans h
theorem set_some {W : World} {c i k : Nat} {x : Value} (h : ∃ u, W.cell? ⟨c, i, none⟩ = some u) : ∃ u, (W.setCell ⟨c, k, none⟩ x).cell? ⟨c, i, none⟩ = some u := by
  obtain ⟨u, h⟩ := h
  exact set_there h
theorem st5_all {W : World} {c : Nat} {x0 x1 x2 x3 x4 : Value} (h : ∀ i, i < 5 → ∃ u, W.cell? ⟨c, i, none⟩ = some u) : (((((W.setCell ⟨c, 0, none⟩ x0).setCell ⟨c, 1, none⟩ x1).setCell ⟨c, 2, none⟩ x2).setCell ⟨c, 3, none⟩ x3).setCell ⟨c, 4, none⟩ x4).cell? ⟨c, 0, none⟩ = some x0 ∧ (((((W.setCell ⟨c, 0, none⟩ x0).setCell ⟨c, 1, none⟩ x1).setCell ⟨c, 2, none⟩ x2).setCell ⟨c, 3, none⟩ x3).setCell ⟨c, 4, none⟩ x4).cell? ⟨c, 1, none⟩ = some x1 ∧ (((((W.setCell ⟨c, 0, none⟩ x0).setCell ⟨c, 1, none⟩ x1).setCell ⟨c, 2, none⟩ x2).setCell ⟨c, 3, none⟩ x3).setCell ⟨c, 4, none⟩ x4).cell? ⟨c, 2, none⟩ = some x2 ∧ (((((W.setCell ⟨c, 0, none⟩ x0).setCell ⟨c, 1, none⟩ x1).setCell ⟨c, 2, none⟩ x2).setCell ⟨c, 3, none⟩ x3).setCell ⟨c, 4, none⟩ x4).cell? ⟨c, 3, none⟩ = some x3 ∧ (((((W.setCell ⟨c, 0, none⟩ x0).setCell ⟨c, 1, none⟩ x1).setCell ⟨c, 2, none⟩ x2).setCell ⟨c, 3, none⟩ x3).setCell ⟨c, 4, none⟩ x4).cell? ⟨c, 4, none⟩ = some x4 := by
  refine ⟨?_, ?_, ?_, ?_, ?_⟩
  · exact set_else (by omega) (set_else (by omega) (set_else (by omega) (set_else (by omega) (set_self (h 0 (by omega))))))
  · exact set_else (by omega) (set_else (by omega) (set_else (by omega) (set_self (set_some (h 1 (by omega))))))
  · exact set_else (by omega) (set_else (by omega) (set_self (set_some (set_some (h 2 (by omega))))))
  · exact set_else (by omega) (set_self (set_some (set_some (set_some (h 3 (by omega))))))
  · exact set_self (set_some (set_some (set_some (set_some (h 4 (by omega))))))
theorem OwnIts.late {w w' : World} {H : Nat} {v : Value} {l : List ItB} (h : OwnIts w H v l) (hk : Kb w w' (fun b => b < H)) : OwnIts w' H v l := by
  obtain ⟨L, h1, h2, h3⟩ := h
  exact ⟨L, h1, hk.owns h2 fun b hb hlt => by have := (h2.lt b hb).1; omega, ⟨fun q hq => ⟨hk.owns (h3.1 q hq).1 fun b hb hlt => by have := ((h3.1 q hq).1.lt b hb).1; omega, hk.owns (h3.1 q hq).2 fun b hb hlt => by have := ((h3.1 q hq).2.lt b hb).1; omega⟩, h3.2⟩⟩

theorem RmLate.less {H h : Nat} {w : World} {v : Value} {zs : List Int} (k : RmLate H w v zs) (hh : h ≤ H) : RmLate h w v zs := fun W hW => k W (hW.more fun _ hb => Nat.lt_of_lt_of_le hb hh)

set_option maxRecDepth 20000 in
set_option maxHeartbeats 16000000 in
theorem specCopyPage (p : PgB) (iv ov fv : Value) (B0 : Nat) (w : World) (hI : OwnIts w B0 iv p.its) (hO : RmInts w ov p.opn) (hF : RmInts w fv p.fms) (hn : p.its.length ≤ 1073741824) (hat : ∀ t ∈ p.its, t.ats.length ≤ 1099511627776 ∧ t.kids.length ≤ 1099511627776) (ho : p.opn.length ≤ 1099511627776) (hf : p.fms.length ≤ 1099511627776) :
    Calls Try.prog 32 #[.agg #[iv, ov, fv, .int .i64 p.hd, .int .i64 p.bd]] w fun e w' => ∃ iv' ov' fv', e = .returned (.agg #[iv', ov', fv', .int .i64 p.hd, .int .i64 p.bd]) ∧ OwnIts w' w.heap.size iv' p.its ∧ RmLate w.heap.size w' ov' p.opn ∧ RmLate w.heap.size w' fv' p.fms ∧ Below w.heap.size w w' := by
  obtain ⟨its, opn, fms, hd, bd⟩ := p
  simp only at *
  obtain ⟨ia, ic, rfl⟩ : ∃ a c, iv = .slice a its.length c := by obtain ⟨a, c, h, _⟩ := its_of_own hI; exact ⟨a, c, h⟩
  have HO : Hid (RmInts w ov opn) := hO
  have HF : Hid (RmInts w fv fms) := hF
  obtain ⟨oa, oc, rfl, _⟩ := hO
  obtain ⟨fa, fc, rfl, _⟩ := hF
  have Hcp : Hid (∀ W (H : Nat), Below w.heap.size w W → H ≤ W.heap.size → Calls Try.prog 48 #[.slice ia its.length ic] W fun e w' => ∃ v', e = .returned v' ∧ OwnIts w' H v' its ∧ Below W.heap.size W w') := fun W H hW hH => (specCopy its _ B0 W (hI.keep hW) hn hat).mono fun e w' ⟨v', h1, h2, h3⟩ => ⟨v', h1, h2.base hH, h3⟩
  clear hI hat
  go_enter Try.func32, Try.ntmps32
  go_upto_region 1 with fail
  obtain ⟨W2, HW2⟩ : ∃ W2, Hid (W2 = ((w.alloc (.cells #[.slice ia its.length ic, .slice oa opn.length oc, .slice fa fms.length fc, .int .i64 hd, .int .i64 bd] 25)).alloc (.cells #[.slice none 0 0, .slice none 0 0, .slice none 0 0, .int .i64 0, .int .i64 0] 25))) := ⟨_, rfl⟩
  rw [← HW2.out]
  have M0 : Many 5 W2 w.heap.size (fun i => [Value.slice ia its.length ic, .slice oa opn.length oc, .slice fa fms.length fc, .int .i64 hd, .int .i64 bd].getD i undef) := by
    rw [HW2.out]
    exact (Many.new w [Value.slice ia its.length ic, .slice oa opn.length oc, .slice fa fms.length fc, .int .i64 hd, .int .i64 bd] 25 undef).below (B := w.heap.size + 1) (Nat.lt_succ_self _) ((Below.refl _ _).alloc (by simp) _)
  have M1 : Many 5 W2 (w.heap.size + 1) (fun i => [Value.slice none 0 0, .slice none 0 0, .slice none 0 0, .int .i64 0, .int .i64 0].getD i undef) := by
    rw [HW2.out]
    have h := Many.new (w.alloc (.cells #[.slice ia its.length ic, .slice oa opn.length oc, .slice fa fms.length fc, .int .i64 hd, .int .i64 bd] 25)) [Value.slice none 0 0, .slice none 0 0, .slice none 0 0, .int .i64 0, .int .i64 0] 25 undef
    rw [show (w.alloc (.cells #[.slice ia its.length ic, .slice oa opn.length oc, .slice fa fms.length fc, .int .i64 hd, .int .i64 bd] 25)).heap.size = w.heap.size + 1 by simp] at h
    exact h
  have B2 : Below w.heap.size w W2 := by rw [HW2.out]; exact ((Below.refl _ _).alloc (Nat.le_refl _) _).alloc (by simp) _
  have hs2 : W2.heap.size = w.heap.size + 1 + 1 := by rw [HW2.out]; simp
  have lc : w.heap.size ≤ w.heap.size + 1 := Nat.le_succ _
  have nc : w.heap.size ≠ w.heap.size + 1 := by omega
  have nc' : w.heap.size + 1 ≠ w.heap.size := by omega
  have lcW : w.heap.size + 1 < W2.heap.size := by omega
  obtain ⟨q0, q1, q2, q3, q4⟩ := M0.five
  obtain ⟨z0, z1, z2, z3, z4⟩ := M1.five
  have f0 := (M1.2 0 (by omega)).2
  have f1 := (M1.2 1 (by omega)).2
  have f2 := (M1.2 2 (by omega)).2
  have f3 := (M1.2 3 (by omega)).2
  have f4 := (M1.2 4 (by omega)).2
  generalize w.heap.size + 1 = c1 at *
  have t0 := cellV_of z0
  have t1 := cellV_of z1
  have t2 := cellV_of z2
  have t3 := cellV_of z3
  have t4 := cellV_of z4
  have HLc : Hid (w.heap.size ≤ c1 ∧ c1 < W2.heap.size) := ⟨lc, lcW⟩
  obtain ⟨H, HHe⟩ : ∃ H, Hid (W2.heap.size = H) := ⟨_, rfl⟩
  have HH : H ≤ W2.heap.size := by rw [HHe.out]; exact Nat.le_refl _
  have HcH : Hid (c1 < H) := by show _ < _; rw [← HHe.out]; exact lcW
  have HwH : Hid (w.heap.size ≤ H) := Nat.le_of_lt (Nat.lt_of_le_of_lt lc HcH.out)
  clear M0 M1 HW2 hs2 z0 z1 z2 z3 z4 lc lcW
  go_region_held3 (fun w' => w'.cell? ⟨w.heap.size, 0, none⟩ = some (.slice ia its.length ic) ∧ w'.cell? ⟨w.heap.size, 1, none⟩ = some (.slice oa opn.length oc) ∧ w'.cell? ⟨w.heap.size, 2, none⟩ = some (.slice fa fms.length fc) ∧ w'.cell? ⟨w.heap.size, 3, none⟩ = some (.int .i64 hd) ∧ w'.cell? ⟨w.heap.size, 4, none⟩ = some (.int .i64 bd) ∧ w'.cell? ⟨c1, 0, none⟩ = some (cellV w' c1 0) ∧ w'.cell? ⟨c1, 1, none⟩ = some (cellV w' c1 1) ∧ w'.cell? ⟨c1, 2, none⟩ = some (cellV w' c1 2) ∧ w'.cell? ⟨c1, 3, none⟩ = some (cellV w' c1 3) ∧ w'.cell? ⟨c1, 4, none⟩ = some (cellV w' c1 4) ∧ w'.frozen? ⟨c1, 0, none⟩ = false ∧ w'.frozen? ⟨c1, 1, none⟩ = false ∧ w'.frozen? ⟨c1, 2, none⟩ = false ∧ w'.frozen? ⟨c1, 3, none⟩ = false ∧ w'.frozen? ⟨c1, 4, none⟩ = false ∧ Below w.heap.size w w' ∧ H ≤ w'.heap.size) (first | (go_split_ands; with_reducible exact ⟨keep_cell hb' (by assumption), keep_cell hb' (by assumption), keep_cell hb' (by assumption), keep_cell hb' (by assumption), keep_cell hb' (by assumption), cellV_keep hb' (by assumption), cellV_keep hb' (by assumption), cellV_keep hb' (by assumption), cellV_keep hb' (by assumption), cellV_keep hb' (by assumption), frozen_keep hb' ⟨by assumption, by assumption⟩, frozen_keep hb' ⟨by assumption, by assumption⟩, frozen_keep hb' ⟨by assumption, by assumption⟩, frozen_keep hb' ⟨by assumption, by assumption⟩, frozen_keep hb' ⟨by assumption, by assumption⟩, below_then (by assumption) hb', Nat.le_trans (by assumption) (Below.size hb')⟩) | (go_split_ands; with_reducible exact ⟨keep_cell (al_below _ _) (by assumption), keep_cell (al_below _ _) (by assumption), keep_cell (al_below _ _) (by assumption), keep_cell (al_below _ _) (by assumption), keep_cell (al_below _ _) (by assumption), cellV_keep (al_below _ _) (by assumption), cellV_keep (al_below _ _) (by assumption), cellV_keep (al_below _ _) (by assumption), cellV_keep (al_below _ _) (by assumption), cellV_keep (al_below _ _) (by assumption), frozen_keep (al_below _ _) ⟨by assumption, by assumption⟩, frozen_keep (al_below _ _) ⟨by assumption, by assumption⟩, frozen_keep (al_below _ _) ⟨by assumption, by assumption⟩, frozen_keep (al_below _ _) ⟨by assumption, by assumption⟩, frozen_keep (al_below _ _) ⟨by assumption, by assumption⟩, below_then (by assumption) (al_below _ _), Nat.le_trans (by assumption) (Below.size (al_below _ _))⟩) | (go_split_ands; with_reducible exact ⟨keep_cell (al_drew _ _) (by assumption), keep_cell (al_drew _ _) (by assumption), keep_cell (al_drew _ _) (by assumption), keep_cell (al_drew _ _) (by assumption), keep_cell (al_drew _ _) (by assumption), cellV_keep (al_drew _ _) (by assumption), cellV_keep (al_drew _ _) (by assumption), cellV_keep (al_drew _ _) (by assumption), cellV_keep (al_drew _ _) (by assumption), cellV_keep (al_drew _ _) (by assumption), frozen_keep (al_drew _ _) ⟨by assumption, by assumption⟩, frozen_keep (al_drew _ _) ⟨by assumption, by assumption⟩, frozen_keep (al_drew _ _) ⟨by assumption, by assumption⟩, frozen_keep (al_drew _ _) ⟨by assumption, by assumption⟩, frozen_keep (al_drew _ _) ⟨by assumption, by assumption⟩, below_then (by assumption) (al_drew _ _), Nat.le_trans (by assumption) (Below.size (al_drew _ _))⟩) | (go_split_ands; with_reducible exact ⟨st5_box nc' (by assumption), st5_box nc' (by assumption), st5_box nc' (by assumption), st5_box nc' (by assumption), st5_box nc' (by assumption), st5_cell (by assumption), st5_cell (by assumption), st5_cell (by assumption), st5_cell (by assumption), st5_cell (by assumption), st5_frozen (by assumption), st5_frozen (by assumption), st5_frozen (by assumption), st5_frozen (by assumption), st5_frozen (by assumption), st5_below HLc.out.1 (by assumption), st5_size (by assumption)⟩) | exact ⟨q0, q1, q2, q3, q4, t0, t1, t2, t3, t4, f0, f1, f2, f3, f4, B2.drew, HH⟩) (first | (refine step_append_ints (by rfl) (.tmp 6) (.tmp 8) (by rfl) _ (by rfl) _ opn (by rfl) (HO.out.keep (by go_split_ands; assumption)) ho H (by go_split_ands; assumption) ?_; intro a9 c9 w' r9 hb') | (refine step_append_ints (by rfl) (.tmp 10) (.tmp 12) (by rfl) _ (by rfl) _ fms (by rfl) (HF.out.keep (by go_split_ands; assumption)) hf H (by go_split_ands; assumption) ?_; intro a13 c13 w' r13 hb'; have h13 : Hid (w'.cell? ⟨c1, 0, none⟩ = some (cellV w' c1 0) ∧ w'.cell? ⟨c1, 1, none⟩ = some (cellV w' c1 1) ∧ w'.cell? ⟨c1, 2, none⟩ = some (cellV w' c1 2) ∧ w'.cell? ⟨c1, 3, none⟩ = some (cellV w' c1 3) ∧ w'.cell? ⟨c1, 4, none⟩ = some (cellV w' c1 4)) := (by show _ ∧ _; go_split_ands; with_reducible exact ⟨cellV_keep hb' (by assumption), cellV_keep hb' (by assumption), cellV_keep hb' (by assumption), cellV_keep hb' (by assumption), cellV_keep hb' (by assumption)⟩)) | (go_at_call 48; go_split_ands; refine (Hcp.out _ H (by assumption) (by assumption)).mono ?_; rintro e w' ⟨v5, rfl, o5, hb'⟩; obtain ⟨a5, c5, rfl⟩ := (its_of_own o5).imp fun a h => h.imp fun c h => h.1))
  all_goals
    have K5 : OwnIts w' H (.slice a5 its.length c5) its := o5.late (Kb.of_below (by first | exact Below.refl _ _ | assumption | with_reducible exact below_then (al_below _ _) (by assumption) | with_reducible exact below_then (by assumption) (by assumption) | with_reducible exact below_then (by assumption) (below_then (al_below _ _) (by assumption)) | with_reducible exact below_then (al_below _ _) (below_then (by assumption) (by assumption)) | with_reducible exact below_then (al_below _ _) (below_then (by assumption) (below_then (al_below _ _) (by assumption))) | with_reducible exact below_then (al_below _ _) (below_then (al_below _ _) (below_then (by assumption) (by assumption))) | with_reducible exact below_then (al_below _ _) (below_then (al_below _ _) (by assumption))) _)
    have K9 : RmLate H w' (.slice a9 opn.length c9) opn := r9.keep (by first | exact Below.refl _ _ | assumption | with_reducible exact below_then (al_below _ _) (by assumption) | with_reducible exact below_then (by assumption) (by assumption) | with_reducible exact below_then (by assumption) (below_then (al_below _ _) (by assumption)) | with_reducible exact below_then (al_below _ _) (below_then (by assumption) (by assumption)) | with_reducible exact below_then (al_below _ _) (below_then (by assumption) (below_then (al_below _ _) (by assumption))) | with_reducible exact below_then (al_below _ _) (below_then (al_below _ _) (below_then (by assumption) (by assumption))) | with_reducible exact below_then (al_below _ _) (below_then (al_below _ _) (by assumption)))
    have HB : Hid (Below w.heap.size w (((((w'.setCell ⟨c1, 0, none⟩ (.slice a5 its.length c5)).setCell ⟨c1, 1, none⟩ (.slice a9 opn.length c9)).setCell ⟨c1, 2, none⟩ (.slice a13 fms.length c13)).setCell ⟨c1, 3, none⟩ (.int .i64 hd)).setCell ⟨c1, 4, none⟩ (.int .i64 bd))) := by
      show Below _ _ _
      go_split_ands
      with_reducible assumption
    have E5 : Hid (OwnIts (((((w'.setCell ⟨c1, 0, none⟩ (.slice a5 its.length c5)).setCell ⟨c1, 1, none⟩ (.slice a9 opn.length c9)).setCell ⟨c1, 2, none⟩ (.slice a13 fms.length c13)).setCell ⟨c1, 3, none⟩ (.int .i64 hd)).setCell ⟨c1, 4, none⟩ (.int .i64 bd)) H (.slice a5 its.length c5) its) := K5.late (st5_kb HcH.out)
    have E9 : Hid (RmLate H (((((w'.setCell ⟨c1, 0, none⟩ (.slice a5 its.length c5)).setCell ⟨c1, 1, none⟩ (.slice a9 opn.length c9)).setCell ⟨c1, 2, none⟩ (.slice a13 fms.length c13)).setCell ⟨c1, 3, none⟩ (.int .i64 hd)).setCell ⟨c1, 4, none⟩ (.int .i64 bd)) (.slice a9 opn.length c9) opn) := fun W hW => K9 W ((st5_kb HcH.out).trans hW)
    have E13 : Hid (RmLate H (((((w'.setCell ⟨c1, 0, none⟩ (.slice a5 its.length c5)).setCell ⟨c1, 1, none⟩ (.slice a9 opn.length c9)).setCell ⟨c1, 2, none⟩ (.slice a13 fms.length c13)).setCell ⟨c1, 3, none⟩ (.int .i64 hd)).setCell ⟨c1, 4, none⟩ (.int .i64 bd)) (.slice a13 fms.length c13) fms) := fun W hW => r13 W ((st5_kb HcH.out).trans hW)
    obtain ⟨u0, u1, u2, u3, u4⟩ := h13.out
    have HT := st5_all (W := w') (c := c1) (x0 := .slice a5 its.length c5) (x1 := .slice a9 opn.length c9) (x2 := .slice a13 fms.length c13) (x3 := .int .i64 hd) (x4 := .int .i64 bd) (fun i hi => match i, hi with | 0, _ => ⟨_, u0⟩ | 1, _ => ⟨_, u1⟩ | 2, _ => ⟨_, u2⟩ | 3, _ => ⟨_, u3⟩ | 4, _ => ⟨_, u4⟩)
    clear u0 u1 u2 u3 u4 K5 K9 h13
    obtain ⟨s0, s1, s2, s3, s4⟩ := HT
    go_wp2_with fail
    refine bodyPost_ret (v := .agg #[.slice a5 its.length c5, .slice a9 opn.length c9, .slice a13 fms.length c13, .int .i64 hd, .int .i64 bd]) ?_ rfl ⟨_, _, _, rfl, E5.out.base HwH.out, E9.out.less HwH.out, E13.out.less HwH.out, HB.out⟩
    simp [results, Try.results32, go_sem, s0, s1, s2, s3, s4]

end Go.Proofs.Ytlnegnikedinaaa.Sg
