/- Contract of the model's l8Copy, with where its lists lie. -/
import Derived.Test.YtlnegnikedinaaaMkP
namespace Go.Proofs.Ytlnegnikedinaaa.Sg
open Go.ChangeShapes Go.WideShapes Go.ChangeAt Go.RowKit

/-- A page that is owned, where an empty list of numbers may lie anywhere. -/
def OwnPgE (w : World) (B : Nat) (iv ov fv : Value) (p : PgB) : Prop :=
  ∃ ov' fv', OwnPg3 w B iv ov' fv' p ∧ (ov = ov' ∨ p.opn = [] ∧ ov' = .slice none 0 0 ∧ ∃ g, ov = .slice (some ⟨g, 0, none⟩) 0 0) ∧ (fv = fv' ∨ p.fms = [] ∧ fv' = .slice none 0 0 ∧ ∃ g, fv = .slice (some ⟨g, 0, none⟩) 0 0)
theorem OwnPgE.base {w : World} {B B' : Nat} {iv ov fv : Value} {p : PgB} (h : OwnPgE w B iv ov fv p) (hB : B' ≤ B) : OwnPgE w B' iv ov fv p := by
  obtain ⟨ov', fv', h1, h2⟩ := h
  exact ⟨ov', fv', h1.base hB, h2⟩

/-- Items made between two worlds; a row of numbers likewise. -/
def NewIts (H : Nat) (X Y : World) (v : Value) (l : List ItB) : Prop := H ≤ X.heap.size ∧ OwnIts Y X.heap.size v l
def NewRow (H : Nat) (X Y : World) (v : Value) (zs : List Int) : Prop := H ≤ X.heap.size ∧ ∃ v', RowE Y X.heap.size v v' zs
/-- One world comes of another. -/
def Stp (X Y : World) : Prop := Below X.heap.size X Y
theorem Stp.refl (X : World) : Stp X X := Below.refl _ _
theorem Stp.al (X : World) (o : Obj) : Stp X (X.alloc o) := al_below X o
theorem Stp.then {a b c : World} (h : Stp a b) (k : Stp b c) : Stp a c := below_then h k
theorem Stp.size {a b : World} (h : Stp a b) : a.heap.size ≤ b.heap.size := Below.size h
theorem sizes59 {H : Nat} {X Y X' Y' : World} {v v' : Value} {l : List ItB} {zs : List Int} (_ : NewIts H X Y v l) (_ : NewRow H X' Y' v' zs) (h : Y.heap.size ≤ X'.heap.size ∨ Y'.heap.size ≤ X.heap.size) : Y.heap.size ≤ X'.heap.size ∨ Y'.heap.size ≤ X.heap.size := h
theorem sizes99 {H : Nat} {X Y X' Y' : World} {v v' : Value} {ys zs : List Int} (_ : NewRow H X Y v ys) (_ : NewRow H X' Y' v' zs) (h : Y.heap.size ≤ X'.heap.size ∨ Y'.heap.size ≤ X.heap.size) : Y.heap.size ≤ X'.heap.size ∨ Y'.heap.size ≤ X.heap.size := h
theorem its_at {H : Nat} {X Y W : World} {v : Value} {l : List ItB} (_ : NewIts H X Y v l) (h : Stp Y W) : Kb Y W (fun b => b < H) := Kb.of_below h _
theorem row_at {H : Nat} {X Y W : World} {v : Value} {zs : List Int} (_ : NewRow H X Y v zs) (h : Stp Y W) : Kb Y W (fun b => b < H) := Kb.of_below h _

theorem own_late' {w w' : World} {B H : Nat} {e : TypeId} {z : Nat} {v : Value} {n : Nat} {xs : List Value} (h : w.ownsRow B e z v n xs) (hB : H ≤ B) (hk : Kb w w' (fun b => b < H)) : w'.ownsRow B e z v n xs :=
  hk.owns h fun b hb hlt => by have := (h.lt b hb).1; omega

/-- Three lists, each made by itself, are a page that is owned. -/
theorem pg_fresh {H : Nat} {X5 Y5 X9 Y9 X3 Y3 W : World} {iv ov fv : Value} {p : PgB} (o5 : NewIts H X5 Y5 iv p.its) (r9 : NewRow H X9 Y9 ov p.opn) (r3 : NewRow H X3 Y3 fv p.fms)
    (k5 : Kb Y5 W (fun b => b < H)) (k9 : Kb Y9 W (fun b => b < H)) (k3 : Kb Y3 W (fun b => b < H))
    (c59 : Y5.heap.size ≤ X9.heap.size ∨ Y9.heap.size ≤ X5.heap.size) (c53 : Y5.heap.size ≤ X3.heap.size ∨ Y3.heap.size ≤ X5.heap.size) (c93 : Y9.heap.size ≤ X3.heap.size ∨ Y3.heap.size ≤ X9.heap.size) : OwnPgE W H iv ov fv p := by
  obtain ⟨e5, L, g1, g2, g3⟩ := o5
  obtain ⟨e9, ov', r9, s9⟩ := r9
  obtain ⟨e3, fv', r3, s3⟩ := r3
  refine ⟨ov', fv', ⟨L, g1, own_mono (own_late' g2 e5 k5) e5, ⟨fun q hq => ⟨own_mono (own_late' (g3.1 q hq).1 e5 k5) e5, own_mono (own_late' (g3.1 q hq).2 e5 k5) e5⟩, g3.2⟩, own_mono (own_late' r9 e9 k9) e9, own_mono (own_late' r3 e3 k3) e3, fun b hb e => ?_, fun q hq b hb => ⟨fun e => ?_, fun e => ?_⟩⟩, s9, s3⟩
  · have h1 := r9.lt b hb
    have h2 := r3.lt b e
    omega
  · have h1 := (g3.1 q hq).2.lt b hb
    have h2 := r9.lt b e
    omega
  · have h1 := (g3.1 q hq).2.lt b hb
    have h2 := r3.lt b e
    omega

theorem run_append_new (g : Nat) (u : Value) (zs : List Int) (w : World) (ty : TypeId) (hu : RmInts w u zs) (hn : zs.length ≤ 1099511627776) :
    ∃ v' w', (Builtin.append_ #[23, 23] ty #[.slice (some ⟨g, 0, none⟩) 0 0, u]).run Try.prog w = .ok v' w' ∧ (∃ x, RowE w' w.heap.size v' x zs) ∧ RmInts w' v' zs ∧ Below w.heap.size w w' := by
  obtain ⟨j0, gi, gz0, gz1, gz2⟩ := info_parts info_int
  obtain ⟨a, cap, rfl, hc, hI⟩ := hu
  by_cases h0 : zs = []
  · subst h0
    refine ⟨.slice (some ⟨g, 0, none⟩) 0 0, w, ?_, ⟨.slice none 0 0, ⟨by simp [intCellsI], .inl ⟨rfl, rfl⟩⟩, .inr ⟨rfl, rfl, g, rfl⟩⟩, ⟨_, _, rfl, Nat.le_refl _, .inl rfl⟩, Below.refl _ _⟩
    cases a <;> simp [Builtin.append_, run_underlying Try.underlying23, sizeOf, typeInfo, gi, Builtin.lenOf, Builtin.firstCells, storeCells, loadCells, loadCellsFrom]
  · rcases hI with h | ⟨b, off, rfl, hb, hcell⟩
    · exact absurd h h0
    have hpos : 0 < zs.length := List.length_pos_iff.2 h0
    have hcl : ∀ j y, (intCellsI zs)[j]? = some y → w.cell? ((⟨b, off, none⟩ : Addr).add j) = some y := fun j y hj => by
      have hjl : j < zs.length := by have := (List.getElem?_eq_some_iff.1 hj).1; unfold intCellsI at this; simpa using this
      have e : (⟨b, off, none⟩ : Addr).add j = ⟨b, off + j, none⟩ := by unfold Addr.add; by_cases h : j = 0 <;> simp [h]
      rw [e, hcell j hjl]
      unfold intCellsI at hj
      rw [List.getElem?_map, List.getElem?_eq_getElem hjl] at hj
      simpa [List.getD, hjl] using hj
    obtain ⟨v', w', hrun, r1, r2⟩ := run_append_arg_grows (P := Try.prog) w 23 ty 3 j0 (.int .i64 0) 1 8 Try.underlying23 gi gz0 gz1 gz2 rfl (by decide) ⟨g, 0, none⟩ 0 0 [] rfl (fun _ _ h => by cases h) ⟨b, off, none⟩ zs.length cap (intCellsI zs) (by unfold intCellsI; simp) hcl (by omega) (by unfold maxLen; omega) (by omega)
    rw [Nat.zero_add] at r1
    have r1' : w'.ownsRow w.heap.size 3 1 v' zs.length (intCellsI zs) := by simpa using r1
    exact ⟨v', w', hrun, ⟨v', r1', .inl rfl⟩, ints_of_own r1', ⟨r2.os, r2.tape, r2.output, r2.size, fun k hk => r2.block k hk (by simp)⟩⟩

/-- At a step of a region that draws its order. -/
theorem step_append_new {w : World} {ops : Array Oper} {o : Oper} {a : Act} {K : Act → World → Prop} {Q : Exit → Act → World → Prop} {E : Prop} (hgd : o.guard = none) (s x : Operand)
    (ho : o.op = .call { callee := .builtin .append, args := #[s, x], argTypes := #[23, 23] }) (g : Nat) (hs : a.eval s = .slice (some ⟨g, 0, none⟩) 0 0)
    (u : Value) (zs : List Int) (hx : a.eval x = u) (hu : RmInts w u zs) (hn : zs.length ≤ 1099511627776) (H : Nat) (hH : H ≤ w.heap.size)
    (h : ∀ ad c w', NewRow H w w' (.slice ad zs.length c) zs → Below w.heap.size w w' → K (a.put o.dst (.slice ad zs.length c)) w') :
    if Region.wanted o (yielded ops a.tmps) = true then Oper.wp Try.prog o a w K Q else E := by
  have hw : Region.wanted o (yielded ops a.tmps) = true := by simp [Region.wanted, hgd]
  rw [if_pos hw]
  obtain ⟨v', w', hrun, r1, r0, r2⟩ := run_append_new g u zs w o.type hu hn
  obtain ⟨ad, c, e1, _⟩ := r0
  subst e1
  unfold Oper.wp
  simp [execOp, ho, resolve, invoke, builtin, hs, hx, hrun, Result.andThen]
  exact h ad c w' ⟨hH, r1⟩ r2

set_option maxRecDepth 20000 in
set_option maxHeartbeats 16000000 in
theorem specCopyPageN (p : PgB) (iv ov fv : Value) (B0 : Nat) (w : World) (hI : OwnIts w B0 iv p.its) (hO : RmInts w ov p.opn) (hF : RmInts w fv p.fms) (hn : p.its.length ≤ 1073741824) (hat : ∀ t ∈ p.its, t.ats.length ≤ 1099511627776 ∧ t.kids.length ≤ 1099511627776) (ho : p.opn.length ≤ 1099511627776) (hf : p.fms.length ≤ 1099511627776) :
    Calls Try.prog 32 #[.agg #[iv, ov, fv, .int .i64 p.hd, .int .i64 p.bd]] w fun e w' => ∃ iv' ov' fv', e = .returned (.agg #[iv', ov', fv', .int .i64 p.hd, .int .i64 p.bd]) ∧ OwnPgE w' w.heap.size iv' ov' fv' p ∧ Below w.heap.size w w' := by
  obtain ⟨its, opn, fms, hd, bd⟩ := p
  simp only at *
  obtain ⟨ia, ic, rfl⟩ : ∃ a c, iv = .slice a its.length c := by obtain ⟨a, c, h, _⟩ := its_of_own hI; exact ⟨a, c, h⟩
  have HO : Hid (RmInts w ov opn) := hO
  have HF : Hid (RmInts w fv fms) := hF
  obtain ⟨oa, oc, rfl, _⟩ := hO
  obtain ⟨fa, fc, rfl, _⟩ := hF
  have Hcp : Hid (∀ W (H : Nat), Below w.heap.size w W → H ≤ W.heap.size → Calls Try.prog 48 #[.slice ia its.length ic] W fun e w' => ∃ v', e = .returned v' ∧ NewIts H W w' v' its ∧ Below W.heap.size W w') := fun W H hW hH => (specCopy its _ B0 W (hI.keep hW) hn hat).mono fun e w' ⟨v', h1, h2, h3⟩ => ⟨v', h1, ⟨hH, h2⟩, h3⟩
  clear hI hat
  go_enter Try.func32, Try.ntmps32
  go_upto_region 1 with fail
  obtain ⟨W2, HW2⟩ : ∃ W2, Hid (W2 = ((w.alloc (.cells #[.slice ia its.length ic, .slice oa opn.length oc, .slice fa fms.length fc, .int .i64 hd, .int .i64 bd] 25)).alloc (.cells #[.slice none 0 0, .slice none 0 0, .slice none 0 0, .int .i64 0, .int .i64 0] 25))) := ⟨_, rfl⟩
  rw [← HW2.out]
  have M0 : Many 5 W2 w.heap.size (fun i => [Value.slice ia its.length ic, .slice oa opn.length oc, .slice fa fms.length fc, .int .i64 hd, .int .i64 bd].getD i undef) := by
    rw [HW2.out]
    exact (Many.new w [Value.slice ia its.length ic, .slice oa opn.length oc, .slice fa fms.length fc, .int .i64 hd, .int .i64 bd] 25 undef).below (B := w.heap.size + 1) (Nat.lt_succ_self _) ((Below.refl _ _).alloc (by simp) _)
  have M1 : Many 5 W2 (w.heap.size + 1) (fun i => [Value.slice none 0 0, .slice none 0 0, .slice none 0 0, .int .i64 0, .int .i64 0].getD i undef) := by
    rw [HW2.out]
    have h := Many.new (w.alloc (.cells #[.slice ia its.length ic, .slice oa opn.length oc, .slice fa fms.length fc, .int .i64 hd, .int .i64 bd] 25)) [Value.slice none 0 0, .slice none 0 0, .slice none 0 0, .int .i64 0, .int .i64 0] 25 undef
    rw [show (w.alloc (.cells #[.slice ia its.length ic, .slice oa opn.length oc, .slice fa fms.length fc, .int .i64 hd, .int .i64 bd] 25)).heap.size = w.heap.size + 1 by simp] at h
    exact h
  have B2 : Below w.heap.size w W2 := by rw [HW2.out]; exact ((Below.refl _ _).alloc (Nat.le_refl _) _).alloc (by simp) _
  have hs2 : W2.heap.size = w.heap.size + 1 + 1 := by rw [HW2.out]; simp
  have lc : w.heap.size ≤ w.heap.size + 1 := Nat.le_succ _
  have nc : w.heap.size ≠ w.heap.size + 1 := by omega
  have nc' : w.heap.size + 1 ≠ w.heap.size := by omega
  have lcW : w.heap.size + 1 < W2.heap.size := by omega
  obtain ⟨q0, q1, q2, q3, q4⟩ := M0.five
  obtain ⟨z0, z1, z2, z3, z4⟩ := M1.five
  have f0 := (M1.2 0 (by omega)).2
  have f1 := (M1.2 1 (by omega)).2
  have f2 := (M1.2 2 (by omega)).2
  have f3 := (M1.2 3 (by omega)).2
  have f4 := (M1.2 4 (by omega)).2
  generalize w.heap.size + 1 = c1 at *
  have t0 := cellV_of z0
  have t1 := cellV_of z1
  have t2 := cellV_of z2
  have t3 := cellV_of z3
  have t4 := cellV_of z4
  have HLc : Hid (w.heap.size ≤ c1 ∧ c1 < W2.heap.size) := ⟨lc, lcW⟩
  obtain ⟨H, HHe⟩ : ∃ H, Hid (W2.heap.size = H) := ⟨_, rfl⟩
  have HH : H ≤ W2.heap.size := by rw [HHe.out]; exact Nat.le_refl _
  have HcH : Hid (c1 < H) := by show _ < _; rw [← HHe.out]; exact lcW
  have HwH : Hid (w.heap.size ≤ H) := Nat.le_of_lt (Nat.lt_of_le_of_lt lc HcH.out)
  clear M0 M1 HW2 hs2 z0 z1 z2 z3 z4 lc lcW
  go_region_held3 (fun w' => w'.cell? ⟨w.heap.size, 0, none⟩ = some (.slice ia its.length ic) ∧ w'.cell? ⟨w.heap.size, 1, none⟩ = some (.slice oa opn.length oc) ∧ w'.cell? ⟨w.heap.size, 2, none⟩ = some (.slice fa fms.length fc) ∧ w'.cell? ⟨w.heap.size, 3, none⟩ = some (.int .i64 hd) ∧ w'.cell? ⟨w.heap.size, 4, none⟩ = some (.int .i64 bd) ∧ w'.cell? ⟨c1, 0, none⟩ = some (cellV w' c1 0) ∧ w'.cell? ⟨c1, 1, none⟩ = some (cellV w' c1 1) ∧ w'.cell? ⟨c1, 2, none⟩ = some (cellV w' c1 2) ∧ w'.cell? ⟨c1, 3, none⟩ = some (cellV w' c1 3) ∧ w'.cell? ⟨c1, 4, none⟩ = some (cellV w' c1 4) ∧ w'.frozen? ⟨c1, 0, none⟩ = false ∧ w'.frozen? ⟨c1, 1, none⟩ = false ∧ w'.frozen? ⟨c1, 2, none⟩ = false ∧ w'.frozen? ⟨c1, 3, none⟩ = false ∧ w'.frozen? ⟨c1, 4, none⟩ = false ∧ Below w.heap.size w w' ∧ H ≤ w'.heap.size) (first | (go_split_ands; with_reducible exact ⟨keep_cell hb' (by assumption), keep_cell hb' (by assumption), keep_cell hb' (by assumption), keep_cell hb' (by assumption), keep_cell hb' (by assumption), cellV_keep hb' (by assumption), cellV_keep hb' (by assumption), cellV_keep hb' (by assumption), cellV_keep hb' (by assumption), cellV_keep hb' (by assumption), frozen_keep hb' ⟨by assumption, by assumption⟩, frozen_keep hb' ⟨by assumption, by assumption⟩, frozen_keep hb' ⟨by assumption, by assumption⟩, frozen_keep hb' ⟨by assumption, by assumption⟩, frozen_keep hb' ⟨by assumption, by assumption⟩, below_then (by assumption) hb', Nat.le_trans (by assumption) (Below.size hb')⟩) | (go_split_ands; with_reducible exact ⟨keep_cell (al_below _ _) (by assumption), keep_cell (al_below _ _) (by assumption), keep_cell (al_below _ _) (by assumption), keep_cell (al_below _ _) (by assumption), keep_cell (al_below _ _) (by assumption), cellV_keep (al_below _ _) (by assumption), cellV_keep (al_below _ _) (by assumption), cellV_keep (al_below _ _) (by assumption), cellV_keep (al_below _ _) (by assumption), cellV_keep (al_below _ _) (by assumption), frozen_keep (al_below _ _) ⟨by assumption, by assumption⟩, frozen_keep (al_below _ _) ⟨by assumption, by assumption⟩, frozen_keep (al_below _ _) ⟨by assumption, by assumption⟩, frozen_keep (al_below _ _) ⟨by assumption, by assumption⟩, frozen_keep (al_below _ _) ⟨by assumption, by assumption⟩, below_then (by assumption) (al_below _ _), Nat.le_trans (by assumption) (Below.size (al_below _ _))⟩) | (go_split_ands; with_reducible exact ⟨keep_cell (al_drew _ _) (by assumption), keep_cell (al_drew _ _) (by assumption), keep_cell (al_drew _ _) (by assumption), keep_cell (al_drew _ _) (by assumption), keep_cell (al_drew _ _) (by assumption), cellV_keep (al_drew _ _) (by assumption), cellV_keep (al_drew _ _) (by assumption), cellV_keep (al_drew _ _) (by assumption), cellV_keep (al_drew _ _) (by assumption), cellV_keep (al_drew _ _) (by assumption), frozen_keep (al_drew _ _) ⟨by assumption, by assumption⟩, frozen_keep (al_drew _ _) ⟨by assumption, by assumption⟩, frozen_keep (al_drew _ _) ⟨by assumption, by assumption⟩, frozen_keep (al_drew _ _) ⟨by assumption, by assumption⟩, frozen_keep (al_drew _ _) ⟨by assumption, by assumption⟩, below_then (by assumption) (al_drew _ _), Nat.le_trans (by assumption) (Below.size (al_drew _ _))⟩) | (go_split_ands; with_reducible exact ⟨st5_box nc' (by assumption), st5_box nc' (by assumption), st5_box nc' (by assumption), st5_box nc' (by assumption), st5_box nc' (by assumption), st5_cell (by assumption), st5_cell (by assumption), st5_cell (by assumption), st5_cell (by assumption), st5_cell (by assumption), st5_frozen (by assumption), st5_frozen (by assumption), st5_frozen (by assumption), st5_frozen (by assumption), st5_frozen (by assumption), st5_below HLc.out.1 (by assumption), st5_size (by assumption)⟩) | exact ⟨q0, q1, q2, q3, q4, t0, t1, t2, t3, t4, f0, f1, f2, f3, f4, B2.drew, HH⟩) (first | (refine step_append_new (by rfl) (.tmp 6) (.tmp 8) (by rfl) _ (by rfl) _ opn (by rfl) (HO.out.keep (by go_split_ands; assumption)) ho H (by go_split_ands; assumption) ?_; intro a9 c9 w' r9 hb'; have st' : Stp _ w' := hb') | (refine step_append_new (by rfl) (.tmp 10) (.tmp 12) (by rfl) _ (by rfl) _ fms (by rfl) (HF.out.keep (by go_split_ands; assumption)) hf H (by go_split_ands; assumption) ?_; intro a13 c13 w' r13 hb'; have st' : Stp _ w' := hb'; have h13 : Hid (w'.cell? ⟨c1, 0, none⟩ = some (cellV w' c1 0) ∧ w'.cell? ⟨c1, 1, none⟩ = some (cellV w' c1 1) ∧ w'.cell? ⟨c1, 2, none⟩ = some (cellV w' c1 2) ∧ w'.cell? ⟨c1, 3, none⟩ = some (cellV w' c1 3) ∧ w'.cell? ⟨c1, 4, none⟩ = some (cellV w' c1 4)) := (by show _ ∧ _; go_split_ands; with_reducible exact ⟨cellV_keep hb' (by assumption), cellV_keep hb' (by assumption), cellV_keep hb' (by assumption), cellV_keep hb' (by assumption), cellV_keep hb' (by assumption)⟩)) | (go_at_call 48; go_split_ands; refine (Hcp.out _ H (by assumption) (by assumption)).mono ?_; rintro e w' ⟨v5, rfl, o5, hb'⟩; have st' : Stp _ w' := hb'; obtain ⟨a5, c5, rfl⟩ := (its_of_own o5.2).imp fun a h => h.imp fun c h => h.1))
  all_goals
    have c59 := sizes59 o5 r9 (by first | with_reducible exact .inl (Stp.size (Stp.refl _)) | with_reducible exact .inl (Stp.size (Stp.al _ _)) | with_reducible exact .inl (Stp.size (Stp.then (Stp.al _ _) (Stp.al _ _))))
    have c53 := sizes59 o5 r13 (by first | with_reducible exact .inl (Stp.size (by assumption)) | with_reducible exact .inl (Stp.size (Stp.then (Stp.al _ _) (by assumption))) | with_reducible exact .inl (Stp.size (Stp.then (Stp.al _ _) (Stp.then (Stp.al _ _) (by assumption)))) | with_reducible exact .inl (Stp.size (Stp.then (by assumption) (Stp.al _ _))) | with_reducible exact .inl (Stp.size (Stp.then (Stp.al _ _) (Stp.then (by assumption) (Stp.al _ _)))) | with_reducible exact .inl (Stp.size (Stp.then (by assumption) (Stp.then (Stp.al _ _) (Stp.al _ _)))))
    have c93 := sizes99 r9 r13 (by first | with_reducible exact .inl (Stp.size (Stp.refl _)) | with_reducible exact .inl (Stp.size (Stp.al _ _)) | with_reducible exact .inl (Stp.size (Stp.then (Stp.al _ _) (Stp.al _ _))))
    have d5 := (its_at o5 (by first | with_reducible exact (Stp.then (by assumption) (by assumption)) | with_reducible exact (Stp.then (Stp.al _ _) (Stp.then (by assumption) (by assumption))) | with_reducible exact (Stp.then (Stp.al _ _) (Stp.then (Stp.al _ _) (Stp.then (by assumption) (by assumption)))) | with_reducible exact (Stp.then (by assumption) (Stp.then (Stp.al _ _) (by assumption))) | with_reducible exact (Stp.then (Stp.al _ _) (Stp.then (by assumption) (Stp.then (Stp.al _ _) (by assumption)))) | with_reducible exact (Stp.then (by assumption) (Stp.then (Stp.al _ _) (Stp.then (Stp.al _ _) (by assumption)))))).trans (st5_kb (x0 := .slice a5 its.length c5) (x1 := .slice a9 opn.length c9) (x2 := .slice a13 fms.length c13) (x3 := .int .i64 hd) (x4 := .int .i64 bd) HcH.out)
    have d9 := (row_at r9 (by first | with_reducible exact (by assumption) | with_reducible exact (Stp.then (Stp.al _ _) (by assumption)) | with_reducible exact (Stp.then (Stp.al _ _) (Stp.then (Stp.al _ _) (by assumption))))).trans (st5_kb (x0 := .slice a5 its.length c5) (x1 := .slice a9 opn.length c9) (x2 := .slice a13 fms.length c13) (x3 := .int .i64 hd) (x4 := .int .i64 bd) HcH.out)
    have d13 := (row_at r13 (Stp.refl _)).trans (st5_kb (x0 := .slice a5 its.length c5) (x1 := .slice a9 opn.length c9) (x2 := .slice a13 fms.length c13) (x3 := .int .i64 hd) (x4 := .int .i64 bd) HcH.out)
    have EP : Hid _ := (pg_fresh (p := ⟨its, opn, fms, hd, bd⟩) o5 r9 r13 d5 d9 d13 c59 c53 c93).base HwH.out
    clear c59 c53 c93 d5 d9 d13
    have HB : Hid (Below w.heap.size w (((((w'.setCell ⟨c1, 0, none⟩ (.slice a5 its.length c5)).setCell ⟨c1, 1, none⟩ (.slice a9 opn.length c9)).setCell ⟨c1, 2, none⟩ (.slice a13 fms.length c13)).setCell ⟨c1, 3, none⟩ (.int .i64 hd)).setCell ⟨c1, 4, none⟩ (.int .i64 bd))) := by
      show Below _ _ _
      go_split_ands
      with_reducible assumption
    obtain ⟨u0, u1, u2, u3, u4⟩ := h13.out
    have HT := st5_all (W := w') (c := c1) (x0 := .slice a5 its.length c5) (x1 := .slice a9 opn.length c9) (x2 := .slice a13 fms.length c13) (x3 := .int .i64 hd) (x4 := .int .i64 bd) (fun i hi => match i, hi with | 0, _ => ⟨_, u0⟩ | 1, _ => ⟨_, u1⟩ | 2, _ => ⟨_, u2⟩ | 3, _ => ⟨_, u3⟩ | 4, _ => ⟨_, u4⟩)
    clear u0 u1 u2 u3 u4 h13
    obtain ⟨s0, s1, s2, s3, s4⟩ := HT
    go_wp2_with fail
    refine bodyPost_ret (v := .agg #[.slice a5 its.length c5, .slice a9 opn.length c9, .slice a13 fms.length c13, .int .i64 hd, .int .i64 bd]) ?_ rfl ⟨_, _, _, rfl, EP.out, HB.out⟩
    simp [results, Try.results32, go_sem, s0, s1, s2, s3, s4]

end Go.Proofs.Ytlnegnikedinaaa.Sg
