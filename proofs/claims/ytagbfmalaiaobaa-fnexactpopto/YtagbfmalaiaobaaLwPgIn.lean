/- The law of InTable, of what the program's and the model's functions hand back. -/
import Derived.Test.YtagbfmalaiaobaaPgSpec2
import Derived.Test.YtagbfmalaiaobaaLwPg
import Derived.Test.YtagbfmalaiaobaaLwPgTo
import Derived.Test.YtagbfmalaiaobaaLwPgEq
import Derived.Deep.RegionHeld3
namespace Go.Proofs.Ytagbfmalaiaobaa.Sg
open Go.ChangeShapes Go.WideShapes Go.ChangeAt Go.RowKit

theorem itW_le' {l : List ItB} {t : ItB} (h : t ∈ l) : itW t ≤ itsW l := by
  unfold itsW
  induction l with
  | nil => exact absurd h List.not_mem_nil
  | cons u l ih =>
    rw [List.map_cons, List.sum_cons, List.length_cons]
    rcases List.mem_cons.1 h with rfl | h
    · omega
    · have := ih h
      omega
theorem pg_light {p : PgB} (h : pgW p ≤ 1048576) : PgSize p := by
  unfold pgW at h
  refine ⟨by unfold itsW at h; omega, fun t ht => ?_, by omega, by omega⟩
  have := itW_le' ht
  unfold itW attrsW at this
  omega

theorem Many.five {w : World} {b : Nat} {v0 v1 v2 v3 v4 : Value} (h : Many 5 w b (fun i => [v0, v1, v2, v3, v4].getD i undef)) :
    w.cell? ⟨b, 0, none⟩ = some v0 ∧ w.cell? ⟨b, 1, none⟩ = some v1 ∧ w.cell? ⟨b, 2, none⟩ = some v2 ∧ w.cell? ⟨b, 3, none⟩ = some v3 ∧ w.cell? ⟨b, 4, none⟩ = some v4 :=
  ⟨(h.2 0 (by omega)).1, (h.2 1 (by omega)).1, (h.2 2 (by omega)).1, (h.2 3 (by omega)).1, (h.2 4 (by omega)).1⟩
theorem Many.keep {n : Nat} {w w' : World} {b : Nat} {f : Nat → Value} (h : Many n w b f) (hb : Below w.heap.size w w') : Many n w' b f := h.below h.1 hb
theorem keep_five {w w' : World} (hb : Below w.heap.size w w') {b : Nat} {v0 v1 v2 v3 v4 : Value} (h : w.cell? ⟨b, 0, none⟩ = some v0 ∧ w.cell? ⟨b, 1, none⟩ = some v1 ∧ w.cell? ⟨b, 2, none⟩ = some v2 ∧ w.cell? ⟨b, 3, none⟩ = some v3 ∧ w.cell? ⟨b, 4, none⟩ = some v4) :
    w'.cell? ⟨b, 0, none⟩ = some v0 ∧ w'.cell? ⟨b, 1, none⟩ = some v1 ∧ w'.cell? ⟨b, 2, none⟩ = some v2 ∧ w'.cell? ⟨b, 3, none⟩ = some v3 ∧ w'.cell? ⟨b, 4, none⟩ = some v4 :=
  ⟨keep_cell hb h.1, keep_cell hb h.2.1, keep_cell hb h.2.2.1, keep_cell hb h.2.2.2.1, keep_cell hb h.2.2.2.2⟩
theorem PgAt.drew {w : World} {v : Value} {p : PgB} (h : PgAt w v p) : PgAt w.drew v p := h.keep ((Below.refl _ _).drew)
theorem below_then {w a b : World} (h : Below w.heap.size w a) (k : Below a.heap.size a b) : Below w.heap.size w b := h.trans (k.mono h.size)

set_option maxRecDepth 20000 in
set_option maxHeartbeats 8000000 in
theorem lawInTable (p : PgB) (v : Value) (w : World) (T : World → Prop) (hTb : ∀ w w' : World, T w → Below w.heap.size w w' → T w') (hT : T w) (h : PgIn w v p) (hh : PgHeld p)
    (hI : pgW p ≤ 1048576 → ∀ W x, PgAt W x p → T W → Calls Try.prog 22 #[x] W fun e w' => e = .returned (.bool (inTableB p)) ∧ Below W.heap.size W w') :
    Calls Try.prog 7 #[v] w fun e w' => e = .returned (.bool true) ∧ Below w.heap.size w w' := by
  have HTw : Hid (T w) := hT
  have HTb : Hid (∀ w w' : World, T w → Below w.heap.size w w' → T w') := hTb
  have Hv : Hid (PgIn w v p) := h
  have Hz : Hid (∀ W, Below w.heap.size w W → Calls Try.prog 8 #[v, .int .i64 1048576] W fun e w' => e = .returned (.int .i64 (leftZ 1048576 (pgW p))) ∧ Below W.heap.size W w') := fun W hW => szPage_any p v W (Hv.out.keep hW) hh
  obtain ⟨ia, ic, oa, oc, fa, fc, rfl, _⟩ := h
  clear hT hTb hh
  by_cases hbig : pgW p ≤ 1048576
  · have Hsz : Hid (PgSize p) := pg_light hbig
    have hz : leftZ 1048576 (pgW p) = 1048576 - (pgW p : Int) := leftP_yes (by omega)
    rw [hz] at Hz
    have g1 : ¬ (1048576 - (pgW p : Int)) < 0 := by omega
    have g1' : decide ((1048576 - (pgW p : Int)) < 0) = false := decide_eq_false g1
    have Hto : Hid (∀ W, Below w.heap.size w W → Calls Try.prog 10 #[.agg #[.slice ia p.its.length ic, .slice oa p.opn.length oc, .slice fa p.fms.length fc, .int .i64 p.hd, .int .i64 p.bd]] W fun e w' => ∃ gi go gf : Nat, e = .returned (.agg #[.slice (some ⟨gi, 0, none⟩) p.its.length p.its.length, .slice (some ⟨go, 0, none⟩) p.opn.length p.opn.length, .slice (some ⟨gf, 0, none⟩) p.fms.length p.fms.length, .int .i64 p.hd, .int .i64 p.bd]) ∧ PgAt w' (.agg #[.slice (some ⟨gi, 0, none⟩) p.its.length p.its.length, .slice (some ⟨go, 0, none⟩) p.opn.length p.opn.length, .slice (some ⟨gf, 0, none⟩) p.fms.length p.fms.length, .int .i64 p.hd, .int .i64 p.bd]) p ∧ Below W.heap.size W w') := fun W hW => (toPage_any p _ W (Hv.out.keep hW) Hsz.out.1 Hsz.out.2.1 Hsz.out.2.2.1 Hsz.out.2.2.2).mono fun e w' ⟨gi, go, gf, h1, h2, h3⟩ => ⟨gi, go, gf, h1, pg_of_own ⟨_, _, _, rfl, h2⟩, h3⟩
    have Hs : Hid (∀ W x, PgAt W x p → Calls Try.prog 21 #[x] W fun e w' => e = .returned (.bool (inTableB p)) ∧ Below W.heap.size W w') := fun W x hx => specInTable p x W hx Hsz.out.2.2.1
    have Hi : Hid (∀ W x, PgAt W x p → T W → Calls Try.prog 22 #[x] W fun e w' => e = .returned (.bool (inTableB p)) ∧ Below W.heap.size W w') := hI hbig
    have He : Hid (∀ W x y, PgAt W x p → PgAt W y p → Calls Try.prog 12 #[x, y] W fun e w' => e = .returned (.bool true) ∧ Below W.heap.size W w') := fun W x y hx hy => eqPage_same p x y W hx hy Hsz.out
    clear hz hI
    generalize inTableB p = V at *
    have gV : (V != V) = false := by simp
    generalize (1048576 - (pgW p : Int)) = left at *
    clear Hsz Hv hbig
    have eA : ∀ o, (w.alloc o).heap.size = w.heap.size + 1 := by simp
    go_enter Try.func7, Try.ntmps7
    go_wp2_with fail
    refine (Hz.out _ ((Below.refl _ _).alloc (Nat.le_refl _) _)).mono ?_
    rintro e w1 ⟨rfl, b1⟩
    have F1 : Many 5 w1 w.heap.size (fun i => [Value.slice ia p.its.length ic, .slice oa p.opn.length oc, .slice fa p.fms.length fc, .int .i64 p.hd, .int .i64 p.bd].getD i undef) :=
      (Many.new w [.slice ia p.its.length ic, .slice oa p.opn.length oc, .slice fa p.fms.length fc, .int .i64 p.hd, .int .i64 p.bd] 25 undef).below (by simp) b1
    have HB1 : Hid (Below w.heap.size w w1) := ((Below.refl _ _).alloc (Nat.le_refl _) _).trans (b1.mono (by simp))
    clear b1 Hz eA
    obtain ⟨q0, q1, q2, q3, q4⟩ := F1.five
    have HF1 : Hid (Many 5 w1 w.heap.size _) := F1
    clear F1
    go_wp2_with fail
    refine (Hto.out _ HB1.out).mono ?_
    rintro e w2 ⟨gi, go, gf, rfl, A2, b2⟩
    have HF2 : Hid (Many 5 w2 w.heap.size _) := HF1.out.keep b2
    have HB2 : Hid (Below w.heap.size w w2) := below_then HB1.out b2
    clear q0 q1 q2 q3 q4 b2 HF1 HB1
    go_wp2_with fail
    refine (Hs.out _ _ A2).mono ?_
    rintro e w3 ⟨rfl, b3⟩
    have HF3 : Hid (Many 5 w3 w.heap.size _) := HF2.out.keep b3
    have HB3 : Hid (Below w.heap.size w w3) := below_then HB2.out b3
    clear b3 HF2 HB2 A2
    obtain ⟨q0, q1, q2, q3, q4⟩ := HF3.out.five
    go_wp2_with fail
    refine (Hto.out _ HB3.out).mono ?_
    rintro e w4 ⟨ji, jo, jf, rfl, A4, b4⟩
    have F4 := HF3.out.keep b4
    have HB4 : Hid (Below w.heap.size w w4) := below_then HB3.out b4
    clear q0 q1 q2 q3 q4 b4 HF3 HB3
    have BA : Hid (Below w4.heap.size w4 (w4.alloc (.cells #[.slice (some ⟨ji, 0, none⟩) p.its.length p.its.length, .slice (some ⟨jo, 0, none⟩) p.opn.length p.opn.length, .slice (some ⟨jf, 0, none⟩) p.fms.length p.fms.length, .int .i64 p.hd, .int .i64 p.bd] 30))) := (Below.refl _ _).alloc (Nat.le_refl _) _
    have G4 := Many.new w4 [.slice (some ⟨ji, 0, none⟩) p.its.length p.its.length, .slice (some ⟨jo, 0, none⟩) p.opn.length p.opn.length, .slice (some ⟨jf, 0, none⟩) p.fms.length p.fms.length, .int .i64 p.hd, .int .i64 p.bd] 30 undef
    have Hw4 : Hid (Many 5 (w4.alloc (.cells #[.slice (some ⟨ji, 0, none⟩) p.its.length p.its.length, .slice (some ⟨jo, 0, none⟩) p.opn.length p.opn.length, .slice (some ⟨jf, 0, none⟩) p.fms.length p.fms.length, .int .i64 p.hd, .int .i64 p.bd] 30)) w4.heap.size (fun i => [Value.slice (some ⟨ji, 0, none⟩) p.its.length p.its.length, .slice (some ⟨jo, 0, none⟩) p.opn.length p.opn.length, .slice (some ⟨jf, 0, none⟩) p.fms.length p.fms.length, .int .i64 p.hd, .int .i64 p.bd].getD i undef)) := G4
    clear G4
    go_wp2_with fail
    refine (Hi.out _ _ (A4.keep BA.out) (HTb.out _ _ HTw.out (below_then HB4.out BA.out))).mono ?_
    rintro e w5 ⟨rfl, b5⟩
    obtain ⟨q0, q1, q2, q3, q4⟩ := ((F4.keep BA.out).keep b5).five
    obtain ⟨r0, r1, r2, r3, r4⟩ := (Hw4.out.keep b5).five
    have A5 := (A4.keep BA.out).keep b5
    have B5 := below_then (below_then HB4.out BA.out) b5
    clear b5 F4 Hw4 A4 HB4 BA Hi Hs HTb HTw
    generalize w4.heap.size = c5 at *
    go_upto_region 10 with fail
    go_region_held3 (fun w' => w'.cell? ⟨w.heap.size, 0, none⟩ = some (.slice ia p.its.length ic) ∧ w'.cell? ⟨w.heap.size, 1, none⟩ = some (.slice oa p.opn.length oc) ∧ w'.cell? ⟨w.heap.size, 2, none⟩ = some (.slice fa p.fms.length fc) ∧ w'.cell? ⟨w.heap.size, 3, none⟩ = some (.int .i64 p.hd) ∧ w'.cell? ⟨w.heap.size, 4, none⟩ = some (.int .i64 p.bd) ∧ w'.cell? ⟨c5, 0, none⟩ = some (.slice (some ⟨ji, 0, none⟩) p.its.length p.its.length) ∧ w'.cell? ⟨c5, 1, none⟩ = some (.slice (some ⟨jo, 0, none⟩) p.opn.length p.opn.length) ∧ w'.cell? ⟨c5, 2, none⟩ = some (.slice (some ⟨jf, 0, none⟩) p.fms.length p.fms.length) ∧ w'.cell? ⟨c5, 3, none⟩ = some (.int .i64 p.hd) ∧ w'.cell? ⟨c5, 4, none⟩ = some (.int .i64 p.bd) ∧ PgAt w' (.agg #[.slice (some ⟨ji, 0, none⟩) p.its.length p.its.length, .slice (some ⟨jo, 0, none⟩) p.opn.length p.opn.length, .slice (some ⟨jf, 0, none⟩) p.fms.length p.fms.length, .int .i64 p.hd, .int .i64 p.bd]) p ∧ Below w.heap.size w w') (first | exact ⟨q0, q1, q2, q3, q4, r0, r1, r2, r3, r4, PgAt.drew A5, Below.drew B5⟩ | go_keep | (go_split_ands; exact ⟨keep_cell hb' (by assumption), keep_cell hb' (by assumption), keep_cell hb' (by assumption), keep_cell hb' (by assumption), keep_cell hb' (by assumption), keep_cell hb' (by assumption), keep_cell hb' (by assumption), keep_cell hb' (by assumption), keep_cell hb' (by assumption), keep_cell hb' (by assumption), PgAt.keep (by assumption) hb', below_then (by assumption) hb'⟩)) (first | (go_at_call 10; refine (Hto.out _ (by first | assumption | exact Below.drew B5)).mono ?_; rintro e w' ⟨ki, ko, kf, rfl, A', hb'⟩) | (go_at_call 12; go_split_ands; refine (He.out _ _ _ (by assumption) (by assumption)).mono ?_; rintro e w' ⟨rfl, hb'⟩))
    all_goals
      go_split_ands
      have HBz : Hid (Below w.heap.size w w') := by assumption
      clear Hto He
      go_wp2_with fail
      go_ret
      exact ⟨rfl, HBz.out⟩
  · have hz : leftZ 1048576 (pgW p) = -1 := leftP_no (by omega)
    rw [hz] at Hz
    clear hI
    go_enter Try.func7, Try.ntmps7
    go_wp2_with fail
    refine (Hz.out _ ((Below.refl _ _).alloc (Nat.le_refl _) _)).mono ?_
    rintro e w1 ⟨rfl, b1⟩
    have HB1 : Hid (Below w.heap.size w w1) := ((Below.refl _ _).alloc (Nat.le_refl _) _).trans (b1.mono (by simp))
    clear b1
    go_wp2_with fail
    go_ret
    exact ⟨rfl, HB1.out⟩

end Go.Proofs.Ytagbfmalaiaobaa.Sg
