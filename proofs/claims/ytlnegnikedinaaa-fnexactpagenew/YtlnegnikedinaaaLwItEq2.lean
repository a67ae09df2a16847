/- The laws' slices of items: compared. -/
import Derived.Test.YtlnegnikedinaaaLwItEq
namespace Go.Proofs.Ytlnegnikedinaaa.Sg
open Go.ChangeShapes Go.WideShapes Go.ChangeAt Go.RowKit

set_option maxRecDepth 20000 in
set_option maxHeartbeats 4000000 in
theorem eqItemS_same (l : List ItB) (a b : Option Addr) (n ca cb : Nat) (w : World) (ha : ItsAt w a l) (hb : ItsAt w b l) (hl : l.length = n) (hn : n ≤ 17592186044416) (hat : ∀ t ∈ l, t.ats.length ≤ 17592186044416 ∧ t.kids.length ≤ 17592186044416) :
    Calls Try.prog 23 #[.slice a n ca, .slice b n cb] w fun e w' => e = .returned (.bool true) ∧ Below w.heap.size w w' := by
  have Ha : Hid (ItsAt w a l) := ha
  have Hb : Hid (ItsAt w b l) := hb
  have Hl : Hid (l.length = n) := hl
  have Hat : Hid (∀ t ∈ l, t.ats.length ≤ 17592186044416 ∧ t.kids.length ≤ 17592186044416) := hat
  clear ha hb hl hat
  go_enter Try.func23, Try.ntmps23
  go_wp2
  go_loopw [5] (fun i wr => ∃ k : Nat, k ≤ n ∧ i = .int .i64 k ∧ Below w.heap.size w wr) (fun i _ => n - (intOf i).toNat)
  case atStart => exact ⟨0, Nat.zero_le _, rfl, Below.refl _ _⟩
  case round =>
    obtain ⟨k, hk, rfl, hbel⟩ := hrel
    by_cases hlt : k < n
    · have hkl : k < l.length := by rw [Hl.out]; exact hlt
      obtain ⟨ba, rfl, c0, c1, c2, ⟨sv, c3, S1⟩, c4, c5, ⟨kv, c6, K1⟩⟩ := (Ha.out.keep hbel).get k hkl
      obtain ⟨bb, rfl, d0, d1, d2, ⟨sv2, d3, S2⟩, d4, d5, ⟨kv2, d6, K2⟩⟩ := (Hb.out.keep hbel).get k hkl
      have hlen := Hat.out _ (List.getElem_mem hkl)
      generalize l[k]'hkl = t at *
      clear hkl
      have Htok : ∀ d os, Calls Try.prog 44 #[.agg #[.int .i64 t.kd, .int .i64 t.sp, .string t.nm, sv, .string t.tx, .int .i64 t.up, kv], .agg #[.int .i64 t.kd, .int .i64 t.sp, .string t.nm, sv2, .string t.tx, .int .i64 t.up, kv2]] (Sort.grow (redrawn wr d) os) fun e w'' => e = .returned (.bool true) ∧ ∃ p : Regrown, w'' = Sort.grow (redrawn wr p.d) p.os := fun d os => Calls.regrown_of (eqItem_same t sv kv sv2 kv2 _ (S1.keep (below_regrown wr d os)) (S2.keep (below_regrown wr d os)) (K1.keep (below_regrown wr d os)) (K2.keep (below_regrown wr d os)) hlen.1 hlen.2)
      obtain ⟨kd, sp, nm, at', tx, up, kids⟩ := t
      simp only at c0 c1 c2 c4 c5 d0 d1 d2 d4 d5 Htok
      have k0 : (0 : Int) ≤ (k : Int) := by omega
      have k1 : (k : Int) < (n : Int) := by omega
      have x0 := cell_regrown c0
      have x1 := cell_regrown c1
      have x2 := cell_regrown c2
      have x3 := cell_regrown c3
      have x4 := cell_regrown c4
      have x5 := cell_regrown c5
      have x6 := cell_regrown c6
      have y0 := cell_regrown d0
      have y1 := cell_regrown d1
      have y2 := cell_regrown d2
      have y3 := cell_regrown d3
      have y4 := cell_regrown d4
      have y5 := cell_regrown d5
      have y6 := cell_regrown d6
      clear c0 c1 c2 c3 c4 c5 c6 d0 d1 d2 d3 d4 d5 d6 S1 S2 K1 K2 hlen
      go_upto_region 6 with fail
      refine wp_region_quiet_below (by kernel_rfl) (by kernel_rfl) ?_
      repeat (go_big_quiet_step (first | exact Htok _ _))
      refine wpQuiet_nil ?_
      intro _ hw'
      obtain ⟨⟨dq, osq⟩, hw''⟩ := hw'
      subst hw''
      have bf := hbel.trans ((below_regrown wr dq osq).mono hbel.size)
      generalize Sort.grow (redrawn wr dq) osq = W at *
      clear x0 x1 x2 x3 x4 x5 x6 y0 y1 y2 y3 y4 y5 y6 Htok
      go_wp2_with fail
      go_roundw
      case rel => exact ⟨k + 1, by omega, by go_num, bf⟩
      case measure => simp [intOf]; omega
    · have g1 : decide ((k : Int) < (n : Int)) = false := decide_eq_false (by omega)
      go_wp2
      go_ret
      exact ⟨rfl, hbel⟩

end Go.Proofs.Ytlnegnikedinaaa.Sg
