/- Contracts of the model's l8Last, InTable, l8Find, TableOpen. The laws' slices of items, weighed. The laws' pages: weighed. -/
import Derived.Test.YtlnegnikedinaaaPgSpec
import Derived.Test.YtlnegnikedinaaaLwIt
import Derived.Test.YtlnegnikedinaaaMDPopTo02
namespace Go.Proofs.Ytlnegnikedinaaa.Sg
open Go.ChangeShapes Go.WideShapes Go.ChangeAt Go.RowKit

set_option maxRecDepth 20000 in
set_option maxHeartbeats 8000000 in
theorem specLast (p : PgB) (v : Value) (w : World) (hv : PgAt w v p) (ho : p.opn.length ≤ 1099511627776) :
    Calls Try.prog 33 #[v] w fun e w' => e = .returned (.string (lastN p)) ∧ Below w.heap.size w w' := by
  have Hv : Hid (PgAt w v p) := hv
  obtain ⟨ia, ic, oa, oc, fa, fc, rfl, _⟩ := hv
  obtain ⟨R, HR⟩ : ∃ R, Hid (lastN p = R) := ⟨_, rfl⟩
  rw [HR.out]
  have HC : Hid (∀ W, Below w.heap.size w W → ∀ z : Int, z = (p.opn.length : Int) - 1 → Calls Try.prog 49 #[.agg #[.slice ia p.its.length ic, .slice oa p.opn.length oc, .slice fa p.fms.length fc, .int .i64 p.hd, .int .i64 p.bd], .int .i64 z] W fun e w' => e = .returned (.string R) ∧ Below W.heap.size W w') := by
    intro W hW z hz
    by_cases h0 : p.opn.length = 0
    · have e1 : z = -1 := by omega
      have e2 : R = ⟨#[]⟩ := by rw [← HR.out]; unfold lastN; rw [if_pos h0]
      rw [e1, e2]
      exact specName_no p _ W (Hv.out.keep hW)
    · have e1 : z = ((p.opn.length - 1 : Nat) : Int) := by omega
      have e2 : R = nameAt p (p.opn.length - 1) := by rw [← HR.out]; unfold lastN; rw [if_neg h0]
      rw [e1, e2]
      exact specName_at p _ _ W (Hv.out.keep hW) (by omega)
  have g1 : IntKind.i64.wrap ((p.opn.length : Int) - 1) = (p.opn.length : Int) - 1 := IntWalk.i64_in _ (by omega)
  clear Hv HR ho
  generalize p.opn.length = m at *
  generalize p.its.length = n at *
  go_enter Try.func33, Try.ntmps33
  go_wp2_with fail
  refine (HC.out _ ((Below.refl _ _).alloc (Nat.le_refl _) _) _ rfl).mono ?_
  rintro e w1 ⟨rfl, b1⟩
  go_wp2_with fail
  go_ret
  exact ⟨rfl, ((Below.refl _ _).alloc (Nat.le_refl _) _).trans (b1.mono (by simp))⟩




end Go.Proofs.Ytlnegnikedinaaa.Sg

namespace Go.Proofs.Ytlnegnikedinaaa.Sg
open Go.ChangeShapes Go.WideShapes Go.ChangeAt Go.RowKit

set_option maxHeartbeats 2000000 in
theorem szItemS_any (l : List ItB) (a : Option Addr) (n cap : Nat) (left : Int) (w : World) (ha : ItsIn w a l) (hl : l.length = n) (hh : ItsHeld l) (hl1 : 0 ≤ left) (hl2 : left ≤ 1048576) :
    Calls Try.prog 18 #[.slice a n cap, .int .i64 left] w fun e w' => e = .returned (.int .i64 (leftZ left (itsW l))) ∧ Below w.heap.size w w' := by
  have Ha : Hid (ItsIn w a l) := ha
  have Hl : Hid (l.length = n) := hl
  have Hh : Hid (ItsHeld l) := hh
  have hn : n ≤ 9223372036854775807 := by rw [← hl]; exact hh.1
  have Hn : Hid (leftZ left (itsW l) = leftZ left (n + (l.map itW).sum)) := by
    show _ = _
    unfold itsW
    rw [hl]
  have q1 : IntKind.i64.wrap (left - (n : Int)) = left - (n : Int) := IntWalk.i64_in _ (by omega)
  clear ha hl hh
  by_cases g1 : left - (n : Int) < 0
  · have Hn2 : Hid (leftZ left (itsW l) = -1) := by
      show _ = _
      rw [Hn.out]
      exact leftZ_no (by unfold leftZ; rw [if_neg (by omega)]; omega) hl1
    clear Hn
    go_enter Try.func18, Try.ntmps18
    go_wp2
    go_ret
    exact ⟨ret_left Hn2.out.symm, Below.refl _ _⟩
  have g1' : decide (left - (n : Int) < 0) = false := decide_eq_false g1
  have Hn2 : Hid (leftZ left (itsW l) = leftZ (left - (n : Int)) ((l.drop 0).map itW).sum) := by
    show _ = _
    have e : leftZ left n = left - (n : Int) := by unfold leftZ; rw [if_pos (by omega)]
    rw [Hn.out, (leftZ_yes (by rw [e]; exact g1) hl1).1, e]
    rfl
  clear Hn
  go_enter Try.func18, Try.ntmps18
  go_wp2
  go_loopw [1, 5] (fun lv iv wr => ∃ (k : Nat) (cur : Int), k ≤ n ∧ iv = .int .i64 (k : Int) ∧ lv = .int .i64 cur ∧ 0 ≤ cur ∧ cur ≤ 1048576 ∧ Hid (leftZ left (itsW l) = leftZ cur ((l.drop k).map itW).sum) ∧ Below w.heap.size w wr) (fun _ iv _ => n - (intOf iv).toNat)
  case atStart => exact ⟨0, left - (n : Int), Nat.zero_le _, rfl, rfl, by omega, by omega, Hn2, Below.refl _ _⟩
  case round =>
    obtain ⟨k, cur, hk, rfl, rfl, hc0, hc1, Hsp, hbel⟩ := hrel
    by_cases hlt : k < n
    · have hkl : k < l.length := by rw [Hl.out]; exact hlt
      rcases Ha.out.keep hbel with h | ⟨b, off, rfl, hb, hc⟩
      · rw [h] at hkl
        exact absurd hkl (Nat.not_lt_zero _)
      obtain ⟨c0, c1, c2, ⟨sv, c3, hS⟩, c4, c5, ⟨kv, c6, hI⟩⟩ := hc k hkl
      have hsum := sum_drop itW l k hkl
      have hp := Hh.out.2 _ (List.getElem_mem hkl)
      clear hc
      generalize l[k]'hkl = p at *
      clear hkl
      have Hs := szItem_any p sv kv cur wr hS hI hp hc0 hc1
      rw [hsum] at Hsp
      clear hsum hp hS hI
      obtain ⟨z, hz⟩ : ∃ z, leftZ cur (itW p) = z := ⟨_, rfl⟩
      rw [hz] at Hs
      have k0 : (0 : Int) ≤ (k : Int) := by omega
      have k1 : (k : Int) < (n : Int) := by omega
      by_cases gz : z < 0
      · have Hf : Hid (leftZ left (itsW l) = -1) := Hsp.out.trans (leftZ_no (by rw [hz]; exact gz) hc0)
        clear Hsp hz
        obtain ⟨kd, sp, nm, at', tx, up, kids⟩ := p
        simp only [itV] at Hs
        go_wp2_with fail
        refine Hs.mono ?_
        rintro e w1 ⟨rfl, b1⟩
        have b2 := hbel.trans (b1.mono hbel.size)
        clear b1
        go_wp2_with fail
        go_ret
        exact ⟨ret_left Hf.out.symm, b2⟩
      · have hy := leftZ_yes (b := ((l.drop (k + 1)).map itW).sum) (by rw [hz]; exact gz) hc0
        rw [hz] at hy
        have Hf : Hid (leftZ left (itsW l) = leftZ z ((l.drop (k + 1)).map itW).sum) := Hsp.out.trans hy.1
        have hzc := hy.2
        have gz' : decide (z < 0) = false := decide_eq_false gz
        clear Hsp hz hy
        obtain ⟨kd, sp, nm, at', tx, up, kids⟩ := p
        simp only [itV] at Hs
        go_wp2_with fail
        refine Hs.mono ?_
        rintro e w1 ⟨rfl, b1⟩
        have b2 := hbel.trans (b1.mono hbel.size)
        clear b1
        go_wp2_with fail
        go_roundw
        case rel => exact ⟨k + 1, z, by omega, by go_num, rfl, by omega, by omega, Hf, b2⟩
        case measure => simp [intOf]; omega
    · have Hf : Hid (leftZ left (itsW l) = cur) := by
        show _ = _
        rw [Hsp.out, List.drop_eq_nil_of_le (by have := Hl.out; omega)]
        exact leftZ_zero hc0
      have g2 : decide ((k : Int) < (n : Int)) = false := decide_eq_false (by omega)
      clear Hsp
      go_wp2
      go_ret
      exact ⟨ret_left Hf.out.symm, hbel⟩

end Go.Proofs.Ytlnegnikedinaaa.Sg

namespace Go.Proofs.Ytlnegnikedinaaa.Sg
open Go.ChangeShapes Go.WideShapes Go.ChangeAt Go.RowKit

theorem leftP_yes {left : Int} {n : Nat} (h : (n : Int) ≤ left) : leftZ left n = left - n := by unfold leftZ; rw [if_pos (by omega)]
theorem leftP_no {left : Int} {n : Nat} (h : ¬ (n : Int) ≤ left) : leftZ left n = -1 := by unfold leftZ; rw [if_neg (by omega)]

set_option maxRecDepth 20000 in
set_option maxHeartbeats 4000000 in
theorem szPage_any (p : PgB) (v : Value) (w : World) (h : PgIn w v p) (hh : PgHeld p) :
    Calls Try.prog 12 #[v, .int .i64 1048576] w fun e w' => e = .returned (.int .i64 (leftZ 1048576 (pgW p))) ∧ Below w.heap.size w w' := by
  obtain ⟨ia, ic, oa, oc, fa, fc, rfl, hI, hO, hF⟩ := h
  obtain ⟨its, opn, fms, hd, bd⟩ := p
  obtain ⟨h1, h2, h3⟩ := hh
  simp only at hI hO hF h1 h2 h3 ⊢
  have HI : Hid (∀ W, Below w.heap.size w W → Calls Try.prog 18 #[.slice ia its.length ic, .int .i64 1048576] W fun e w' => e = .returned (.int .i64 (leftZ 1048576 (itsW its))) ∧ Below W.heap.size W w') := fun W hW => szItemS_any its ia its.length ic 1048576 W (hI.keep hW) rfl h1 (by decide) (by decide)
  have HO : Hid (∀ W (left : Int), 0 ≤ left → left ≤ 1048576 → Calls Try.prog 31 #[.slice oa opn.length oc, .int .i64 left] W fun e w' => e = .returned (.int .i64 (leftZ left opn.length)) ∧ Below W.heap.size W w') := fun W left a b => szIntS_any oa opn.length oc left W h2 a b
  have HF : Hid (∀ W (left : Int), 0 ≤ left → left ≤ 1048576 → Calls Try.prog 31 #[.slice fa fms.length fc, .int .i64 left] W fun e w' => e = .returned (.int .i64 (leftZ left fms.length)) ∧ Below W.heap.size W w') := fun W left a b => szIntS_any fa fms.length fc left W h3 a b
  have HW : Hid (pgW ⟨its, opn, fms, hd, bd⟩ = itsW its + (opn.length + fms.length)) := rfl
  rw [HW.out]
  clear hI hO hF h1 h2 h3 HW
  generalize itsW its = x at *
  generalize opn.length = y at *
  generalize fms.length = z at *
  obtain ⟨R, HR⟩ : ∃ R, Hid (leftZ 1048576 (x + (y + z)) = R) := ⟨_, rfl⟩
  rw [HR.out]
  go_enter Try.func12, Try.ntmps12
  go_wp2_with fail
  refine (HI.out _ ((Below.refl _ _).alloc (Nat.le_refl _) _)).mono ?_
  rintro e w1 ⟨rfl, b1⟩
  have e1 : ∀ o, (w.alloc o).heap.size = w.heap.size + 1 := by simp
  rw [e1] at b1
  have c1 : w1.cell? ⟨w.heap.size, 1, none⟩ = some (.slice oa y oc) := (b1.cell (Nat.lt_succ_self _)).trans (by rw [World.cell?_alloc_new]; rfl)
  have c2 : w1.cell? ⟨w.heap.size, 2, none⟩ = some (.slice fa z fc) := (b1.cell (Nat.lt_succ_self _)).trans (by rw [World.cell?_alloc_new]; rfl)
  have HB : Hid (Below w.heap.size w w1) := ((Below.refl _ _).alloc (Nat.le_refl _) _).trans (b1.mono (Nat.le_succ _))
  have HL : Hid (w.heap.size + 1 ≤ w1.heap.size) := by show _ ≤ _; have := b1.size; rw [e1] at this; exact this
  clear b1 e1 HI
  by_cases hx : (x : Int) ≤ 1048576
  · rw [leftP_yes hx]
    have g1 : ¬ (1048576 - (x : Int)) < 0 := by omega
    have g1' : decide ((1048576 - (x : Int)) < 0) = false := decide_eq_false g1
    have HO1 := HO.out w1 (1048576 - (x : Int)) (by omega) (by omega)
    by_cases hy : (y : Int) ≤ 1048576 - x
    · rw [leftP_yes hy] at HO1
      go_wp2_with fail
      refine HO1.mono ?_
      rintro e w2 ⟨rfl, b2⟩
      have d2 : w2.cell? ⟨w.heap.size, 2, none⟩ = some (.slice fa z fc) := (b2.cell (show w.heap.size < w1.heap.size from HL.out)).trans c2
      have HB2 : Hid (Below w.heap.size w w2) := HB.out.trans (b2.mono HB.out.size)
      have g2 : ¬ (1048576 - (x : Int) - (y : Int)) < 0 := by omega
      have g2' : decide ((1048576 - (x : Int) - (y : Int)) < 0) = false := decide_eq_false g2
      have HF1 := HF.out w2 (1048576 - (x : Int) - (y : Int)) (by omega) (by omega)
      clear b2 c1 c2 HO1 HO HF
      by_cases hz : (z : Int) ≤ 1048576 - x - y
      · rw [leftP_yes hz] at HF1
        have Hr : Hid (R = 1048576 - (x : Int) - (y : Int) - (z : Int)) := by show _ = _; rw [← HR.out, leftP_yes (by omega)]; omega
        have g3 : ¬ (1048576 - (x : Int) - (y : Int) - (z : Int)) < 0 := by omega
        have g3' : decide ((1048576 - (x : Int) - (y : Int) - (z : Int)) < 0) = false := decide_eq_false g3
        go_wp2_with fail
        refine HF1.mono ?_
        rintro e w3 ⟨rfl, b3⟩
        go_wp2_with fail
        go_ret
        exact ⟨by rw [Hr.out]; rfl, HB2.out.trans (b3.mono HB2.out.size)⟩
      · rw [leftP_no hz] at HF1
        have Hr : Hid (R = -1) := by show _ = _; rw [← HR.out, leftP_no (by omega)]
        go_wp2_with fail
        refine HF1.mono ?_
        rintro e w3 ⟨rfl, b3⟩
        go_wp2_with fail
        go_ret
        exact ⟨by rw [Hr.out]; rfl, HB2.out.trans (b3.mono HB2.out.size)⟩
    · rw [leftP_no hy] at HO1
      have Hr : Hid (R = -1) := by show _ = _; rw [← HR.out, leftP_no (by omega)]
      go_wp2_with fail
      refine HO1.mono ?_
      rintro e w2 ⟨rfl, b2⟩
      go_wp2_with fail
      go_ret
      exact ⟨by rw [Hr.out]; rfl, HB.out.trans (b2.mono HB.out.size)⟩
  · rw [leftP_no hx]
    have Hr : Hid (R = -1) := by show _ = _; rw [← HR.out, leftP_no (by omega)]
    go_wp2_with fail
    go_ret
    exact ⟨by rw [Hr.out]; rfl, HB.out⟩

end Go.Proofs.Ytlnegnikedinaaa.Sg
