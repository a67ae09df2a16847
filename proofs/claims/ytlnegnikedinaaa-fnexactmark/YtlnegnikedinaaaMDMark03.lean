/- The laws' pages, compared: two that hold the same are the same. Contract of the laws' held pages. Contracts of the model's Void, OfHead, Format, Block, Part, Wall, Head. -/
import Derived.Test.YtlnegnikedinaaaMDMark02
import Derived.Test.YtlnegnikedinaaaLwItEq2
import Derived.Test.YtlnegnikedinaaaLwPgMk
namespace Go.Proofs.Ytlnegnikedinaaa.Sg
open Go.ChangeShapes Go.WideShapes Go.ChangeAt Go.RowKit

/-- A page whose lists are of a size that is met. -/
def PgSize (p : PgB) : Prop := p.its.length ≤ 1099511627776 ∧ (∀ t ∈ p.its, t.ats.length ≤ 1099511627776 ∧ t.kids.length ≤ 1099511627776) ∧ p.opn.length ≤ 1099511627776 ∧ p.fms.length ≤ 1099511627776

set_option maxRecDepth 20000 in
set_option maxHeartbeats 8000000 in
theorem eqPage_same (p : PgB) (u v : Value) (w : World) (hu : PgAt w u p) (hv : PgAt w v p) (hs : PgSize p) :
    Calls Try.prog 9 #[u, v] w fun e w' => e = .returned (.bool true) ∧ Below w.heap.size w w' := by
  obtain ⟨ia, ic, oa, oc, fa, fc, rfl, ⟨hI, hi1⟩, ⟨hO, ho1⟩, ⟨hF, hf1⟩⟩ := hu
  obtain ⟨ja, jc, pa, pc, ga, gc, rfl, ⟨hJ, hj1⟩, ⟨hP, hp1⟩, ⟨hG, hg1⟩⟩ := hv
  obtain ⟨its, opn, fms, hd, bd⟩ := p
  obtain ⟨h1, h2, h3, h4⟩ := hs
  simp only at *
  have CI : Hid (∀ W, Below w.heap.size w W → Calls Try.prog 23 #[.slice ia its.length ic, .slice ja its.length jc] W fun e w' => e = .returned (.bool true) ∧ Below W.heap.size W w') := fun W hW => eqItemS_same its ia ja its.length ic jc W (hI.keep hW) (hJ.keep hW) rfl (by omega) (fun t ht => ⟨Nat.le_trans (h2 t ht).1 (by decide), Nat.le_trans (h2 t ht).2 (by decide)⟩)
  have CO : Hid (∀ W, Below w.heap.size w W → Calls Try.prog 27 #[.slice oa opn.length oc, .slice pa opn.length pc] W fun e w' => e = .returned (.bool true) ∧ Below W.heap.size W w') := fun W hW => eqIntS_same opn oa pa oc pc W (hO.below (Nat.le_refl _) hW) (hP.below (Nat.le_refl _) hW) (by omega)
  have CF : Hid (∀ W, Below w.heap.size w W → Calls Try.prog 27 #[.slice fa fms.length fc, .slice ga fms.length gc] W fun e w' => e = .returned (.bool true) ∧ Below W.heap.size W w') := fun W hW => eqIntS_same fms fa ga fc gc W (hF.below (Nat.le_refl _) hW) (hG.below (Nat.le_refl _) hW) (by omega)
  clear hI hi1 hO ho1 hF hf1 hJ hj1 hP hp1 hG hg1 h1 h2 h3 h4
  generalize its.length = n at *
  generalize opn.length = m at *
  generalize fms.length = k at *
  have gh : (hd != hd) = false := by simp
  have gb : (bd != bd) = false := by simp
  have e1 : ∀ o, (w.alloc o).heap.size = w.heap.size + 1 := by simp
  go_enter Try.func9, Try.ntmps9
  go_wp2_with fail
  refine (CI.out _ ?_).mono ?_
  · exact ((Below.refl _ _).alloc (Nat.le_refl _) _).alloc (by simp) _
  rintro e w1 ⟨rfl, b1⟩
  have F0 : Many 5 w1 w.heap.size (fun i => [Value.slice ia n ic, .slice oa m oc, .slice fa k fc, .int .i64 hd, .int .i64 bd].getD i undef) :=
    (((Many.new w [.slice ia n ic, .slice oa m oc, .slice fa k fc, .int .i64 hd, .int .i64 bd] 25 undef).below (B := w.heap.size + 1) (Nat.lt_succ_self _) ((Below.refl _ _).alloc (by simp) _)).below (by simp; omega) b1)
  have F1 : Many 5 w1 (w.heap.size + 1) (fun i => [Value.slice ja n jc, .slice pa m pc, .slice ga k gc, .int .i64 hd, .int .i64 bd].getD i undef) := by
    have h := Many.new (w.alloc (.cells #[.slice ia n ic, .slice oa m oc, .slice fa k fc, .int .i64 hd, .int .i64 bd] 25)) [.slice ja n jc, .slice pa m pc, .slice ga k gc, .int .i64 hd, .int .i64 bd] 25 undef
    rw [e1] at h
    exact h.below (by simp) b1
  have HB : Hid (Below w.heap.size w w1) := (((Below.refl _ _).alloc (Nat.le_refl _) _).alloc (by simp) _).trans (b1.mono (by simp; omega))
  clear b1 CI e1
  have f1 := (F0.2 1 (by omega)).1
  have k1 := (F1.2 1 (by omega)).1
  simp only [List.getD_cons_zero, List.getD_cons_succ] at f1 k1
  have HF0 : Hid (Many 5 w1 w.heap.size _) := F0
  have HF1 : Hid (Many 5 w1 (w.heap.size + 1) _) := F1
  clear F0 F1
  go_wp2_with fail
  refine (CO.out _ HB.out).mono ?_
  rintro e w2 ⟨rfl, b2⟩
  clear f1 k1 CO
  have G0 := HF0.out.below HF0.out.1 b2
  have G1 := HF1.out.below HF1.out.1 b2
  have HB2 : Hid (Below w.heap.size w w2) := HB.out.trans (b2.mono HB.out.size)
  clear HF0 HF1 HB b2
  have f2 := (G0.2 2 (by omega)).1
  have k2 := (G1.2 2 (by omega)).1
  simp only [List.getD_cons_zero, List.getD_cons_succ] at f2 k2
  have HF0 : Hid (Many 5 w2 w.heap.size _) := G0
  have HF1 : Hid (Many 5 w2 (w.heap.size + 1) _) := G1
  clear G0 G1
  go_wp2_with fail
  refine (CF.out _ HB2.out).mono ?_
  rintro e w3 ⟨rfl, b3⟩
  clear f2 k2 CF
  have G0 := HF0.out.below HF0.out.1 b3
  have G1 := HF1.out.below HF1.out.1 b3
  have HB3 : Hid (Below w.heap.size w w3) := HB2.out.trans (b3.mono HB2.out.size)
  clear HF0 HF1 HB2 b3
  have f3 := (G0.2 3 (by omega)).1
  have k3 := (G1.2 3 (by omega)).1
  have f4 := (G0.2 4 (by omega)).1
  have k4 := (G1.2 4 (by omega)).1
  simp only [List.getD_cons_zero, List.getD_cons_succ] at f3 k3 f4 k4
  clear G0 G1
  go_wp2_with fail
  go_ret
  exact ⟨rfl, HB3.out⟩

end Go.Proofs.Ytlnegnikedinaaa.Sg

namespace Go.Proofs.Ytlnegnikedinaaa.Sg
open Go.ChangeShapes Go.WideShapes Go.ChangeAt Go.RowKit

/-- A page of a size that can be marked. -/
def PgLight (p : PgB) : Prop := p.its.length ≤ 1048576 ∧ markIs p.its ≤ 549755813888 ∧ (∀ t ∈ p.its, t.ats.length ≤ 1048576 ∧ t.kids.length ≤ 1048576) ∧ p.opn.length ≤ 1048576 ∧ p.fms.length ≤ 1048576

set_option maxRecDepth 20000 in
set_option maxHeartbeats 8000000 in
theorem heldPage_any (p : PgB) (v : Value) (k : Nat) (w : World) (hv : PgAt w v (markPg k p)) (hk : k ≤ 1048576) (hs : PgLight p) :
    Calls Try.prog 11 #[v, .int .i64 (k : Int)] w fun e w' => e = .returned (.int .i64 ((k + markPn p : Nat) : Int)) ∧ Below w.heap.size w w' := by
  obtain ⟨ia, ic, oa, oc, fa, fc, rfl, ⟨hI, _⟩, ⟨hO, _⟩, ⟨hF, _⟩⟩ := hv
  obtain ⟨its, opn, fms, hd, bd⟩ := p
  obtain ⟨s1, s2, s3, s4, s5⟩ := hs
  simp only [markPg] at *
  rw [markIts_length, cntL_length, cntL_length] at *
  have HP : Hid (markPn ⟨its, opn, fms, hd, bd⟩ = markIs its + opn.length + fms.length) := rfl
  rw [HP.out]
  obtain ⟨k1, Hk1⟩ : ∃ k1, Hid (k + markIs its = k1) := ⟨_, rfl⟩
  obtain ⟨k2, Hk2⟩ : ∃ k2, Hid (k1 + opn.length = k2) := ⟨_, rfl⟩
  rw [Hk1.out] at hO hF
  rw [Hk2.out] at hF
  have hk1 : k1 ≤ 549756862464 := by have := Hk1.out; omega
  have hk2 : k2 ≤ 549757911040 := by have := Hk2.out; omega
  have CI : Hid (∀ W, Below w.heap.size w W → Calls Try.prog 29 #[.slice ia its.length ic, .int .i64 (k : Int)] W fun e w' => e = .returned (.int .i64 (k1 : Int)) ∧ Below W.heap.size W w') := fun W hW => by
    have h := heldItemS_any its k ia its.length ic W (hI.keep hW) rfl hk s2 s3 s1
    rw [Hk1.out] at h
    exact h
  have CO : Hid (∀ W, Below w.heap.size w W → Calls Try.prog 30 #[.slice oa opn.length oc, .int .i64 (k1 : Int)] W fun e w' => e = .returned (.int .i64 (k2 : Int)) ∧ w' = W) := fun W hW => by
    have h := heldIntS_cnt opn.length k1 oa oc W (hO.below (Nat.le_refl _) hW) (by omega) (by omega)
    rw [Hk2.out] at h
    exact h
  have CF : Hid (∀ W, Below w.heap.size w W → Calls Try.prog 30 #[.slice fa fms.length fc, .int .i64 (k2 : Int)] W fun e w' => e = .returned (.int .i64 ((k2 + fms.length : Nat) : Int)) ∧ w' = W) := fun W hW => heldIntS_cnt fms.length k2 fa fc W (hF.below (Nat.le_refl _) hW) (by omega) (by omega)
  have Hend : Hid (k2 + fms.length = k + (markIs its + opn.length + fms.length)) := by show _ = _; rw [← Hk2.out, ← Hk1.out]; omega
  rw [Hend.out] at CF
  have gz1 : ¬ (k1 : Int) < 0 := by omega
  have gz1' : decide ((k1 : Int) < 0) = false := decide_eq_false gz1
  have gz2 : ¬ (k2 : Int) < 0 := by omega
  have gz2' : decide ((k2 : Int) < 0) = false := decide_eq_false gz2
  have gz3 : ¬ ((k + (markIs its + opn.length + fms.length) : Nat) : Int) < 0 := by omega
  have gz3' : decide (((k + (markIs its + opn.length + fms.length) : Nat) : Int) < 0) = false := decide_eq_false gz3
  clear hI hO hF s1 s2 s3 s4 s5 HP Hk1 Hk2 Hend hk
  generalize k + (markIs its + opn.length + fms.length) = k3 at *
  generalize its.length = n at *
  generalize opn.length = m at *
  generalize fms.length = c at *
  go_enter Try.func11, Try.ntmps11
  go_wp2_with fail
  refine (CI.out _ ((Below.refl _ _).alloc (Nat.le_refl _) _)).mono ?_
  rintro e w1 ⟨rfl, b1⟩
  have F1 : Many 5 w1 w.heap.size (fun i => [Value.slice ia n ic, .slice oa m oc, .slice fa c fc, .int .i64 hd, .int .i64 bd].getD i undef) :=
    (Many.new w [.slice ia n ic, .slice oa m oc, .slice fa c fc, .int .i64 hd, .int .i64 bd] 25 undef).below (by simp) b1
  have HB1 : Hid (Below w.heap.size w w1) := ((Below.refl _ _).alloc (Nat.le_refl _) _).trans (b1.mono (by simp))
  have c1 := (F1.2 1 (by omega)).1
  have c2 := (F1.2 2 (by omega)).1
  simp only [List.getD_cons_zero, List.getD_cons_succ] at c1 c2
  clear b1 CI F1
  go_wp2_with fail
  refine (CO.out _ HB1.out).mono ?_
  rintro e w2 ⟨rfl, rfl⟩
  clear CO
  go_wp2_with fail
  refine (CF.out _ HB1.out).mono ?_
  rintro e w3 ⟨rfl, rfl⟩
  clear CF
  go_wp2_with fail
  go_ret
  exact ⟨rfl, HB1.out⟩

end Go.Proofs.Ytlnegnikedinaaa.Sg

namespace Go.Proofs.Ytlnegnikedinaaa.Sg
open Go.ChangeShapes Go.WideShapes Go.ChangeAt Go.RowKit

theorem ret_k {a b : Bool} (h : a = b) : Ending.returned (.bool a) = .returned (.bool b) := by rw [h]

set_option maxHeartbeats 1000000 in
theorem specIs (s : ByteArray) (b n cap : Nat) (ls : List (List UInt8)) (w : World) (h : Texts w b ls) (hn : ls.length = n) (hm : n ≤ 1000) :
    Calls Try.prog 40 #[.string s, .slice (some ⟨b, 0, none⟩) n cap] w fun e w' => e = .returned (.bool (isIn s ls)) ∧ w' = w := by
  have HT : Hid (Texts w b ls) := h
  have Hn : Hid (ls.length = n) := hn
  have HR : Hid (isIn s ls = isIn s (ls.drop 0)) := rfl
  generalize isIn s ls = R at *
  clear h hn
  go_enter Try.func40, Try.ntmps40
  go_wp2
  go_loopw [5] (fun kv wr => ∃ k : Nat, k ≤ n ∧ kv = .int .i64 k ∧ Hid (R = isIn s (ls.drop k)) ∧ wr = w) (fun kv _ => n - (intOf kv).toNat)
  case atStart => exact ⟨0, Nat.zero_le _, rfl, HR, rfl⟩
  case round =>
    clear HR
    obtain ⟨k, hk, rfl, HR, rfl⟩ := hrel
    by_cases hlt : k < n
    · have hkl : k < ls.length := by rw [Hn.out]; exact hlt
      have c0 := HT.out.2 k hkl
      have hd := HR.out.trans (isIn_drop hkl)
      have g1 : (k : Int) < (n : Int) := by omega
      have g0 : (0 : Int) ≤ (k : Int) := by omega
      by_cases he : ls.getD k [] = s.data.toList
      · have g2 := str_eq he
        have Hd : Hid (R = true) := by show _ = _; rw [hd, he]; simp
        clear HR hd he
        generalize strB (ls.getD k []) = y at *
        go_wp2_with fail
        go_ret
        exact ⟨ret_k Hd.out.symm, rfl⟩
      · have g2 := str_ne he
        have Hd : Hid (R = isIn s (ls.drop (k + 1))) := by show _ = _; rw [hd, beq_false_of_ne he]; rfl
        clear HR hd he
        generalize strB (ls.getD k []) = y at *
        go_wp2_with fail
        go_roundw
        case rel => exact ⟨k + 1, by omega, by go_num, Hd, by first | trivial | rfl⟩
        case measure => simp [intOf]; omega
    · have g1 : decide ((k : Int) < (n : Int)) = false := decide_eq_false (by omega)
      have Hd : Hid (R = false) := HR.out.trans (isIn_end (by rw [Hn.out]; omega))
      clear HR
      go_wp2_with fail
      go_ret
      exact ⟨ret_k Hd.out.symm, rfl⟩

end Go.Proofs.Ytlnegnikedinaaa.Sg
