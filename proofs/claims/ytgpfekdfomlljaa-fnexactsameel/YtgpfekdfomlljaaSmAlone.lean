/- Contracts of the program's sameAlone, and of slices.EqualFunc with it. -/
import Derived.Test.YtgpfekdfomlljaaSmAttrs
import Derived.Test.YtgpfekdfomlljaaSmP
namespace Go.Proofs.Ytgpfekdfomlljaa.Sg
open Go.ChangeShapes Go.WideShapes Go.ChangeAt Go.RowKit Go.Shelf

set_option maxRecDepth 20000 in
set_option maxHeartbeats 8000000 in
theorem implAlone (e f : ElB) (lo1 lo2 : Nat) (v1 v2 : Value) (w : World) (h1 : ElV (QA lo1) (lo1 ≤ ·) w v1 e) (h2 : ElV (QA lo2) (lo2 ≤ ·) w v2 f) (hl1 : ElLight e) (hl2 : ElLight f) :
    Calls Try.prog 25 #[v1, v2] w fun r w' => r = .returned (.bool (aloneE e f)) ∧ Below w.heap.size w w' := by
  obtain ⟨k1, s1, n1, a1, t1, ks1⟩ := e
  obtain ⟨k2, s2, n2, a2, t2, ks2⟩ := f
  obtain ⟨av1, p1, r1, rfl, ⟨ab, ac, rfl, _, _, A1, _⟩, _⟩ := h1
  obtain ⟨av2, p2, r2, rfl, ⟨bb, bc, rfl, _, _, A2, _⟩, _⟩ := h2
  unfold ElLight at hl1 hl2
  have hn1 := hl1.1
  have hn2 := hl2.1
  clear hl1 hl2
  have HS : Hid (∀ W, Below w.heap.size w W → Calls Try.prog 30 #[.slice ab a1.length ac, .slice bb a2.length bc] W fun r w' => r = .returned (.bool (sameA a1 a2)) ∧ Below W.heap.size W w') := fun W hW => implAttrsEq a1 a2 ab bb _ _ ac bc W (A1.below hW) (A2.below hW) rfl rfl hn1 hn2
  obtain ⟨R, HR⟩ : ∃ R, Hid (aloneE (.mk k1 s1 n1 a1 t1 ks1) (.mk k2 s2 n2 a2 t2 ks2) = R) := ⟨_, rfl⟩
  have Hd : Hid (R = (decide (k1 = k2) && (decide (s1 = s2) && ((n1.toList == n2.toList) && ((t1.toList == t2.toList) && sameA a1 a2))))) := HR.out.symm
  rw [HR.out]
  clear A1 A2 HR
  have B2 : Hid (Below w.heap.size w ((w.alloc (.cells #[.int .i64 k1, .int .i64 s1, .string n1, .slice ab a1.length ac, .string t1, .slice p1 ks1.length r1] 31)).alloc (.cells #[.int .i64 k2, .int .i64 s2, .string n2, .slice bb a2.length bc, .string t2, .slice p2 ks2.length r2] 31))) := ((Below.refl w.heap.size w).alloc (Nat.le_refl _) _).alloc (by simp) _
  by_cases c1 : k1 = k2
  rotate_left
  · have g1 : (k1 == k2) = false := beq_false_of_ne c1
    have Hf : Hid (R = false) := by show _ = _; rw [Hd.out, decide_eq_false c1]; simp
    clear Hd HS
    go_enter Try.func25, Try.ntmps25
    go_wp2_with fail
    go_ret
    exact ⟨ret_bo Hf.out.symm, B2.out⟩
  subst c1
  by_cases c2 : s1 = s2
  rotate_left
  · have g2 : (s1 == s2) = false := beq_false_of_ne c2
    have Hf : Hid (R = false) := by show _ = _; rw [Hd.out, decide_eq_false c2]; simp
    clear Hd HS
    go_enter Try.func25, Try.ntmps25
    go_wp2_with fail
    go_ret
    exact ⟨ret_bo Hf.out.symm, B2.out⟩
  subst c2
  cases g3 : (n1.toList == n2.toList)
  · have Hf : Hid (R = false) := by show _ = _; rw [Hd.out, g3]; simp
    clear Hd HS
    go_enter Try.func25, Try.ntmps25
    go_wp2_with fail
    go_ret
    exact ⟨ret_bo Hf.out.symm, B2.out⟩
  cases g4 : (t1.toList == t2.toList)
  · have Hf : Hid (R = false) := by show _ = _; rw [Hd.out, g4]; simp
    clear Hd HS
    go_enter Try.func25, Try.ntmps25
    go_wp2_with fail
    go_ret
    exact ⟨ret_bo Hf.out.symm, B2.out⟩
  have Hd2 : Hid (R = sameA a1 a2) := by show _ = _; rw [Hd.out, g3, g4]; simp
  have HS1 := HS.out _ B2.out
  clear Hd HS
  generalize sameA a1 a2 = V at *
  go_enter Try.func25, Try.ntmps25
  go_wp2_with fail
  refine HS1.mono ?_
  rintro e w1 ⟨rfl, b1⟩
  have Hb : Hid (Below w.heap.size w w1) := B2.out.trans (b1.mono B2.out.size)
  clear HS1 b1 B2
  go_wp2_with fail
  go_ret
  exact ⟨ret_bo Hd2.out.symm, Hb.out⟩

set_option maxRecDepth 20000 in
set_option maxHeartbeats 8000000 in
theorem implEqualFunc (ks1 ks2 : List ElB) (lo1 lo2 : Nat) (p1 p2 : Option Addr) (n m r1 r2 : Nat) (w : World) (hn : ks1.length = n) (hm : ks2.length = m) (K1 : KidsIn (QA lo1) (lo1 ≤ ·) w p1 ks1) (K2 : KidsIn (QA lo2) (lo2 ≤ ·) w p2 ks2) (hl1 : ElsLight ks1) (hl2 : ElsLight ks2) (hb1 : n ≤ 1099511627776) (hb2 : m ≤ 1099511627776) :
    Calls Try.prog 24 #[.slice p1 n r1, .slice p2 m r2, .func (.func 25) #[] #[]] w fun r w' => r = .returned (.bool (decide (n = m) && aloneEs ks1 ks2)) ∧ Below w.heap.size w w' := by
  have eg := enters_of Try.func25 (by kernel_rfl) rfl
  by_cases hnm : n = m
  rotate_left
  · have Hf : Hid ((decide (n = m) && aloneEs ks1 ks2) = false) := by show _ = _; rw [decide_eq_false hnm]; rfl
    have g1 : ((n : Int) != (m : Int)) = true := by simp; omega
    clear K1 K2 hl1 hl2
    go_enter Try.func24, Try.ntmps24
    go_wp2_with fail
    go_ret
    exact ⟨ret_bo Hf.out.symm, Below.refl _ _⟩
  subst hnm
  have HK1 : Hid (KidsIn (QA lo1) (lo1 ≤ ·) w p1 ks1) := K1
  have HK2 : Hid (KidsIn (QA lo2) (lo2 ≤ ·) w p2 ks2) := K2
  have HL1 : Hid (ElsLight ks1) := hl1
  have HL2 : Hid (ElsLight ks2) := hl2
  have Hn : Hid (ks1.length = n) := hn
  have Hm : Hid (ks2.length = n) := hm
  obtain ⟨R, HR⟩ : ∃ R, Hid ((decide (n = n) && aloneEs ks1 ks2) = R) := ⟨_, rfl⟩
  have HR0 : Hid (R = aloneEs (ks1.drop 0) (ks2.drop 0)) := by show _ = _; rw [← HR.out, decide_eq_true rfl]; rfl
  rw [HR.out]
  clear K1 K2 hl1 hl2 hn hm HR
  go_enter Try.func24, Try.ntmps24
  go_wp2_with fail
  go_loopw [7, 8, 9, 17] (fun _ _ _ iv wr => ∃ k : Nat, k ≤ n ∧ iv = .int .i64 k ∧ Hid (R = aloneEs (ks1.drop k) (ks2.drop k)) ∧ Hid (Below w.heap.size w wr)) (fun _ _ _ iv _ => n - (intOf iv).toNat)
  case atStart => exact ⟨0, Nat.zero_le _, rfl, HR0, Below.refl _ _⟩
  case round =>
    clear HR0
    obtain ⟨k, hkn, rfl, HR, HB⟩ := hrel
    have k0 : (0 : Int) ≤ (k : Int) := by omega
    by_cases h1 : k < n
    · have k1 : (k : Int) < (n : Int) := by omega
      have hx1 : k < ks1.length := by rw [Hn.out]; exact h1
      have hy1 : k < ks2.length := by rw [Hm.out]; exact h1
      rcases HK1.out.keep (QA.lies _) HB.out with h | ⟨b1, o1, rfl, _, hc1⟩
      · omega
      rcases HK2.out.keep (QA.lies _) HB.out with h | ⟨b2, o2, rfl, _, hc2⟩
      · omega
      obtain ⟨kd1, sp1, nm1, xa1, xn1, xc1, tx1, qa1, qn1, qc1, c0, c1, c2, c3, c4, c5, _, hV1⟩ := (hc1.get k hx1).parts
      obtain ⟨kd2, sp2, nm2, xa2, xn2, xc2, tx2, qa2, qn2, qc2, d0, d1, d2, d3, d4, d5, _, hV2⟩ := (hc2.get k hy1).parts
      have bl2 : b2 < wr.heap.size := block_lt_of_cell d0
      have hbk : Below wr.heap.size wr (wr.alloc (.cells #[.int .i64 kd1, .int .i64 sp1, .string nm1, .slice xa1 xn1 xc1, .string tx1, .slice qa1 qn1 qc1] 31)) := (Below.refl wr.heap.size wr).alloc (Nat.le_refl _) _
      have hbk2 : Below wr.heap.size wr ((wr.alloc (.cells #[.int .i64 kd1, .int .i64 sp1, .string nm1, .slice xa1 xn1 xc1, .string tx1, .slice qa1 qn1 qc1] 31)).alloc (.cells #[.int .i64 kd2, .int .i64 sp2, .string nm2, .slice xa2 xn2 xc2, .string tx2, .slice qa2 qn2 qc2] 31)) := hbk.alloc hbk.size _
      have Hs := implAlone _ _ lo1 lo2 _ _ _ (hV1.keep (QA.lies _) hbk2) (hV2.keep (QA.lies _) hbk2) (HL1.out.get _ (List.getElem_mem hx1)) (HL2.out.get _ (List.getElem_mem hy1))
      have HB2 : Hid (Below w.heap.size w ((wr.alloc (.cells #[.int .i64 kd1, .int .i64 sp1, .string nm1, .slice xa1 xn1 xc1, .string tx1, .slice qa1 qn1 qc1] 31)).alloc (.cells #[.int .i64 kd2, .int .i64 sp2, .string nm2, .slice xa2 xn2 xc2, .string tx2, .slice qa2 qn2 qc2] 31))) := HB.out.trans (hbk2.mono HB.out.size)
      have f0 := (hbk.cell (p := ⟨b2, o2 + k * 6, none⟩) bl2).trans d0
      have f1 := (hbk.cell (p := ⟨b2, o2 + k * 6 + 1, none⟩) bl2).trans d1
      have f2 := (hbk.cell (p := ⟨b2, o2 + k * 6 + 2, none⟩) bl2).trans d2
      have f3 := (hbk.cell (p := ⟨b2, o2 + k * 6 + 3, none⟩) bl2).trans d3
      have f4 := (hbk.cell (p := ⟨b2, o2 + k * 6 + 4, none⟩) bl2).trans d4
      have f5 := (hbk.cell (p := ⟨b2, o2 + k * 6 + 5, none⟩) bl2).trans d5
      have hst := HR.out
      rw [aloneEs_drop ks1 ks2 k hx1 hy1] at hst
      generalize aloneE (ks1[k]'hx1) (ks2[k]'hy1) = v at *
      clear hc1 hc2 hV1 hV2 hbk hbk2 HB HR d0 d1 d2 d3 d4 d5
      cases v
      · have Hf : Hid (R = false) := hst
        clear hst
        go_wp2_with fail
        refine Hs.mono ?_
        rintro e w1 ⟨rfl, b1⟩
        have Hb : Hid (Below w.heap.size w w1) := HB2.out.trans (b1.mono HB2.out.size)
        clear b1 HB2 Hs
        go_wp2_with fail
        go_ret
        exact ⟨ret_bo Hf.out.symm, Hb.out⟩
      · have HR2 : Hid (R = aloneEs (ks1.drop (k + 1)) (ks2.drop (k + 1))) := hst
        clear hst
        go_wp2_with fail
        refine Hs.mono ?_
        rintro e w1 ⟨rfl, b1⟩
        have Hb : Hid (Below w.heap.size w w1) := HB2.out.trans (b1.mono HB2.out.size)
        clear b1 HB2 Hs
        go_wp2_with fail
        go_roundw
        case rel => exact ⟨k + 1, by omega, by go_num, HR2, Hb⟩
        case measure => simp [intOf]; omega
    · have hk : k = n := by omega
      subst hk
      have g1 : decide ((k : Int) < (k : Int)) = false := by simp
      have Hv : Hid (R = true) := by
        show _ = _
        rw [HR.out, List.drop_eq_nil_of_le (by rw [Hn.out]; exact Nat.le_refl _)]
        rfl
      clear HR
      go_wp2_with fail
      go_ret
      exact ⟨ret_bo Hv.out.symm, HB.out⟩


end Go.Proofs.Ytgpfekdfomlljaa.Sg
