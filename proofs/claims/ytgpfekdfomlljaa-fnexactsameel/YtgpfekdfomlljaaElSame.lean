/- Contract of the model's SameEl. Written by mk_elsame.py. -/
import Derived.Test.YtgpfekdfomlljaaElSpec
import Derived.Test.YtgpfekdfomlljaaAtSame
import Derived.Lib.QuietBelow
import Derived.Deep.Cut
import Derived.Deep.CutRange
namespace Go.Proofs.Ytgpfekdfomlljaa.Sg
open Go.ChangeShapes Go.WideShapes Go.ChangeAt Go.RowKit

mutual
/-- Two elements are alike. -/
def sameE : ElB → ElB → Bool
  | .mk k1 s1 n1 a1 t1 ks1, .mk k2 s2 n2 a2 t2 ks2 => decide (k1 = k2) && (decide (s1 = s2) && ((n1.toList == n2.toList) && ((t1.toList == t2.toList) && (decide (ks1.length = ks2.length) && (sameA a1 a2 && sameEs ks1 ks2)))))
def sameEs : List ElB → List ElB → Bool
  | [], _ => true
  | _ :: _, [] => false
  | e :: es, f :: fs => sameE e f && sameEs es fs
end
theorem sameEs_drop : ∀ (es fs : List ElB) (k : Nat) (h1 : k < es.length) (h2 : k < fs.length), sameEs (es.drop k) (fs.drop k) = (sameE (es[k]'h1) (fs[k]'h2) && sameEs (es.drop (k + 1)) (fs.drop (k + 1)))
  | [], _, k, h, _ => absurd h (by simp)
  | _ :: _, [], k, _, h => absurd h (by simp)
  | e :: es, f :: fs, 0, _, _ => by simp [sameEs]
  | e :: es, f :: fs, k + 1, h1, h2 => by
    have := sameEs_drop es fs k (by simpa using h1) (by simpa using h2)
    simpa using this
theorem ret_same {a b : Bool} (h : a = b) : Ending.returned (.bool a) = .returned (.bool b) := by rw [h]
def SpSame (e : ElB) : Prop := ∀ (f : ElB) (lo1 lo2 : Nat) (v1 v2 : Value) (w : World), ElV (QA lo1) (lo1 ≤ ·) w v1 e → ElV (QA lo2) (lo2 ≤ ·) w v2 f → ElLight e → ElLight f → Calls Try.prog 13 #[v1, v2] w fun r w' => r = .returned (.bool (sameE e f)) ∧ Below w.heap.size w w'

set_option maxRecDepth 20000 in
set_option maxHeartbeats 8000000 in
theorem sameEl_of (k1 s1 : Int) (n1 : ByteArray) (a1 : List AttrB) (t1 : ByteArray) (ks1 : List ElB) (hA : ∀ e ∈ ks1, SpSame e) : SpSame (.mk k1 s1 n1 a1 t1 ks1) := by
  intro f lo1 lo2 v1 v2 w h1 h2 hl1 hl2
  obtain ⟨k2, s2, n2, a2, t2, ks2⟩ := f
  obtain ⟨av1, p1, r1, rfl, ⟨ab, ac, rfl, _, _, A1, _⟩, K1⟩ := h1
  obtain ⟨av2, p2, r2, rfl, ⟨bb, bc, rfl, _, _, A2, _⟩, K2⟩ := h2
  unfold ElLight at hl1 hl2
  obtain ⟨hn1, hk1, hkl1⟩ := hl1
  obtain ⟨hn2, hk2, hkl2⟩ := hl2
  have HK1 : Hid (KidsIn (QA lo1) (lo1 ≤ ·) w p1 ks1) := K1
  have HK2 : Hid (KidsIn (QA lo2) (lo2 ≤ ·) w p2 ks2) := K2
  have HL1 : Hid (ElsLight ks1) := hkl1
  have HL2 : Hid (ElsLight ks2) := hkl2
  have HA : Hid (∀ e ∈ ks1, SpSame e) := hA
  have HS : Hid (∀ W, Below w.heap.size w W → Calls Try.prog 23 #[.slice ab a1.length ac, .slice bb a2.length bc] W fun r w' => r = .returned (.bool (sameA a1 a2)) ∧ Below W.heap.size W w') := fun W hW => specAttrsSame a1 a2 _ _ a1.length a2.length ac bc W (A1.below hW) (A2.below hW) rfl rfl hn1 hn2
  have Hd : Hid (sameE (.mk k1 s1 n1 a1 t1 ks1) (.mk k2 s2 n2 a2 t2 ks2) = (decide (k1 = k2) && (decide (s1 = s2) && ((n1.toList == n2.toList) && ((t1.toList == t2.toList) && (decide (ks1.length = ks2.length) && (sameA a1 a2 && sameEs ks1 ks2))))))) := by show _ = _; rw [sameE]
  obtain ⟨R, HR⟩ : ∃ R, Hid (sameE (.mk k1 s1 n1 a1 t1 ks1) (.mk k2 s2 n2 a2 t2 ks2) = R) := ⟨_, rfl⟩
  rw [HR.out] at Hd ⊢
  clear A1 A2 K1 K2 hA hkl1 hkl2 HR
  have B2 : Hid (Below w.heap.size w ((w.alloc (.cells #[.int .i64 k1, .int .i64 s1, .string n1, .slice ab a1.length ac, .string t1, .slice p1 ks1.length r1] 31)).alloc (.cells #[.int .i64 k2, .int .i64 s2, .string n2, .slice bb a2.length bc, .string t2, .slice p2 ks2.length r2] 31))) := ((Below.refl _ _).alloc (Nat.le_refl _) _).alloc (by simp) _
  have e1 : (w.alloc (.cells #[.int .i64 k1, .int .i64 s1, .string n1, .slice ab a1.length ac, .string t1, .slice p1 ks1.length r1] 31)).heap.size = w.heap.size + 1 := by simp
  have e2 : ((w.alloc (.cells #[.int .i64 k1, .int .i64 s1, .string n1, .slice ab a1.length ac, .string t1, .slice p1 ks1.length r1] 31)).alloc (.cells #[.int .i64 k2, .int .i64 s2, .string n2, .slice bb a2.length bc, .string t2, .slice p2 ks2.length r2] 31)).heap.size = w.heap.size + 1 + 1 := by simp
  by_cases c1 : k1 = k2
  rotate_left
  · have g1 : (k1 != k2) = true := by simpa using c1
    have Hf : Hid (R = false) := by show _ = _; rw [Hd.out, decide_eq_false c1]; simp
    clear Hd HS HA HK1 HK2
    go_enter Try.func13, Try.ntmps13
    go_wp2_with fail
    go_ret
    exact ⟨ret_same Hf.out.symm, B2.out⟩
  have g1 : (k1 != k2) = false := by simpa using c1
  have d1 : decide (k1 = k2) = true := decide_eq_true c1
  clear c1
  by_cases c2 : s1 = s2
  rotate_left
  · have g2 : (s1 != s2) = true := by simpa using c2
    have Hf : Hid (R = false) := by show _ = _; rw [Hd.out, decide_eq_false c2]; simp
    clear Hd HS HA HK1 HK2
    go_enter Try.func13, Try.ntmps13
    go_wp2_with fail
    go_ret
    exact ⟨ret_same Hf.out.symm, B2.out⟩
  have g2 : (s1 != s2) = false := by simpa using c2
  have d2 : decide (s1 = s2) = true := decide_eq_true c2
  clear c2
  cases g3 : (n1.toList == n2.toList)
  · have Hf : Hid (R = false) := by show _ = _; rw [Hd.out, g3]; simp
    clear Hd HS HA HK1 HK2
    go_enter Try.func13, Try.ntmps13
    go_wp2_with fail
    go_ret
    exact ⟨ret_same Hf.out.symm, B2.out⟩
  cases g4 : (t1.toList == t2.toList)
  · have Hf : Hid (R = false) := by show _ = _; rw [Hd.out, g4]; simp
    clear Hd HS HA HK1 HK2
    go_enter Try.func13, Try.ntmps13
    go_wp2_with fail
    go_ret
    exact ⟨ret_same Hf.out.symm, B2.out⟩
  by_cases c5 : ks1.length = ks2.length
  rotate_left
  · have g5 : ((ks1.length : Int) != (ks2.length : Int)) = true := by simp; omega
    have Hf : Hid (R = false) := by show _ = _; rw [Hd.out, decide_eq_false c5]; simp
    clear Hd HS HA HK1 HK2
    go_enter Try.func13, Try.ntmps13
    go_wp2_with fail
    go_ret
    exact ⟨ret_same Hf.out.symm, B2.out⟩
  have g5 : ((ks1.length : Int) != (ks2.length : Int)) = false := by simp; omega
  have Hd2 : Hid (R = (sameA a1 a2 && sameEs ks1 ks2)) := by show _ = _; rw [Hd.out, d1, d2, g3, g4, decide_eq_true c5]; rfl
  have Hc5 : Hid (ks1.length = ks2.length) := c5
  clear Hd d1 d2 c5
  go_enter Try.func13, Try.ntmps13
  go_wp2_with fail
  refine (HS.out _ B2.out).mono ?_
  rintro r w1 ⟨rfl, b1⟩
  rw [e2] at b1
  have l1 : w.heap.size < w.heap.size + 1 + 1 := by omega
  have l2 : w.heap.size + 1 < w.heap.size + 1 + 1 := by omega
  have z1 : w1.cell? ⟨w.heap.size, 5, none⟩ = some (.slice p1 ks1.length r1) := (b1.cell l1).trans (by simp)
  have z2 : w1.cell? ⟨w.heap.size + 1, 5, none⟩ = some (.slice p2 ks2.length r2) := (b1.cell l2).trans (by simp)
  have hs1 : w.heap.size + 1 < w1.heap.size := Nat.lt_of_lt_of_le (by rw [e2]; exact l2) b1.size
  have B1 : Hid (Below w.heap.size w w1) := B2.out.trans (b1.mono (by omega))
  clear b1 B2 HS l1 l2 e1 e2
  cases hsa : sameA a1 a2
  · have Hf : Hid (R = false) := by show _ = _; rw [Hd2.out, hsa]; rfl
    clear Hd2 HA HK1 HK2 z1 z2
    go_wp2_with fail
    go_ret
    exact ⟨ret_same Hf.out.symm, B1.out⟩
  have Hd3 : Hid (R = sameEs (ks1.drop 0) (ks2.drop 0)) := by show _ = _; rw [Hd2.out, hsa]; rfl
  clear Hd2 hsa
  clear g1 g2 g3 g4 g5
  go_wp2_with fail
  go_loopw [5] (fun iv wr => ∃ k : Nat, k ≤ ks1.length ∧ iv = .int .i64 (k : Int) ∧ Hid (R = sameEs (ks1.drop k) (ks2.drop k)) ∧ wr.cell? ⟨w.heap.size, 5, none⟩ = some (.slice p1 ks1.length r1) ∧ wr.cell? ⟨w.heap.size + 1, 5, none⟩ = some (.slice p2 ks2.length r2) ∧ w.heap.size + 1 < wr.heap.size ∧ Hid (Below w.heap.size w wr)) (fun iv _ => ks1.length - (intOf iv).toNat)
  case atStart => exact ⟨0, Nat.zero_le _, rfl, Hd3, z1, z2, hs1, B1⟩
  case round =>
    clear Hd3 z1 z2 hs1 B1
    obtain ⟨k, hk, rfl, HRk, z1, z2, hs, HB⟩ := hrel
    by_cases hlt : k < ks1.length
    · have hlt2 : k < ks2.length := by rw [← Hc5.out]; exact hlt
      rcases HK1.out.keep (QA.lies _) HB.out with h | ⟨b1, o1, rfl, _, hc1⟩
      · omega
      rcases HK2.out.keep (QA.lies _) HB.out with h | ⟨b2, o2, rfl, _, hc2⟩
      · omega
      obtain ⟨v0, v1, v2, v3, v4, v5, c0, c1, c2, c3, c4, c5, hV⟩ := (hc1.get k hlt).cells
      obtain ⟨u0, u1, u2, u3, u4, u5, d0, d1, d2, d3, d4, d5, hU⟩ := (hc2.get k hlt2).cells
      have hE := HA.out _ (List.getElem_mem hlt)
      have hx1 := HL1.out.get _ (List.getElem_mem hlt)
      have hx2 := HL2.out.get _ (List.getElem_mem hlt2)
      have Hcall : ∀ W, Below wr.heap.size wr W → Calls Try.prog 13 #[.agg #[v0, v1, v2, v3, v4, v5], .agg #[u0, u1, u2, u3, u4, u5]] W fun r w' => r = .returned (.bool (sameE (ks1[k]'hlt) (ks2[k]'hlt2))) ∧ Below W.heap.size W w' := fun W hW => hE _ lo1 lo2 _ _ W (hV.keep (QA.lies _) hW) (hU.keep (QA.lies _) hW) hx1 hx2
      have hdr := sameEs_drop ks1 ks2 k hlt hlt2
      rw [hdr] at HRk
      generalize sameE (ks1[k]'hlt) (ks2[k]'hlt2) = sb at *
      have Htok : ∀ d os, Calls Try.prog 13 #[.agg #[v0, v1, v2, v3, v4, v5], .agg #[u0, u1, u2, u3, u4, u5]] (Sort.grow (redrawn wr d) os) fun r w'' => r = .returned (.bool sb) ∧ ∃ p : Regrown, w'' = Sort.grow (redrawn wr p.d) p.os := fun d os => Calls.regrown_of (Hcall _ (below_regrown wr d os))
      have k0 : (0 : Int) ≤ (k : Int) := by omega
      have kk1 : (k : Int) < (ks1.length : Int) := by omega
      have kk2 : (k : Int) < (ks2.length : Int) := by omega
      have y1 := cell_regrown z1
      have y2 := cell_regrown z2
      have x0 := cell_regrown c0
      have x1 := cell_regrown c1
      have x2 := cell_regrown c2
      have x3 := cell_regrown c3
      have x4 := cell_regrown c4
      have x5 := cell_regrown c5
      have w0 := cell_regrown d0
      have w1' := cell_regrown d1
      have w2' := cell_regrown d2
      have w3' := cell_regrown d3
      have w4' := cell_regrown d4
      have w5' := cell_regrown d5
      clear c0 c1 c2 c3 c4 c5 d0 d1 d2 d3 d4 d5 hV hU hE hx1 hx2 hc1 hc2 Hcall hdr
      go_upto_region 6 with fail
      refine wp_region_quiet_below (by kernel_rfl) (by kernel_rfl) ?_
      repeat (go_big_quiet_step (first | exact Htok _ _))
      refine wpQuiet_nil ?_
      intro _ hw'
      obtain ⟨⟨dq, osq⟩, hw''⟩ := hw'
      subst hw''
      have bq := below_regrown wr dq osq
      have z1' := y1 dq osq
      have z2' := y2 dq osq
      have hs' : w.heap.size + 1 < (Sort.grow (redrawn wr dq) osq).heap.size := Nat.lt_of_lt_of_le hs bq.size
      have HB' : Hid (Below w.heap.size w (Sort.grow (redrawn wr dq) osq)) := HB.out.trans (bq.mono HB.out.size)
      generalize Sort.grow (redrawn wr dq) osq = W at *
      clear x0 x1 x2 x3 x4 x5 w0 w1' w2' w3' w4' w5' y1 y2 Htok bq z1 z2 HB
      cases sb
      · have Hf : Hid (R = false) := HRk
        clear HRk z1' z2'
        go_wp2_with fail
        go_ret
        exact ⟨ret_same Hf.out.symm, HB'.out⟩
      · have HRk2 : Hid (R = sameEs (ks1.drop (k + 1)) (ks2.drop (k + 1))) := HRk
        clear HRk
        have hk1' : k + 1 ≤ ks1.length := hlt
        go_wp2_with fail
        go_roundw
        case rel => exact ⟨k + 1, hk1', by go_num, HRk2, z1', z2', hs', HB'⟩
        case measure => simp [intOf]; omega
    · have Hf : Hid (R = true) := by
        show _ = _
        rw [HRk.out, List.drop_eq_nil_of_le (by omega)]
        rw [sameEs]
      have g1 : decide ((k : Int) < (ks1.length : Int)) = false := decide_eq_false (by omega)
      clear HRk
      go_wp2_with fail
      go_ret
      exact ⟨ret_same Hf.out.symm, HB.out⟩
mutual
theorem specSameEl : ∀ e : ElB, SpSame e
  | .mk kd sp nm ats tx ks => sameEl_of kd sp nm ats tx ks (specSameEl_all ks)
theorem specSameEl_all : ∀ es : List ElB, ∀ e ∈ es, SpSame e
  | [], _, h => nomatch h
  | x :: xs, e, h => (List.mem_cons.1 h).elim (fun he => he ▸ specSameEl x) (fun hm => specSameEl_all xs e hm)
end

end Go.Proofs.Ytgpfekdfomlljaa.Sg
