/- Contracts of the laws' elements compared: one with itself. -/
import Derived.Test.YtploagieecepfaaElToS
import Derived.Test.YtploagieecepfaaLwEqAttrS
import Derived.Lib.QuietBelow
import Derived.BigQuiet
namespace Go.Proofs.Ytploagieecepfaa.Sg
open Go.ChangeShapes Go.WideShapes Go.ChangeAt Go.RowKit

def EqEl (e : ElB) : Prop := ∀ (lo1 lo2 : Nat) (v1 v2 : Value) (w : World), ElV (QA lo1) (lo1 ≤ ·) w v1 e → ElV (QA lo2) (lo2 ≤ ·) w v2 e → ElLight e → Calls Try.prog 17 #[v1, v2] w fun r w' => r = .returned (.bool true) ∧ Below w.heap.size w w'
def EqElS (es : List ElB) : Prop := ∀ (lo1 lo2 : Nat) (a b : Option Addr) (n ca cb : Nat) (w : World), KidsIn (QA lo1) (lo1 ≤ ·) w a es → KidsIn (QA lo2) (lo2 ≤ ·) w b es → es.length = n → n ≤ 1099511627776 → ElsLight es → Calls Try.prog 9 #[.slice a n ca, .slice b n cb] w fun r w' => r = .returned (.bool true) ∧ Below w.heap.size w w'

set_option maxRecDepth 20000 in
set_option maxHeartbeats 4000000 in
theorem eqEl_of (kd sp : Int) (nm : ByteArray) (ats : List AttrB) (tx : ByteArray) (ks : List ElB) (hB : EqElS ks) : EqEl (.mk kd sp nm ats tx ks) := by
  intro lo1 lo2 v1 v2 w h1 h2 hl
  obtain ⟨av1, p1, r1, rfl, ⟨b1, c1, rfl, _, _, A1, _⟩, K1⟩ := h1
  obtain ⟨av2, p2, r2, rfl, ⟨b2, c2, rfl, _, _, A2, _⟩, K2⟩ := h2
  unfold ElLight at hl
  obtain ⟨hn, hk, hkl⟩ := hl
  have g0 : (kd != kd) = false := by simp
  have g5 : (sp != sp) = false := by simp
  have g1 : (nm.toList == nm.toList) = true := by simp
  have g2 : (tx.toList == tx.toList) = true := by simp
  have HA1 : Hid (AttrsAt w b1 ats) := A1
  have HA2 : Hid (AttrsAt w b2 ats) := A2
  have HK : Hid (∀ W, Below w.heap.size w W → Calls Try.prog 9 #[.slice p1 ks.length r1, .slice p2 ks.length r2] W fun r w' => r = .returned (.bool true) ∧ Below W.heap.size W w') := fun W hW => hB lo1 lo2 p1 p2 ks.length r1 r2 W (K1.keep (QA.lies _) hW) (K2.keep (QA.lies _) hW) rfl hk hkl
  clear A1 A2 K1 K2 hB hkl
  obtain ⟨X1, hX1⟩ : ∃ X : Obj, X = .cells #[.int .i64 kd, .int .i64 sp, .string nm, .slice b1 ats.length c1, .string tx, .slice p1 ks.length r1] 35 := ⟨_, rfl⟩
  obtain ⟨X2, hX2⟩ : ∃ X : Obj, X = .cells #[.int .i64 kd, .int .i64 sp, .string nm, .slice b2 ats.length c2, .string tx, .slice p2 ks.length r2] 35 := ⟨_, rfl⟩
  have bb : Below w.heap.size w ((w.alloc X1).alloc X2) := ((Below.refl _ _).alloc (Nat.le_refl _) _).alloc (by simp) _
  have hz : ((w.alloc X1).alloc X2).heap.size = w.heap.size + 1 + 1 := by simp
  subst hX1 hX2
  go_enter Try.func17, Try.ntmps17
  go_wp2_with fail
  refine (eqAttrS_same ats _ _ ats.length c1 c2 _ (HA1.out.below bb) (HA2.out.below bb) rfl (by omega)).mono ?_
  rintro e w1 ⟨rfl, b1'⟩
  rw [hz] at b1'
  have l1 : w.heap.size < w.heap.size + 1 + 1 := by omega
  have l2 : w.heap.size + 1 < w.heap.size + 1 + 1 := by omega
  have d4 : w1.cell? ⟨w.heap.size, 4, none⟩ = some (.string tx) := (b1'.cell l1).trans (by simp)
  have d5 : w1.cell? ⟨w.heap.size, 5, none⟩ = some (.slice p1 ks.length r1) := (b1'.cell l1).trans (by simp)
  have f4 : w1.cell? ⟨w.heap.size + 1, 4, none⟩ = some (.string tx) := (b1'.cell l2).trans (by simp)
  have f5 : w1.cell? ⟨w.heap.size + 1, 5, none⟩ = some (.slice p2 ks.length r2) := (b1'.cell l2).trans (by simp)
  have bb1 : Below w.heap.size w w1 := bb.trans (b1'.mono (by omega))
  clear b1' bb
  go_wp2_with fail
  refine (HK.out _ bb1).mono ?_
  rintro e w2 ⟨rfl, b2'⟩
  have bb2 : Below w.heap.size w w2 := bb1.trans (b2'.mono bb1.size)
  clear b2' bb1 d4 d5 f4 f5
  go_wp2_with fail
  go_ret
  exact ⟨rfl, bb2⟩

set_option maxRecDepth 20000 in
set_option maxHeartbeats 4000000 in
theorem eqElS_of (l : List ElB) (hA : ∀ e ∈ l, EqEl e) : EqElS l := by
  intro lo1 lo2 a b n ca cb w ha hb hl hn hli
  have Ha : Hid (KidsIn (QA lo1) (lo1 ≤ ·) w a l) := ha
  have Hb : Hid (KidsIn (QA lo2) (lo2 ≤ ·) w b l) := hb
  have Hl : Hid (l.length = n) := hl
  have HL : Hid (ElsLight l) := hli
  have HA : Hid (∀ e ∈ l, EqEl e) := hA
  clear ha hb hl hli hA
  go_enter Try.func9, Try.ntmps9
  go_wp2
  go_loopw [5] (fun i wr => ∃ k : Nat, k ≤ n ∧ i = .int .i64 k ∧ Below w.heap.size w wr) (fun i _ => n - (intOf i).toNat)
  case atStart => exact ⟨0, Nat.zero_le _, rfl, Below.refl _ _⟩
  case round =>
    obtain ⟨k, hk, rfl, hbel⟩ := hrel
    by_cases hlt : k < n
    · have hkl : k < l.length := by rw [Hl.out]; exact hlt
      rcases Ha.out.keep (QA.lies _) hbel with h | ⟨ba, oa, rfl, _, hca⟩
      · rw [h] at hkl
        exact absurd hkl (Nat.not_lt_zero _)
      rcases Hb.out.keep (QA.lies _) hbel with h | ⟨bb, ob, rfl, _, hcb⟩
      · rw [h] at hkl
        exact absurd hkl (Nat.not_lt_zero _)
      obtain ⟨v0, v1, v2, v3, v4, v5, c0, c1, c2, c3, c4, c5, hV⟩ := (hca.get k hkl).cells
      obtain ⟨u0, u1, u2, u3, u4, u5, d0, d1, d2, d3, d4, d5, hU⟩ := (hcb.get k hkl).cells
      have hlen := HL.out.get _ (List.getElem_mem hkl)
      have hE := HA.out _ (List.getElem_mem hkl)
      have Htok : ∀ d os, Calls Try.prog 17 #[.agg #[v0, v1, v2, v3, v4, v5], .agg #[u0, u1, u2, u3, u4, u5]] (Sort.grow (redrawn wr d) os) fun e w'' => e = .returned (.bool true) ∧ ∃ p : Regrown, w'' = Sort.grow (redrawn wr p.d) p.os := fun d os => Calls.regrown_of (hE lo1 lo2 _ _ _ (hV.keep (QA.lies _) (below_regrown wr d os)) (hU.keep (QA.lies _) (below_regrown wr d os)) hlen)
      have k0 : (0 : Int) ≤ (k : Int) := by omega
      have k1 : (k : Int) < (n : Int) := by omega
      have x0 := cell_regrown c0
      have x1 := cell_regrown c1
      have x2 := cell_regrown c2
      have x3 := cell_regrown c3
      have x4 := cell_regrown c4
      have x5 := cell_regrown c5
      have y0 := cell_regrown d0
      have y1 := cell_regrown d1
      have y2 := cell_regrown d2
      have y3 := cell_regrown d3
      have y4 := cell_regrown d4
      have y5 := cell_regrown d5
      clear c0 c1 c2 c3 c4 c5 d0 d1 d2 d3 d4 d5 hV hU hlen hE hca hcb
      go_upto_region 6 with fail
      refine wp_region_quiet_below (by kernel_rfl) (by kernel_rfl) ?_
      repeat (go_big_quiet_step (first | exact Htok _ _))
      refine wpQuiet_nil ?_
      intro _ hw'
      obtain ⟨⟨dq, osq⟩, hw''⟩ := hw'
      subst hw''
      have bf := hbel.trans ((below_regrown wr dq osq).mono hbel.size)
      generalize Sort.grow (redrawn wr dq) osq = W at *
      clear x0 x1 x2 x3 x4 x5 y0 y1 y2 y3 y4 y5 Htok
      go_wp2_with fail
      go_roundw
      case rel => exact ⟨k + 1, by omega, by go_num, bf⟩
      case measure => simp [intOf]; omega
    · have g1 : decide ((k : Int) < (n : Int)) = false := decide_eq_false (by omega)
      go_wp2
      go_ret
      exact ⟨rfl, hbel⟩

mutual
theorem eqEl_any : ∀ e : ElB, EqEl e
  | .mk kd sp nm ats tx ks => eqEl_of kd sp nm ats tx ks (eqElS_of ks (eqEl_all ks))
theorem eqEl_all : ∀ es : List ElB, ∀ e ∈ es, EqEl e
  | [], _, h => nomatch h
  | x :: xs, e, h => (List.mem_cons.1 h).elim (fun he => he ▸ eqEl_any x) (fun hm => eqEl_all xs e hm)
end
theorem eqElS_any (es : List ElB) : EqElS es := eqElS_of es fun e _ => eqEl_any e

end Go.Proofs.Ytploagieecepfaa.Sg
