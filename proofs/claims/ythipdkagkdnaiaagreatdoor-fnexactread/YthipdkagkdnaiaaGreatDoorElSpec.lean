/- Contracts of the model's ElSize and ElDeep. -/
import Derived.Test.YthipdkagkdnaiaaGreatDoorMRD01
namespace Go.Proofs.YthipdkagkdnaiaaGreatDoor.Sg
open Go.ChangeShapes Go.WideShapes Go.ChangeAt Go.RowKit

theorem elsN_drop : ∀ (es : List ElB) (k : Nat) (h : k < es.length), elsN (es.drop k) = elN (es[k]'h) + elsN (es.drop (k + 1))
  | [], k, h => absurd h (by simp)
  | e :: es, 0, _ => by simp [elsN]
  | e :: es, k + 1, h => by
    have := elsN_drop es k (by simpa using h)
    simpa using this
theorem elsD_drop : ∀ (es : List ElB) (k : Nat) (h : k < es.length), elsD (es.drop k) = max (elD (es[k]'h)) (elsD (es.drop (k + 1)))
  | [], k, h => absurd h (by simp)
  | e :: es, 0, _ => by simp [elsD]
  | e :: es, k + 1, h => by
    have := elsD_drop es k (by simpa using h)
    simpa using this
mutual
theorem elN_le : ∀ e : ElB, elN e ≤ elW e + 1
  | .mk kd sp nm ats tx ks => by
    have := elsN_le ks
    unfold elN elW
    omega
theorem elsN_le : ∀ es : List ElB, elsN es ≤ es.length + elsW es
  | [] => by simp [elsN]
  | e :: es => by
    have := elN_le e
    have := elsN_le es
    unfold elsN elsW
    rw [List.length_cons]
    omega
end
mutual
theorem elD_le : ∀ e : ElB, elD e ≤ elN e
  | .mk kd sp nm ats tx ks => by
    have := elsD_le ks
    unfold elD elN
    omega
theorem elsD_le : ∀ es : List ElB, elsD es ≤ elsN es
  | [] => by simp [elsD]
  | e :: es => by
    have := elD_le e
    have := elsD_le es
    unfold elsD elsN
    omega
end
theorem elsN_get (es : List ElB) (k : Nat) (h : k < es.length) : elN (es[k]'h) ≤ elsN es := by
  induction es generalizing k with
  | nil => exact absurd h (by simp)
  | cons e es ih =>
    unfold elsN
    cases k with
    | zero => simp
    | succ k =>
      have := ih k (by simpa using h)
      simp only [List.getElem_cons_succ]
      omega

theorem elN_pos (e : ElB) : 1 ≤ elN e := by
  obtain ⟨kd, sp, nm, ats, tx, ks⟩ := e
  unfold elN
  omega
theorem elsN_len : ∀ es : List ElB, es.length ≤ elsN es
  | [] => by simp
  | e :: es => by
    have := elN_pos e
    have := elsN_len es
    unfold elsN
    rw [List.length_cons]
    omega

def SpSize (e : ElB) : Prop := ∀ (lo : Nat) (v : Value) (w : World), ElV (QA lo) (lo ≤ ·) w v e → elN e ≤ 1099511627776 → Calls Tryz.prog 54 #[v] w fun r w' => r = .returned (.int .i64 (elN e : Int)) ∧ Below w.heap.size w w'
set_option maxHeartbeats 2000000 in
theorem elSize_of (kd sp : Int) (nm : ByteArray) (ats : List AttrB) (tx : ByteArray) (ks : List ElB) (hA : ∀ e ∈ ks, SpSize e) : SpSize (.mk kd sp nm ats tx ks) := by
  intro lo v w hv hn
  obtain ⟨av, ka, kc, rfl, _, hk⟩ := hv
  have HK : Hid (KidsIn (QA lo) (lo ≤ ·) w ka ks) := hk
  have HA : Hid (∀ e ∈ ks, SpSize e) := hA
  have hN : elsN ks ≤ 1099511627776 := by unfold elN at hn; omega
  have hlen : ks.length ≤ 1099511627776 := by have := elsN_len ks; omega
  obtain ⟨R, HR⟩ : ∃ R, Hid (elN (.mk kd sp nm ats tx ks) = R) := ⟨_, rfl⟩
  have HR0 : Hid (1 + elsN (ks.drop 0) = R) := by
    show _ = _
    rw [← HR.out, List.drop_zero]
    unfold elN
    omega
  rw [HR.out] at hn ⊢
  clear hk hA HR
  have hb0 := (Below.refl w.heap.size w).alloc (Nat.le_refl _) (.cells #[.int .i64 kd, .int .i64 sp, .string nm, av, .string tx, .slice ka ks.length kc] 25)
  have q0 : (w.alloc (.cells #[.int .i64 kd, .int .i64 sp, .string nm, av, .string tx, .slice ka ks.length kc] 25)).cell? ⟨w.heap.size, 5, none⟩ = some (.slice ka ks.length kc) := by simp
  have s0 : w.heap.size < (w.alloc (.cells #[.int .i64 kd, .int .i64 sp, .string nm, av, .string tx, .slice ka ks.length kc] 25)).heap.size := by simp
  go_enter Tryz.func54, Tryz.ntmps54
  go_wp2_with fail
  go_loopw [3, 4] (fun ov iv wr => ∃ k o : Nat, k ≤ ks.length ∧ iv = .int .i64 (k : Int) ∧ ov = .int .i64 (o : Int) ∧ Hid (o + elsN (ks.drop k) = R) ∧ wr.cell? ⟨w.heap.size, 5, none⟩ = some (.slice ka ks.length kc) ∧ w.heap.size < wr.heap.size ∧ Hid (Below w.heap.size w wr)) (fun _ iv _ => ks.length - (intOf iv).toNat)
  case atStart => exact ⟨0, 1, Nat.zero_le _, rfl, rfl, HR0, q0, s0, hb0⟩
  case round =>
    clear HR0 q0 s0 hb0
    obtain ⟨k, o, hk, rfl, rfl, HRk, q5, hs, HB⟩ := hrel
    by_cases hlt : k < ks.length
    · rcases HK.out.keep (QA.lies _) HB.out with h | ⟨b, off, rfl, _, hc⟩
      · omega
      obtain ⟨v0, v1, v2, v3, v4, v5, c0, c1, c2, c3, c4, c5, hV⟩ := (hc.get k hlt).cells
      have hNk := elsN_get ks k hlt
      have Hs := HA.out _ (List.getElem_mem hlt) lo _ wr hV (by omega)
      have hdr := elsN_drop ks k hlt
      have hRk := HRk.out
      rw [hdr] at hRk
      clear hc hV hdr HRk
      generalize elN (ks[k]'hlt) = m at *
      have HRk2 : Hid (o + m + elsN (ks.drop (k + 1)) = R) := by show _ = _; omega
      have hom : o + m ≤ R := by omega
      have hk1 : k + 1 ≤ ks.length := hlt
      have k0 : (0 : Int) ≤ (k : Int) := by omega
      have k1 : (k : Int) < (ks.length : Int) := by omega
      have q1 : IntKind.i64.wrap ((o : Int) + (m : Int)) = (o : Int) + (m : Int) := IntWalk.i64_in _ (by omega)
      clear hRk
      go_wp2_with fail
      refine Hs.mono ?_
      rintro e w1 ⟨rfl, b1⟩
      have q5' := (b1.cell hs).trans q5
      have hs' := Nat.lt_of_lt_of_le hs b1.size
      have HB' : Hid (Below w.heap.size w w1) := HB.out.trans (b1.mono HB.out.size)
      clear b1 q5 HB
      go_wp2_with fail
      go_roundw
      case rel => exact ⟨k + 1, o + m, hk1, by go_num, by go_num, HRk2, q5', hs', HB'⟩
      case measure => simp [intOf]; omega
    · have hf : o = R := by
        have := HRk.out
        rw [List.drop_eq_nil_of_le (by omega)] at this
        exact this
      have g1 : decide ((k : Int) < (ks.length : Int)) = false := decide_eq_false (by omega)
      clear HRk
      subst hf
      go_wp2_with fail
      go_ret
      exact ⟨rfl, HB.out⟩
mutual
theorem specElSize : ∀ e : ElB, SpSize e
  | .mk kd sp nm ats tx ks => elSize_of kd sp nm ats tx ks (specElSize_all ks)
theorem specElSize_all : ∀ es : List ElB, ∀ e ∈ es, SpSize e
  | [], _, h => nomatch h
  | x :: xs, e, h => (List.mem_cons.1 h).elim (fun he => he ▸ specElSize x) (fun hm => specElSize_all xs e hm)
end

set_option maxHeartbeats 1000000 in
theorem specMaxE (a b : Int) (w : World) : Calls Tryz.prog 30 #[.int .i64 a, .int .i64 b] w fun e w' => e = .returned (.int .i64 (if b < a then a else b)) ∧ w' = w := by
  by_cases h : b < a
  · rw [if_pos h]
    go_enter Tryz.func30, Tryz.ntmps30
    go_wp2
    go_ret
    exact ⟨rfl, rfl⟩
  · rw [if_neg h]
    go_enter Tryz.func30, Tryz.ntmps30
    go_wp2
    go_ret
    exact ⟨rfl, rfl⟩
def SpDeep (e : ElB) : Prop := ∀ (lo : Nat) (v : Value) (w : World), ElV (QA lo) (lo ≤ ·) w v e → elN e ≤ 1099511627776 → Calls Tryz.prog 40 #[v] w fun r w' => r = .returned (.int .i64 (elD e : Int)) ∧ Below w.heap.size w w'
set_option maxHeartbeats 2000000 in
theorem elDeep_of (kd sp : Int) (nm : ByteArray) (ats : List AttrB) (tx : ByteArray) (ks : List ElB) (hA : ∀ e ∈ ks, SpDeep e) : SpDeep (.mk kd sp nm ats tx ks) := by
  intro lo v w hv hn
  obtain ⟨av, ka, kc, rfl, _, hk⟩ := hv
  have HK : Hid (KidsIn (QA lo) (lo ≤ ·) w ka ks) := hk
  have HA : Hid (∀ e ∈ ks, SpDeep e) := hA
  have hN : elsN ks ≤ 1099511627776 := by unfold elN at hn; omega
  have hlen : ks.length ≤ 1099511627776 := by have := elsN_len ks; omega
  obtain ⟨R, HR⟩ : ∃ R, Hid (elD (.mk kd sp nm ats tx ks) = R) := ⟨_, rfl⟩
  have HR0 : Hid (max 0 (elsD (ks.drop 0)) + 1 = R) := by
    show _ = _
    rw [← HR.out, List.drop_zero]
    unfold elD
    omega
  have hD : R ≤ 1099511627776 := by rw [← HR.out]; exact Nat.le_trans (elD_le _) hn
  rw [HR.out]
  clear hk hA HR
  have hb0 := (Below.refl w.heap.size w).alloc (Nat.le_refl _) (.cells #[.int .i64 kd, .int .i64 sp, .string nm, av, .string tx, .slice ka ks.length kc] 25)
  have q0 : (w.alloc (.cells #[.int .i64 kd, .int .i64 sp, .string nm, av, .string tx, .slice ka ks.length kc] 25)).cell? ⟨w.heap.size, 5, none⟩ = some (.slice ka ks.length kc) := by simp
  have s0 : w.heap.size < (w.alloc (.cells #[.int .i64 kd, .int .i64 sp, .string nm, av, .string tx, .slice ka ks.length kc] 25)).heap.size := by simp
  go_enter Tryz.func40, Tryz.ntmps40
  go_wp2_with fail
  go_loopw [3, 4] (fun ov iv wr => ∃ k o : Nat, k ≤ ks.length ∧ iv = .int .i64 (k : Int) ∧ ov = .int .i64 (o : Int) ∧ Hid (max o (elsD (ks.drop k)) + 1 = R) ∧ wr.cell? ⟨w.heap.size, 5, none⟩ = some (.slice ka ks.length kc) ∧ w.heap.size < wr.heap.size ∧ Hid (Below w.heap.size w wr)) (fun _ iv _ => ks.length - (intOf iv).toNat)
  case atStart => exact ⟨0, 0, Nat.zero_le _, rfl, rfl, HR0, q0, s0, hb0⟩
  case round =>
    clear HR0 q0 s0 hb0
    obtain ⟨k, o, hk, rfl, rfl, HRk, q5, hs, HB⟩ := hrel
    by_cases hlt : k < ks.length
    · rcases HK.out.keep (QA.lies _) HB.out with h | ⟨b, off, rfl, _, hc⟩
      · omega
      obtain ⟨v0, v1, v2, v3, v4, v5, c0, c1, c2, c3, c4, c5, hV⟩ := (hc.get k hlt).cells
      have hNk := elsN_get ks k hlt
      have Hs := HA.out _ (List.getElem_mem hlt) lo _ wr hV (by omega)
      have hdr := elsD_drop ks k hlt
      have hRk := HRk.out
      rw [hdr] at hRk
      clear hc hV hdr HRk
      generalize elD (ks[k]'hlt) = m at *
      have HRk2 : Hid (max (max o m) (elsD (ks.drop (k + 1))) + 1 = R) := by show _ = _; omega
      have hk1 : k + 1 ≤ ks.length := hlt
      have hmx : (if (m : Int) < (o : Int) then (o : Int) else (m : Int)) = ((max o m : Nat) : Int) := by split <;> omega
      have k0 : (0 : Int) ≤ (k : Int) := by omega
      have k1 : (k : Int) < (ks.length : Int) := by omega
      clear hRk
      go_wp2_with fail
      refine Hs.mono ?_
      rintro e w1 ⟨rfl, b1⟩
      have q5' := (b1.cell hs).trans q5
      have hs' := Nat.lt_of_lt_of_le hs b1.size
      have HB' : Hid (Below w.heap.size w w1) := HB.out.trans (b1.mono HB.out.size)
      clear b1 q5 HB
      go_wp2_with fail
      refine (specMaxE (o : Int) (m : Int) _).mono ?_
      rintro e w2 ⟨rfl, rfl⟩
      rw [hmx]
      go_wp2_with fail
      go_roundw
      case rel => exact ⟨k + 1, max o m, hk1, by go_num, rfl, HRk2, q5', hs', HB'⟩
      case measure => simp [intOf]; omega
    · have hf : o + 1 = R := by
        have := HRk.out
        rw [List.drop_eq_nil_of_le (by omega)] at this
        simpa [elsD] using this
      have q1 : IntKind.i64.wrap ((o : Int) + 1) = (o : Int) + 1 := IntWalk.i64_in _ (by omega)
      have g1 : decide ((k : Int) < (ks.length : Int)) = false := decide_eq_false (by omega)
      clear HRk
      subst hf
      go_wp2_with fail
      go_ret
      exact ⟨rfl, HB.out⟩
mutual
theorem specElDeep : ∀ e : ElB, SpDeep e
  | .mk kd sp nm ats tx ks => elDeep_of kd sp nm ats tx ks (specElDeep_all ks)
theorem specElDeep_all : ∀ es : List ElB, ∀ e ∈ es, SpDeep e
  | [], _, h => nomatch h
  | x :: xs, e, h => (List.mem_cons.1 h).elim (fun he => he ▸ specElDeep x) (fun hm => specElDeep_all xs e hm)
end

end Go.Proofs.YthipdkagkdnaiaaGreatDoor.Sg
