/- Contracts of the model's l1Max, l8Unmark. -/
import Derived.Test.YtlnegnikedinaaaMDPopTo03
namespace Go.Proofs.Ytlnegnikedinaaa.Sg
open Go.ChangeShapes Go.WideShapes Go.ChangeAt Go.RowKit

/-- The last mark among the first n; -1. -/
def lastF (zs : List Int) : Nat → Int
  | 0 => -1
  | n + 1 => if zs.getD n 0 = -1 then (n : Int) else lastF zs n
theorem lastF_le (zs : List Int) : ∀ n, lastF zs n < (n : Int) ∨ lastF zs n = -1
  | 0 => .inr rfl
  | n + 1 => by
    unfold lastF
    split
    · left; omega
    · rcases lastF_le zs n with h | h
      · left; omega
      · exact .inr h
theorem lastF_ge (zs : List Int) : ∀ n, -1 ≤ lastF zs n
  | 0 => by simp [lastF]
  | n + 1 => by
    unfold lastF
    split
    · omega
    · exact lastF_ge zs n
/-- Formats without the last mark and what is behind it. -/
def unmarkL (zs : List Int) : List Int := zs.take (lastF zs zs.length).toNat

theorem rm_take {w : World} {b off n cap k : Nat} {zs : List Int} (h : RmInts w (.slice (some ⟨b, off, none⟩) n cap) zs) (hk : k ≤ zs.length) : RmInts w (.slice (some ⟨b, off, none⟩) k cap) (zs.take k) := by
  obtain ⟨a, c, e, hc, hI⟩ := h
  injection e with e1 e2 e3
  subst e1 e3
  have hl : (zs.take k).length = k := by rw [List.length_take]; omega
  refine ⟨_, _, by rw [hl], by rw [hl]; omega, ?_⟩
  rcases hI with h0 | ⟨b', off', e, hb, hcell⟩
  · exact .inl (by simp [h0])
  · cases e
    refine .inr ⟨b, off, rfl, hb, fun i hi => ?_⟩
    have hi' : i < k := by rw [hl] at hi; exact hi
    rw [hcell i (by omega)]
    simp [List.getD, hi']

theorem wpList_append_intsN (w : World) {ops : Array Oper} {rest : List Oper} {o : Oper} {a : Act} {Q : Exit → Act → World → Prop} (hgd : o.guard = none) (s x : Operand)
    (ho : o.op = .call { callee := .builtin .append, args := #[s, x], argTypes := #[23, 23] }) (g : Nat) (hs : a.eval s = .slice (some ⟨g, 0, none⟩) 0 0)
    (u : Value) (zs : List Int) (n : Nat) (hl : zs.length = n) (hx : a.eval x = u) (hu : RmInts w u zs) (hn : zs.length ≤ 1099511627776)
    (h : ∀ ad c w', RmLate w.heap.size w' (.slice ad n c) zs → Below w.heap.size w w' → wpList Try.prog ops Q rest (a.put o.dst (.slice ad n c)) w') : wpList Try.prog ops Q (o :: rest) a w := by
  subst hl
  exact wpList_append_ints w hgd s x ho g hs u zs hx hu hn h

set_option maxHeartbeats 1000000 in
theorem specMax (a b : Int) (w : World) : Calls Try.prog 50 #[.int .i64 a, .int .i64 b] w fun e w' => e = .returned (.int .i64 (if b < a then a else b)) ∧ w' = w := by
  by_cases h : b < a
  · rw [if_pos h]
    go_enter Try.func50, Try.ntmps50
    go_wp2
    go_ret
    exact ⟨rfl, rfl⟩
  · rw [if_neg h]
    go_enter Try.func50, Try.ntmps50
    go_wp2
    go_ret
    exact ⟨rfl, rfl⟩

set_option maxRecDepth 20000 in
set_option maxHeartbeats 8000000 in
theorem specUnmark (zs : List Int) (v : Value) (w : World) (ho : RmInts w v zs) (hn : zs.length ≤ 1099511627776) :
    Calls Try.prog 34 #[v] w fun e w' => ∃ v', e = .returned v' ∧ RmLate w.heap.size w' v' (unmarkL zs) ∧ Below w.heap.size w w' := by
  obtain ⟨K, HK⟩ : ∃ K, Hid (lastF zs zs.length = K) := ⟨_, rfl⟩
  have bA : Hid (Below w.heap.size w (w.alloc (.cells #[] 3))) := (Below.refl _ _).alloc (Nat.le_refl _) _
  have Ho : Hid (RmInts w v zs) := ho
  have g1 : IntKind.i64.wrap ((zs.length : Int) - 1) = (zs.length : Int) - 1 := IntWalk.i64_in _ (by omega)
  have Hm : Hid (∀ n, lastF zs (n + 1) = if zs.getD n 0 = -1 then (n : Int) else lastF zs n) := fun n => rfl
  have H0 : Hid (lastF zs 0 = -1) := rfl
  obtain ⟨n, Hn⟩ : ∃ n, Hid (zs.length = n) := ⟨_, rfl⟩
  have HKb : Hid (-1 ≤ K ∧ (K < (n : Int) ∨ K = -1)) := ⟨by rw [← HK.out]; exact lastF_ge _ _, by rw [← HK.out, ← Hn.out]; exact lastF_le _ _⟩
  have HU : Hid (unmarkL zs = zs.take K.toNat) := by show _ = _; unfold unmarkL; rw [HK.out]
  obtain ⟨m, HKm⟩ : ∃ m, Hid (K.toNat = m) := ⟨_, rfl⟩
  have hmn : m ≤ n := by have := HKb.out; have := HKm.out; omega
  have hml : (zs.take m).length ≤ 1099511627776 := by rw [List.length_take]; omega
  have HMx : Hid ((if (0 : Int) < K then K else 0) = (m : Int)) := by
    show _ = _
    have := HKb.out
    have := HKm.out
    split <;> omega
  have HTl : Hid ((zs.take m).length = m) := by show _ = _; rw [List.length_take, Hn.out]; omega
  rw [HU.out, HKm.out]
  obtain ⟨a, cap, rfl, hcap, hI⟩ := ho
  rw [Hn.out] at HK Ho g1 hn hcap ⊢
  clear HU
  by_cases h0 : n = 0
  · subst h0
    obtain rfl : m = 0 := by omega
    have hz : zs = [] := List.eq_nil_of_length_eq_zero Hn.out
    obtain rfl : K = -1 := HK.out.symm.trans H0.out
    clear HK Hm H0 Ho g1 HKb HKm Hn hI
    rcases a with _ | ad
    · have HS : Hid (RmInts (w.alloc (.cells #[] 3)) (.slice none 0 cap) (zs.take 0)) := ⟨none, cap, rfl, Nat.zero_le _, .inl rfl⟩
      go_enter Try.func34, Try.ntmps34
      go_wp2
      refine wp_loop_rounds 1 ?_
      rw [rounds_succ]
      have C := specMax (-1) 0 (w.alloc (.cells #[] 3))
      rw [HMx.out] at C
      go_wp2_with (first
        | (go_at_call 50; refine C.mono ?_; rintro e wM ⟨rfl, rfl⟩)
        | (at_builtin; refine wpList_append_intsN _ rfl _ _ rfl _ rfl _ _ _ HTl.out rfl HS.out hml ?_; intro xa xc w' o1 b1)
        | go_in)
      go_ret
      exact ⟨_, rfl, fun W hW => o1 W (hW.more fun b hb => by simp; omega), bA.out.trans (b1.mono (by simp))⟩
    · have HS : Hid (RmInts (w.alloc (.cells #[] 3)) (.slice (some ad) 0 cap) (zs.take 0)) := ⟨some ad, cap, rfl, Nat.zero_le _, .inl rfl⟩
      have q1 : (0 : Int) ≤ (cap : Int) := by omega
      go_enter Try.func34, Try.ntmps34
      go_wp2
      refine wp_loop_rounds 1 ?_
      rw [rounds_succ]
      have C := specMax (-1) 0 (w.alloc (.cells #[] 3))
      rw [HMx.out] at C
      go_wp2_with (first
        | (go_at_call 50; refine C.mono ?_; rintro e wM ⟨rfl, rfl⟩)
        | (at_builtin; refine wpList_append_intsN _ rfl _ _ rfl _ rfl _ _ _ HTl.out rfl HS.out hml ?_; intro xa xc w' o1 b1)
        | go_in)
      go_ret
      exact ⟨_, rfl, fun W hW => o1 W (hW.more fun b hb => by simp; omega), bA.out.trans (b1.mono (by simp))⟩
  rcases hI with h1 | ⟨b, off, rfl, hb, hcell⟩
  · exact absurd (by rw [← Hn.out, h1]; rfl) h0
  have HS : Hid (RmInts (w.alloc (.cells #[] 3)) (.slice (some ⟨b, off, none⟩) m cap) (zs.take m)) := rm_take (Ho.out.keep bA.out) (by rw [Hn.out]; exact hmn)
  have q1 : (m : Int) ≤ (cap : Int) := by omega
  have q2 : (0 : Int) ≤ (m : Int) := by omega
  have q3 : m ≤ cap := by omega
  have Hc : Hid (∀ k, k < n → w.cell? ⟨b, off + k, none⟩ = some (.int .i64 (zs.getD k 0))) := fun k hk => hcell k (by rw [Hn.out]; exact hk)
  clear Ho HKm Hn hcell
  go_enter Try.func34, Try.ntmps34
  go_wp2_with fail
  go_loopw [3] (fun kv wr => ∃ (k : Nat) (z : Int), k ≤ n ∧ kv = .int .i64 z ∧ Hid (z = (k : Int) - 1) ∧ Hid (lastF zs k = K) ∧ wr = w) (fun kv _ => (intOf kv + 1).toNat)
  case atStart => exact ⟨n, _, Nat.le_refl _, rfl, rfl, HK, rfl⟩
  case round =>
    clear HK
    obtain ⟨k, z, hk, rfl, hz, HK, rfl⟩ := hrel
    match k, hk, hz, HK with
    | 0, hk, hz, HK =>
      obtain rfl : z = -1 := by have := hz.out; omega
      obtain rfl : K = -1 := HK.out.symm.trans H0.out
      clear HK hz Hc Hm H0 HKb
      have C := specMax (-1) 0 (wr.alloc (.cells #[] 3))
      rw [HMx.out] at C
      go_wp2_with (first
        | (go_at_call 50; refine C.mono ?_; rintro e wM ⟨rfl, rfl⟩)
        | (at_builtin; refine wpList_append_intsN _ rfl _ _ rfl _ rfl _ _ _ HTl.out rfl HS.out hml ?_; intro xa xc w' o1 b1)
        | go_in)
      go_ret
      exact ⟨_, rfl, fun W hW => o1 W (hW.more fun b hb => by simp; omega), bA.out.trans (b1.mono (by simp))⟩
    | k + 1, hk, hz, HK =>
      obtain rfl : z = (k : Int) := by have := hz.out; omega
      have Hs := (Hm.out k).symm.trans HK.out
      have c1 := Hc.out k (by omega)
      have g2 : (0 : Int) ≤ (k : Int) := by omega
      have g3 : IntKind.i64.wrap ((k : Int) - 1) = (k : Int) - 1 := IntWalk.i64_in _ (by omega)
      have g4 : (k : Int) < (n : Int) := by omega
      clear HK hz
      by_cases hx : zs.getD k 0 = -1
      · rw [if_pos hx] at Hs
        rw [hx] at c1
        subst Hs
        have g5 : ((-1 : Int) != -1) = false := by decide
        clear hx Hc Hm H0 HKb
        have C := specMax (k : Int) 0 (wr.alloc (.cells #[] 3))
        rw [HMx.out] at C
        go_wp2_with (first
          | (go_at_call 50; refine C.mono ?_; rintro e wM ⟨rfl, rfl⟩)
          | (at_builtin; refine wpList_append_intsN _ rfl _ _ rfl _ rfl _ _ _ HTl.out rfl HS.out hml ?_; intro xa xc w' o1 b1)
          | go_in)
        go_ret
        exact ⟨_, rfl, fun W hW => o1 W (hW.more fun b hb => by simp; omega), bA.out.trans (b1.mono (by simp))⟩
      · rw [if_neg hx] at Hs
        have Hr : Hid (lastF zs k = K) := Hs
        have g5 : (zs.getD k 0 != -1) = true := by simpa [bne] using hx
        generalize zs.getD k 0 = x at c1 g5
        clear Hs hx
        go_wp2_with fail
        go_roundw
        case rel => exact ⟨k, _, by omega, rfl, rfl, Hr, by first | trivial | rfl⟩
        case measure => simp [intOf]

end Go.Proofs.Ytlnegnikedinaaa.Sg
