/- Contracts of the program's openNamed and TableOpen. -/
import Derived.Test.YtagbfmalaiaobaaOpA
import Derived.Test.YtagbfmalaiaobaaOpB
import Derived.Test.YtagbfmalaiaobaaLwPgIn
namespace Go.Proofs.Ytagbfmalaiaobaa.Sg
open Go.ChangeShapes Go.WideShapes Go.ChangeAt Go.RowKit

set_option maxRecDepth 20000 in
set_option maxHeartbeats 4000000 in
/-- The function that openNamed asks: the page and the name lie in boxes. -/
theorem implOpenNamed1 (p : PgB) (ia oa fa : Option Addr) (ic oc fc : Nat) (x : Int) (s : ByteArray) (bp bs : Nat) (W : World) (hv : PgAt W (.agg #[.slice ia p.its.length ic, .slice oa p.opn.length oc, .slice fa p.fms.length fc, .int .i64 p.hd, .int .i64 p.bd]) p)
    (c0 : W.cell? ⟨bp, 0, none⟩ = some (.slice ia p.its.length ic)) (c1 : W.cell? ⟨bp, 1, none⟩ = some (.slice oa p.opn.length oc)) (c2 : W.cell? ⟨bp, 2, none⟩ = some (.slice fa p.fms.length fc)) (c3 : W.cell? ⟨bp, 3, none⟩ = some (.int .i64 p.hd)) (c4 : W.cell? ⟨bp, 4, none⟩ = some (.int .i64 p.bd)) (cs : W.cell? ⟨bs, 0, none⟩ = some (.string s)) :
    Calls Try.prog 75 #[.int .i64 x, .pointer (some ⟨bp, 0, none⟩), .pointer (some ⟨bs, 0, none⟩)] W fun e W' => e = .returned (.bool (namedB p x [s.data.toList])) ∧ Below W.heap.size W W' := by
  have HB : Hid (∀ o, Below W.heap.size W (W.alloc o)) := fun o => (Below.refl _ _).alloc (Nat.le_refl _) _
  have H : Hid (∀ (C : Array Value) (t : TypeId), C = #[.string s] → Calls Try.prog 35 #[.agg #[.slice ia p.its.length ic, .slice oa p.opn.length oc, .slice fa p.fms.length fc, .int .i64 p.hd, .int .i64 p.bd], .int .i64 x, .slice (some ⟨W.heap.size, 0, none⟩) 1 1] (W.alloc (.cells C t)) fun e w' => e = .returned (.bool (namedB p x [s.data.toList])) ∧ Below (W.alloc (.cells C t)).heap.size (W.alloc (.cells C t)) w') := fun C t hC =>
    implIsNamed p _ x W.heap.size 1 1 [s.data.toList] _ (hv.keep (HB.out _)) (Texts.laid W _ C t (by rw [hC]; simp [strB_of])) rfl (by decide)
  clear hv
  generalize namedB p x [s.data.toList] = R at *
  generalize p.its.length = N at *
  generalize p.opn.length = O at *
  generalize p.fms.length = F at *
  go_enter Try.func75, Try.ntmps75
  go_wp2_with fail
  refine (H.out _ _ rfl).mono ?_
  rintro e w1 ⟨rfl, b1⟩
  go_wp2_with fail
  go_ret
  exact ⟨rfl, (HB.out _).trans (b1.mono (by simp))⟩

set_option maxRecDepth 20000 in
set_option maxHeartbeats 4000000 in
theorem implOpenNamed (p : PgB) (v : Value) (s : ByteArray) (w : World) (hv : PgAt w v p) (ho : p.opn.length ≤ 1099511627776) :
    Calls Try.prog 48 #[v, .string s] w fun e w' => e = .returned (.int .i64 (lastF p.opn (fun x => namedB p x [s.data.toList]) p.opn.length)) ∧ Below w.heap.size w w' := by
  have Hv : Hid (PgAt w v p) := hv
  obtain ⟨ia, ic, oa, oc, fa, fc, rfl, _, ⟨hO, ho1⟩, _⟩ := hv
  have HI : Hid (∀ W, Below w.heap.size w W → W.cell? ⟨w.heap.size, 0, none⟩ = some (.slice ia p.its.length ic) → W.cell? ⟨w.heap.size, 1, none⟩ = some (.slice oa p.opn.length oc) → W.cell? ⟨w.heap.size, 2, none⟩ = some (.slice fa p.fms.length fc) → W.cell? ⟨w.heap.size, 3, none⟩ = some (.int .i64 p.hd) → W.cell? ⟨w.heap.size, 4, none⟩ = some (.int .i64 p.bd) → W.cell? ⟨w.heap.size + 1, 0, none⟩ = some (.string s) →
      Calls Try.prog 60 #[.slice oa p.opn.length oc, .func (.func 75) #[] #[.pointer (some ⟨w.heap.size, 0, none⟩), .pointer (some ⟨w.heap.size + 1, 0, none⟩)]] W fun e w' => e = .returned (.int .i64 (lastF p.opn (fun x => namedB p x [s.data.toList]) p.opn.length)) ∧ Below W.heap.size W w') := by
    intro W hW c0 c1 c2 c3 c4 cs
    refine implInnermost p.opn oa p.opn.length oc _ _ _ W (enters_of Try.func75 (by kernel_rfl) rfl) (fun W' x hW' => ?_) (hO.below (Nat.le_refl _) hW) rfl ho
    exact implOpenNamed1 p ia oa fa ic oc fc x s _ _ W' ((Hv.out.keep hW).keep hW') (keep_cell hW' c0) (keep_cell hW' c1) (keep_cell hW' c2) (keep_cell hW' c3) (keep_cell hW' c4) (keep_cell hW' cs)
  clear Hv hO ho1
  obtain ⟨R, HR⟩ : ∃ R, Hid (R = lastF p.opn (fun x => namedB p x [s.data.toList]) p.opn.length) := ⟨_, rfl⟩
  rw [← HR.out] at HI ⊢
  clear HR ho
  generalize p.its.length = N at *
  generalize p.opn.length = O at *
  generalize p.fms.length = F at *
  go_enter Try.func48, Try.ntmps48
  go_wp2_with fail
  obtain ⟨q0, q1, q2, q3, q4⟩ := Many.five (Many.new w [Value.slice ia N ic, .slice oa O oc, .slice fa F fc, .int .i64 p.hd, .int .i64 p.bd] 30 undef)
  have b1 : Below w.heap.size w ((w.alloc (.cells #[.slice ia N ic, .slice oa O oc, .slice fa F fc, .int .i64 p.hd, .int .i64 p.bd] 30)).alloc (.cells #[.string s] 9)) := ((Below.refl _ _).alloc (Nat.le_refl _) _).alloc (by simp) _
  refine (HI.out _ b1 (keep_cell (alB _ _) q0) (keep_cell (alB _ _) q1) (keep_cell (alB _ _) q2) (keep_cell (alB _ _) q3) (keep_cell (alB _ _) q4) ?_).mono ?_
  · have h := (bx_new (w.alloc (.cells #[.slice ia N ic, .slice oa O oc, .slice fa F fc, .int .i64 p.hd, .int .i64 p.bd] 30)) (.string s) 9).1
    simpa only [World.size_alloc] using h
  rintro e w1 ⟨rfl, b2⟩
  go_wp2_with fail
  go_ret
  exact ⟨rfl, b1.trans (b2.mono (by simp; omega))⟩

theorem named_name {p : PgB} {k : Nat} (hk : k < p.opn.length) {s : ByteArray} (hs : s ≠ ⟨#[]⟩) : namedB p (p.opn.getD k 0) [s.data.toList] = decide (nameAt p k = s) := by
  have e0 : p.opn.getD k 0 = p.opn[k]'hk := by simp [List.getD, hk]
  rw [e0]
  by_cases hc : 0 ≤ p.opn[k]'hk ∧ p.opn[k]'hk < (p.its.length : Int)
  · obtain ⟨m, hm⟩ := Int.eq_ofNat_of_zero_le hc.1
    have hml : m < p.its.length := by omega
    rw [hm, named_at _ hml, nameAt_in hk hm hml]
    unfold isIn
    rw [List.any_cons, List.any_nil, Bool.or_false]
    rw [Bool.eq_iff_iff, beq_iff_eq, decide_eq_true_iff]
    constructor
    · intro e
      cases h1 : (p.its[m]'hml).nm with
      | mk d =>
        cases s with
        | mk d' =>
          rw [h1] at e
          simp at e
          rw [e]
    · intro e
      rw [e]
  · rw [named_none _ hc]
    have : nameAt p k = ⟨#[]⟩ := by
      rcases Int.lt_or_le (p.opn[k]'hk) 0 with h | h
      · exact nameAt_low hk h
      · exact nameAt_high hk (by omega)
    rw [this]
    exact (decide_eq_false fun e => hs e.symm).symm
theorem last_find {p : PgB} {s : ByteArray} (hs : s ≠ ⟨#[]⟩) : ∀ n, n ≤ p.opn.length → lastF p.opn (fun x => namedB p x [s.data.toList]) n = findF p s n
  | 0, _ => rfl
  | n + 1, h => by
    unfold lastF findF
    rw [named_name (by omega) hs, last_find hs n (by omega)]
    by_cases e : nameAt p n = s
    · rw [if_pos e, if_pos (decide_eq_true e)]
    · rw [if_neg e, if_neg (by rw [decide_eq_false e]; decide)]
theorem table_some : tableB ≠ ⟨#[]⟩ := fun e => by
  have := congrArg ByteArray.size e
  simp [tableB, ByteArray.size] at this

set_option maxRecDepth 20000 in
set_option maxHeartbeats 4000000 in
theorem implTableOpen (p : PgB) (v : Value) (w : World) (hv : PgAt w v p) (hz : PgSize p) :
    Calls Try.prog 20 #[v] w fun e w' => e = .returned (.int .i64 (findF p tableB p.opn.length)) ∧ Below w.heap.size w w' := by
  have HO : Hid (∀ W, Below w.heap.size w W → Calls Try.prog 48 #[v, .string tableB] W fun e w' => e = .returned (.int .i64 (findF p tableB p.opn.length)) ∧ Below W.heap.size W w') := fun W hW => by
    have h := implOpenNamed p v tableB W (hv.keep hW) hz.2.2.1
    rw [last_find table_some _ (Nat.le_refl _)] at h
    exact h
  obtain ⟨ia, ic, oa, oc, fa, fc, rfl, _⟩ := hv
  generalize findF p tableB p.opn.length = R at *
  clear hz
  generalize p.its.length = N at *
  generalize p.opn.length = O at *
  generalize p.fms.length = F at *
  go_enter Try.func20, Try.ntmps20
  go_wp2_with fail
  refine (HO.out _ ((Below.refl _ _).alloc (Nat.le_refl _) _)).mono ?_
  rintro e w1 ⟨rfl, b1⟩
  go_wp2_with fail
  go_ret
  exact ⟨rfl, ((Below.refl _ _).alloc (Nat.le_refl _) _).trans (b1.mono (by simp))⟩

end Go.Proofs.Ytagbfmalaiaobaa.Sg
