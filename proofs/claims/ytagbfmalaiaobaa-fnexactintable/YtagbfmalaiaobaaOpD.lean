/- Contract of the program's InTable. -/
import Derived.Deep.RegionWith
import Derived.Test.YtagbfmalaiaobaaOpA
import Derived.Test.YtagbfmalaiaobaaLwPgIn
namespace Go.Proofs.Ytagbfmalaiaobaa.Sg
open Go.ChangeShapes Go.WideShapes Go.ChangeAt Go.RowKit

theorem named_tables {p : PgB} (h : 0 < p.opn.length) : namedB p (p.opn.getD (p.opn.length - 1) 0) [[116, 97, 98, 108, 101], [116, 98, 111, 100, 121], [116, 114]] = inTableB p := by
  rw [named_open (by omega) (by decide)]
  unfold inTableB lastN
  rw [if_neg (by omega)]
  generalize nameAt p (p.opn.length - 1) = s
  unfold isIn
  simp only [List.any_cons, List.any_nil, Bool.or_false, isT_swap]

set_option maxRecDepth 20000 in
set_option maxHeartbeats 8000000 in
theorem implInTable (p : PgB) (v : Value) (w : World) (hv : PgAt w v p) (hz : PgSize p) :
    Calls Try.prog 22 #[v] w fun e w' => e = .returned (.bool (inTableB p)) ∧ Below w.heap.size w w' := by
  have Hv : Hid (PgAt w v p) := hv
  obtain ⟨ia, ic, oa, oc, fa, fc, rfl, _, ⟨hO, ho1⟩, _⟩ := hv
  have g1 : IntKind.i64.wrap ((p.opn.length : Int) - 1) = (p.opn.length : Int) - 1 := IntWalk.i64_in _ (by have := hz.2.2.1; omega)
  by_cases h0 : p.opn.length = 0
  · have e : inTableB p = false := by
      unfold inTableB lastN
      rw [if_pos h0]
      simp [isT, ByteArray.toList_eq]
    rw [e]
    clear e Hv hO
    rw [h0] at g1 ⊢
    clear h0 ho1 hz g1
    generalize p.its.length = N at *
    generalize p.fms.length = F at *
    go_enter Try.func22, Try.ntmps22
    go_upto_region 2 with fail
    go_quiet (fail)
    go_wp2_with fail
    go_ret
    exact ⟨rfl, drew_kd (alB _ _) _⟩
  · rw [← named_tables (by omega)]
    obtain ⟨m, hm⟩ : ∃ m, p.opn.length = m + 1 := ⟨p.opn.length - 1, by omega⟩
    rcases hO with h | ⟨bo, off, rfl, hbo, hco⟩
    · rw [h] at h0
      exact absurd rfl h0
    have c1 := hco m (by omega)
    have eg : (p.opn.length : Int) - 1 = (m : Int) := by omega
    rw [show p.opn.length - 1 = m by omega]
    have HC : Hid (∀ W, Below (w.heap.size + 2) ((w.alloc (.cells #[.slice ia p.its.length ic, .slice (some ⟨bo, off, none⟩) p.opn.length oc, .slice fa p.fms.length fc, .int .i64 p.hd, .int .i64 p.bd] 30)).alloc (.cells #[.string ⟨#[116, 97, 98, 108, 101]⟩, .string ⟨#[116, 98, 111, 100, 121]⟩, .string ⟨#[116, 114]⟩] 9)) W → Calls Try.prog 35 #[.agg #[.slice ia p.its.length ic, .slice (some ⟨bo, off, none⟩) p.opn.length oc, .slice fa p.fms.length fc, .int .i64 p.hd, .int .i64 p.bd], .int .i64 (p.opn.getD m 0), .slice (some ⟨w.heap.size + 1, 0, none⟩) 3 3] W fun e w' => e = .returned (.bool (namedB p (p.opn.getD m 0) [[116, 97, 98, 108, 101], [116, 98, 111, 100, 121], [116, 114]])) ∧ Below w.heap.size w w') := fun W hW => by
      have h1 : Below w.heap.size w W := (((Below.refl _ w).alloc (Nat.le_refl _) _).alloc (by simp) _).trans (hW.mono (by omega))
      refine (implIsNamed p _ _ (w.heap.size + 1) 3 3 _ W (Hv.out.keep h1) ?_ rfl (by decide)).mono fun e w' h => ⟨h.1, below_then h1 h.2⟩
      have h2 := Texts.laid (w.alloc (.cells #[.slice ia p.its.length ic, .slice (some ⟨bo, off, none⟩) p.opn.length oc, .slice fa p.fms.length fc, .int .i64 p.hd, .int .i64 p.bd] 30)) [[116, 97, 98, 108, 101], [116, 98, 111, 100, 121], [116, 114]] #[.string ⟨#[116, 97, 98, 108, 101]⟩, .string ⟨#[116, 98, 111, 100, 121]⟩, .string ⟨#[116, 114]⟩] 9 rfl
      rw [World.size_alloc] at h2
      exact h2.below (by omega) hW
    generalize p.opn.getD m 0 = x at *
    generalize namedB p x [[116, 97, 98, 108, 101], [116, 98, 111, 100, 121], [116, 114]] = R at *
    have c2 := keep_cell (alB w (.cells #[.slice ia p.its.length ic, .slice (some ⟨bo, off, none⟩) p.opn.length oc, .slice fa p.fms.length fc, .int .i64 p.hd, .int .i64 p.bd] 30)) c1
    have gm : (m : Int) < (p.opn.length : Int) := by omega
    have g0 : (0 : Int) ≤ (m : Int) := Int.natCast_nonneg m
    replace g1 := g1.trans eg
    have Hm : Hid (p.opn.length = m + 1) := hm
    clear Hv hco hm eg h0 ho1 hz
    generalize p.its.length = N at *
    generalize p.opn.length = O at *
    generalize p.fms.length = F at *
    go_enter Try.func22, Try.ntmps22
    go_upto_region 2 with fail
    go_region_with (go_at_call 35; refine Calls.mono (HC.out _ (by first | exact Below.refl _ _ | exact (Below.refl _ _).drew | exact (Below.refl _ _).drew.drew | exact (Below.refl _ _).drew.drew.drew)) ?_; rintro e w' ⟨rfl, hb'⟩)
    all_goals (cases R <;> (go_wp2_with fail; go_ret; exact ⟨rfl, by first | exact hb' | exact hb'.drew | exact hb'.drew.drew⟩))

end Go.Proofs.Ytagbfmalaiaobaa.Sg
