/- Contracts of the model's l5Bare and l5Tagged. -/
import Derived.Test.YtfdigdemoeepoaaDoorSpSwap
import Derived.Test.YtfdigdemoeepoaaDoorSpP
import Derived.Deep.RegionLaw
import Derived.Deep.Cut
namespace Go.Proofs.YtfdigdemoeepoaaDoor.Sg
open Go.ChangeShapes Go.WideShapes Go.ChangeAt Go.RowKit

/-- One word of a slice of words. -/
theorem ToksAt.get {w : World} {a : Option Addr} {l : List TokB} (h : ToksAt w a l) (k : Nat) (hk : k < l.length) : ∃ b, a = some ⟨b, 0, none⟩ ∧ w.cell? ⟨b, k * 5, none⟩ = some (.int .i64 (l[k]'hk).1) ∧ w.cell? ⟨b, k * 5 + 1, none⟩ = some (.string (l[k]'hk).2.1) ∧ (∃ sv, w.cell? ⟨b, k * 5 + 2, none⟩ = some sv ∧ SlAttrs w sv (l[k]'hk).2.2.1) ∧ w.cell? ⟨b, k * 5 + 3, none⟩ = some (.string (l[k]'hk).2.2.2.1) ∧ w.cell? ⟨b, k * 5 + 4, none⟩ = some (.bool (l[k]'hk).2.2.2.2) := by
  rcases h with h | ⟨b, h1, _, h3⟩
  · rw [h] at hk
    exact absurd hk (Nat.not_lt_zero _)
  · exact ⟨b, h1, h3 k hk⟩

set_option maxHeartbeats 2000000 in
theorem specBare (l : List TokB) (a : Option Addr) (n cap k : Nat) (w : World) (ha : ToksAt w a l) (hl : l.length = n) (hk : k ≤ n) (hn : n ≤ 1099511627776) :
    Calls Tryd.prog 10 #[.slice a n cap, .int .i64 (k : Int)] w fun e w' => e = .returned (.bool (bareAt l k)) ∧ w' = w := by
  subst hl
  match k, hk with
  | 0, _ =>
    go_enter Tryd.func10, Tryd.ntmps10
    go_wp2
    go_ret
    exact ⟨rfl, rfl⟩
  | j + 1, hk =>
    have hj : j < l.length := hk
    obtain ⟨b, rfl, c0, c1, _, _, c4⟩ := ha.get j hj
    have e : bareAt l (j + 1) = bareT (l[j]'hj) := by simp [bareAt, hj]
    rw [e]
    generalize l[j]'hj = t at *
    obtain ⟨kd, nm, at', tx, sf⟩ := t
    have e2 : bareT (kd, nm, at', tx, sf) = (kd == 2 && (!sf && (nm.toList == [115, 99, 114, 105, 112, 116] || nm.toList == [115, 116, 121, 108, 101]))) := rfl
    rw [e2]
    clear e e2
    simp only at c0 c1 c4
    have q1 : (((j + 1 : Nat) : Int)) > 0 := by omega
    have q2 : IntKind.i64.wrap (((j + 1 : Nat) : Int) - 1) = (j : Int) := IntWalk.i64_in _ (by omega) |>.trans (by omega)
    have q3 : (0 : Int) ≤ (j : Int) := by omega
    have q4 : (j : Int) < (l.length : Int) := by omega
    go_enter Tryd.func10, Tryd.ntmps10
    cases h1 : kd == 2 <;> cases sf <;> cases h2 : nm.toList == [115, 99, 114, 105, 112, 116] <;> cases h3 : nm.toList == [115, 116, 121, 108, 101] <;> go_wp2 <;> go_ret <;> exact ⟨rfl, rfl⟩

end Go.Proofs.YtfdigdemoeepoaaDoor.Sg
