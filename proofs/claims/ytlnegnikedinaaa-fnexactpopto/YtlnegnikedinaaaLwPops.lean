/- The laws of PopTo, PopName, PageNew, out of the program's contract alone. -/
import Derived.Test.YtlnegnikedinaaaLwPgPopTo
import Derived.Test.YtlnegnikedinaaaLwPgNew
import Derived.Test.YtlnegnikedinaaaMDPopTo03
import Derived.Test.YtlnegnikedinaaaCpPop
namespace Go.Proofs.Ytlnegnikedinaaa.Sg
open Go.ChangeShapes Go.WideShapes Go.ChangeAt Go.RowKit

theorem popF_less : ∀ (n : Nat) (q : PgB), (popF n q).its = q.its ∧ (popF n q).opn.length ≤ q.opn.length ∧ (popF n q).fms.length ≤ q.fms.length
  | 0, _ => ⟨rfl, Nat.le_refl _, Nat.le_refl _⟩
  | n + 1, q => by
    obtain ⟨h1, h2, h3⟩ := popF_less n (popS q)
    have h4 := popS_opn q
    have h5 := popS_fms q
    exact ⟨h1, Nat.le_trans h2 (by omega), Nat.le_trans h3 h5⟩
theorem popTo_less (p : PgB) (k : Int) : (popTo p k).its = p.its ∧ (popTo p k).opn.length ≤ p.opn.length ∧ (popTo p k).fms.length ≤ p.fms.length := by
  unfold popTo
  split
  · exact ⟨rfl, Nat.le_refl _, Nat.le_refl _⟩
  · exact popF_less _ _
theorem popTo_light {p : PgB} (k : Int) (h : pgW p ≤ 1048576) : PgSize (popTo p k) ∧ PgLight (popTo p k) := by
  obtain ⟨h1, h2, h3⟩ := popTo_less p k
  obtain ⟨a1, a2, a3, a4⟩ := pg_light h
  obtain ⟨b1, b2, b3, b4, b5⟩ := pg_marks h
  exact ⟨⟨by rw [h1]; exact a1, by rw [h1]; exact a2, by omega, by omega⟩, ⟨by rw [h1]; exact b1, by rw [h1]; exact b2, by rw [h1]; exact b3, by omega, by omega⟩⟩

theorem lawPopTo1 (p : PgB) (v : Value) (k : Int) (w : World) (T : World → Prop) (hTb : ∀ w w' : World, T w → Below w.heap.size w w' → T w') (hT : T w) (h : PgIn w v p) (hh : PgHeld p)
    (hI : pgW p ≤ 1048576 → ∀ W x B, OwnPg W B x p → T W → Calls Try.prog 15 #[x, .int .i64 k] W fun e w' => ∃ x', e = .returned x' ∧ OwnPg w' W.heap.size x' (popTo p k) ∧ Below W.heap.size W w') :
    Calls Try.prog 4 #[v, .int .i64 k] w fun e w' => e = .returned (.bool true) ∧ Below w.heap.size w w' :=
  lawPopTo p (popTo p k) v k w T hTb hT h hh (popTo_light k) (fun hb W x B hx => by
    obtain ⟨a1, a2, a3, a4⟩ := pg_light hb
    obtain ⟨b1, _⟩ := pg_marks hb
    exact (specPopTo p k x B W hx (by omega) a2 a3 a4).mono fun e w' ⟨x', h1, h2, h3⟩ => ⟨x', h1, h2 w' (Kb.refl _ _), h3⟩) hI


theorem lawPageNew1 (w : World) (T : World → Prop) (hTb : ∀ w w' : World, T w → Below w.heap.size w w' → T w') (hT : T w)
    (hI : ∀ W, T W → Calls Try.prog 8 #[] W fun e w' => ∃ x', e = .returned x' ∧ OwnPg w' W.heap.size x' pgNew ∧ Below W.heap.size W w') :
    Calls Try.prog 3 #[] w fun e w' => e = .returned (.bool true) ∧ Below w.heap.size w w' :=
  lawPageNew w T hTb hT (fun W => (specPageNew W).mono fun _ _ ⟨x', h1, h2, h3⟩ => ⟨x', h1, pg_of_own h2, h3⟩) hI

end Go.Proofs.Ytlnegnikedinaaa.Sg
