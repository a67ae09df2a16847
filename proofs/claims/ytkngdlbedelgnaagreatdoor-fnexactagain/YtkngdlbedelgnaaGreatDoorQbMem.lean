/- Elements all of whose lists lie ahead of a block. (Out of SmEl.) -/
import Derived.Test.YtkngdlbedelgnaaGreatDoorRwRows
namespace Go.Proofs.YtkngdlbedelgnaaGreatDoor.Sg
open Go.ChangeShapes Go.WideShapes Go.ChangeAt Go.RowKit Go.Shelf

/-- Attributes in blocks ahead of one. -/
def QB (n : Nat) (w : World) (v : Value) (l : List AttrB) : Prop := QA 0 w v l ∧ ∀ b o m k c, v = .slice (some ⟨b, o, m⟩) k c → b < n
theorem QB.slice {n : Nat} {w : World} {v : Value} {l : List AttrB} (h : QB n w v l) : ∃ a c, v = .slice a l.length c := by
  obtain ⟨⟨x, c, e, _⟩, _⟩ := h
  exact ⟨x, c, e⟩
theorem QB.liesP (n : Nat) : LiesP (QB n) (· < n) := ⟨fun {w w' v l} h hb hs => by
  obtain ⟨⟨x, c, rfl, h1, h2, h3, h6⟩, h7⟩ := h
  refine ⟨⟨x, c, rfl, h1, fun b o m h => Nat.lt_of_lt_of_le (h2 b o m h) hs, ?_, h6⟩, h7⟩
  rcases h3 with h3 | ⟨b', e', h4, h5⟩
  · exact .inl h3
  · subst e'
    have hc := hb b' (h7 _ _ _ _ _ rfl)
    exact .inr ⟨b', rfl, Nat.lt_of_lt_of_le h4 hs, fun k hk => ⟨(cell_agree hc).trans (h5 k hk).1, (cell_agree hc).trans (h5 k hk).2⟩⟩⟩
theorem elV_first {lo : Nat} {w : World} {v : Value} {e : ElB} (h : ElV (QA lo) (lo ≤ ·) w v e) : ElV (QB w.heap.size) (· < w.heap.size) w v e :=
  h.lts.wider (fun v l h => by
    obtain ⟨x, c, rfl, h1, h2, h3⟩ := h
    exact ⟨⟨x, c, rfl, fun _ _ _ _ => Nat.zero_le _, h2, h3⟩, fun b o m k c e => by cases e; exact h2 b o m rfl⟩) (fun b hb => hb.2)
theorem ElV.widen {n n' : Nat} {w : World} {v : Value} {e : ElB} (h : ElV (QB n) (· < n) w v e) (hn : n ≤ n') : ElV (QB n') (· < n') w v e :=
  h.wider (fun _ _ h => ⟨h.1, fun b o m k c e => Nat.lt_of_lt_of_le (h.2 b o m k c e) hn⟩) (fun _ hb => Nat.lt_of_lt_of_le hb hn)
/-- One element in a slice of its own. -/
theorem kids_oneB {n : Nat} {W : World} {z : ElB} {v : Value} {b : Nat} (hV : ElV (QB n) (· < n) W v z) (hb : b < n) (hc : ∃ v0 v1 v2 v3 v4 v5, v = .agg #[v0, v1, v2, v3, v4, v5] ∧ W.heap[b]? = some (.cells #[v0, v1, v2, v3, v4, v5] 39 (0, 0))) : KidsIn (QB n) (· < n) W (some ⟨b, 0, none⟩) [z] := by
  obtain ⟨v0, v1, v2, v3, v4, v5, rfl, hh⟩ := hc
  refine .inr ⟨b, 0, rfl, hb, ?_⟩
  unfold ElsIn
  refine ⟨hV.cells ?_ ?_ ?_ ?_ ?_ ?_, by unfold ElsIn; trivial⟩ <;> simp [World.cell?, hh]

end Go.Proofs.YtkngdlbedelgnaaGreatDoor.Sg
