/- Words and attributes that came in. -/
import Derived.Test.YtploagieecepfaaDoorLwTo2
import Derived.Test.YtploagieecepfaaDoorTnAttrs
import Derived.Deep.SlicePairs
import Derived.OpenShut
namespace Go.Proofs.YtploagieecepfaaDoor.Sg
open Go.ChangeShapes Go.WideShapes Go.ChangeAt Go.RowKit

set_option maxRecDepth 100000 in
theorem toks_came {H : Type} {enc : TypeId × Value → H} {W : World} {m : Nat} {rd : Nat → Bool} {sp : Bool} {a : Option Addr} {len cap : Nat} {d : DataW H} {p : List MemPlace}
    (h : DataW.Trod enc Tryd.prog W m rd sp 33 (.slice a len cap) d p) : ∃ l : List TokB, len = l.length ∧ ToksIn W a l ∧ ToksHeld l := by
  obtain ⟨fuel, hf⟩ := h
  rcases Deep.open_slice Tryd.underlying33 hf with ⟨hcs, _⟩ | ⟨x, l, c, mm, nn, D, Pl, hcs, _, hlc, hcm, hm, _, hx⟩
  · simp [Value.cells] at hcs
    obtain ⟨rfl, rfl, rfl⟩ := hcs
    exact ⟨[], rfl, .inl rfl, ⟨Nat.zero_le _, fun _ hp => absurd hp List.not_mem_nil⟩⟩
  · simp [Value.cells] at hcs
    obtain ⟨rfl, rfl, rfl⟩ := hcs
    have hlm : len ≤ mm := by rw [hm]; split <;> omega
    have ce : Tryd.prog.cellsOf 24 = 5 := by kernel_rfl
    have each : ∀ i, i < len → ∃ (kd : Int) (nm : ByteArray) (sv : Value) (at' : List AttrB) (tx : ByteArray) (sf : Bool), W.cell? (x.add (i * 5)) = some (.int .i64 kd) ∧ W.cell? (x.add (i * 5 + 1)) = some (.string nm) ∧ W.cell? (x.add (i * 5 + 2)) = some sv ∧ SlAttrsIn W sv at' ∧ W.cell? (x.add (i * 5 + 3)) = some (.string tx) ∧ W.cell? (x.add (i * 5 + 4)) = some (.bool sf) ∧ TokHeld (kd, nm, at', tx, sf) := by
      intro i hi
      obtain ⟨cs', h1, h2⟩ := hx i (by omega)
      rw [ce] at h1
      obtain ⟨_, hlen, hcell⟩ := World.cells?_some h1
      obtain ⟨xs, k, hk, _, _, hxl, hfl⟩ := DataW.trod_struct Tryd.underlying24 h2
      have k3 : Tryd.prog.cellsOf 3 = 1 := by kernel_rfl
      have k9 : Tryd.prog.cellsOf 9 = 1 := by kernel_rfl
      have ka : Tryd.prog.cellsOf 22 = 1 := by kernel_rfl
      have k4 : Tryd.prog.cellsOf 4 = 1 := by kernel_rfl
      match xs, hxl, cs', hlen with
      | [y0, y1, y2, y3, y4], _, [v0, v1, v2, v3, v4], _ =>
        have g0 := hfl 0 _ rfl
        have g1 := hfl 1 _ rfl
        have g2 := hfl 2 _ rfl
        have g3 := hfl 3 _ rfl
        have g4 := hfl 4 _ rfl
        simp [k3, k9, ka, k4] at g0 g1 g2 g3 g4
        obtain ⟨kd, e0, _, _⟩ := DataW.trod_int Tryd.underlying3 g0
        obtain ⟨nm, e1, _, m1⟩ := DataW.trod_string Tryd.underlying9 g1
        obtain ⟨at', S2, h2'⟩ := attrs_came g2
        obtain ⟨tx, e3, _, m3⟩ := DataW.trod_string Tryd.underlying9 g3
        obtain ⟨sf, e4, _⟩ := DataW.trod_bool Tryd.underlying4 g4
        have c0 := hcell 0 (by omega)
        have c1 := hcell 1 (by omega)
        have c2 := hcell 2 (by omega)
        have c3 := hcell 3 (by omega)
        have c4 := hcell 4 (by omega)
        rw [Deep.add_add] at c0 c1 c2 c3 c4
        have f0 : v0 = .int .i64 kd := by simpa using e0
        have f1 : v1 = .string nm := by simpa using e1
        have f3 : v3 = .string tx := by simpa using e3
        have f4 : v4 = .bool sf := by simpa using e4
        unfold maxLen at m1 m3
        refine ⟨kd, nm, v2, at', tx, sf, ?_, ?_, ?_, S2, ?_, ?_, ⟨m1, h2', m3⟩⟩
        · rw [← f0]; simpa using c0
        · rw [← f1]; simpa using c1
        · simpa using c2
        · rw [← f3]; simpa using c3
        · rw [← f4]; simpa using c4
    have pick : ∀ i, ∃ q : TokB × Value, i < len → W.cell? (x.add (i * 5)) = some (.int .i64 q.1.1) ∧ W.cell? (x.add (i * 5 + 1)) = some (.string q.1.2.1) ∧ W.cell? (x.add (i * 5 + 2)) = some q.2 ∧ SlAttrsIn W q.2 q.1.2.2.1 ∧ W.cell? (x.add (i * 5 + 3)) = some (.string q.1.2.2.2.1) ∧ W.cell? (x.add (i * 5 + 4)) = some (.bool q.1.2.2.2.2) ∧ TokHeld q.1 := fun i => by
      by_cases hi : i < len
      · obtain ⟨kd, nm, sv, at', tx, sf, h⟩ := each i hi
        exact ⟨((kd, nm, at', tx, sf), sv), fun _ => h⟩
      · exact ⟨(tok0, .slice none 0 0), fun h => absurd h hi⟩
    obtain ⟨q, hq⟩ := Classical.axiomOfChoice pick
    refine ⟨(List.range len).map fun i => (q i).1, by simp, ?_, ?_, ?_⟩
    · by_cases h0 : len = 0
      · subst h0
        exact .inl rfl
      · obtain ⟨b, off, spot⟩ := x
        obtain ⟨c0, _⟩ := hq 0 (by omega)
        have hspot : spot = none := by simpa [Addr.add] using World.cell?_spot c0
        subst hspot
        rw [add_plain] at c0
        refine .inr ⟨b, off, rfl, cell_block c0, fun k hk => ?_⟩
        have hk' : k < len := by simpa using hk
        obtain ⟨c0, c1, c2, hS, c3, c4, _⟩ := hq k hk'
        rw [add_plain] at c0 c1 c2 c3 c4
        have e : ((List.range len).map fun i => (q i).1)[k]'hk = (q k).1 := by simp
        rw [e]
        exact ⟨c0, by rw [Nat.add_assoc]; exact c1, ⟨_, by rw [Nat.add_assoc]; exact c2, hS⟩, by rw [Nat.add_assoc]; exact c3, by rw [Nat.add_assoc]; exact c4⟩
    · unfold maxLen at hcm
      simp
      omega
    · intro t ht
      obtain ⟨i, hi, rfl⟩ := List.mem_map.1 ht
      exact (hq i (List.mem_range.1 hi)).2.2.2.2.2.2

/-- A word that came in. -/
theorem tok_came {H : Type} {enc : TypeId × Value → H} {W : World} {m : Nat} {rd : Nat → Bool} {sp : Bool} {cs : Array Value} {d : DataW H} {p : List MemPlace} (hcs : cs.size = 5)
    (h : DataW.Trod enc Tryd.prog W m rd sp 24 (.agg cs) d p) : ∃ (kd : Int) (nm : ByteArray) (ats : List AttrB) (tx : ByteArray) (sf : Bool) (sv : Value), cs = #[.int .i64 kd, .string nm, sv, .string tx, .bool sf] ∧ SlAttrsIn W sv ats ∧ TokHeld (kd, nm, ats, tx, sf) := by
  obtain ⟨fuel, hf⟩ := h
  obtain ⟨xs, k, hk, _, _, hxl, hfl⟩ := DataW.trod_struct Tryd.underlying24 hf
  have k3 : Tryd.prog.cellsOf 3 = 1 := by kernel_rfl
  have k9 : Tryd.prog.cellsOf 9 = 1 := by kernel_rfl
  have ka : Tryd.prog.cellsOf 22 = 1 := by kernel_rfl
  have k4 : Tryd.prog.cellsOf 4 = 1 := by kernel_rfl
  obtain ⟨l⟩ := cs
  match xs, hxl, l, hcs with
  | [y0, y1, y2, y3, y4], _, [v0, v1, v2, v3, v4], _ =>
    have g0 := hfl 0 _ rfl
    have g1 := hfl 1 _ rfl
    have g2 := hfl 2 _ rfl
    have g3 := hfl 3 _ rfl
    have g4 := hfl 4 _ rfl
    simp [k3, k9, ka, k4, Value.cells] at g0 g1 g2 g3 g4
    obtain ⟨kd, e0, _, _⟩ := DataW.trod_int Tryd.underlying3 g0
    obtain ⟨nm, e1, _, m1⟩ := DataW.trod_string Tryd.underlying9 g1
    obtain ⟨ats, S2, h2⟩ := attrs_came g2
    obtain ⟨tx, e3, _, m3⟩ := DataW.trod_string Tryd.underlying9 g3
    obtain ⟨sf, e4, _⟩ := DataW.trod_bool Tryd.underlying4 g4
    have f0 : v0 = .int .i64 kd := by simpa using e0
    have f1 : v1 = .string nm := by simpa using e1
    have f3 : v3 = .string tx := by simpa using e3
    have f4 : v4 = .bool sf := by simpa using e4
    unfold maxLen at m1 m3
    subst f0 f1 f3 f4
    exact ⟨kd, nm, ats, tx, sf, v2, rfl, S2, ⟨m1, h2, m3⟩⟩

end Go.Proofs.YtploagieecepfaaDoor.Sg
