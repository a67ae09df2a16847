/- Items that came in. -/
import Derived.Test.YtlnegnikedinaaaMDPopTo05
import Derived.Test.YtlnegnikedinaaaTnAttrs
namespace Go.Proofs.Ytlnegnikedinaaa.Sg
open Go.ChangeShapes Go.WideShapes Go.ChangeAt Go.RowKit

theorem ints_in {H : Type} {enc : TypeId × Value → H} {W : World} {base : Nat} {spare : Nat → Bool} {held : Bool} {fuel : Nat} {v : Value} {x : DataW H × List MemPlace}
    (h : DataW.trod enc Try.prog W base spare held fuel 23 [v] = some x) : ∃ zs : List Int, SlInts W v zs ∧ zs.length ≤ 9223372036854775807 := by
  rcases open_ints Try.underlying23 Try.underlying3 (by kernel_rfl) h with ⟨hcs, _⟩ | ⟨y, l, c, zs, hcs, _, hl, hm, hz, _, hcell, hwz⟩
  · obtain rfl : v = .slice none 0 0 := by simpa using hcs
    exact ⟨[], ⟨none, 0, rfl, .inl rfl⟩, Nat.zero_le _⟩
  · obtain rfl : v = .slice (some y) l c := by simpa using hcs
    unfold maxLen at hm
    have hzl : l ≤ zs.length := by split at hz <;> omega
    have hlen : (zs.take l).length = l := by simp; omega
    refine ⟨zs.take l, ⟨some y, c, by rw [hlen], ?_⟩, by rw [hlen]; omega⟩
    by_cases h0 : l = 0
    · subst h0
      exact .inl rfl
    · obtain ⟨b, off, spot⟩ := y
      have hc := hcell 0 (by omega)
      have hspot : spot = none := by simpa [Addr.add] using World.cell?_spot hc
      subst hspot
      refine .inr ⟨b, off, rfl, ?_, fun i hi => ?_⟩
      · rw [add_plain] at hc
        exact cell_block hc
      · have hi' : i < l := by rw [hlen] at hi; exact hi
        rw [← add_plain, hcell i (by omega)]
        simp [hi']

set_option maxRecDepth 100000 in
theorem its_came {H : Type} {enc : TypeId × Value → H} {W : World} {m : Nat} {rd : Nat → Bool} {sp : Bool} {a : Option Addr} {len cap : Nat} {d : DataW H} {p : List MemPlace}
    (h : DataW.Trod enc Try.prog W m rd sp 30 (.slice a len cap) d p) : ∃ l : List ItB, len = l.length ∧ ItsIn W a l ∧ ItsHeld l := by
  obtain ⟨fuel, hf⟩ := h
  rcases Deep.open_slice Try.underlying30 hf with ⟨hcs, _⟩ | ⟨x, l, c, mm, nn, D, Pl, hcs, _, hlc, hcm, hm, _, hx⟩
  · simp [Value.cells] at hcs
    obtain ⟨rfl, rfl, rfl⟩ := hcs
    exact ⟨[], rfl, .inl rfl, ⟨Nat.zero_le _, fun _ hp => absurd hp List.not_mem_nil⟩⟩
  · simp [Value.cells] at hcs
    obtain ⟨rfl, rfl, rfl⟩ := hcs
    have hlm : len ≤ mm := by rw [hm]; split <;> omega
    have ce : Try.prog.cellsOf 61 = 7 := by kernel_rfl
    have each : ∀ i, i < len → ∃ (p : ItB) (sv kv : Value), W.cell? (x.add (i * 7)) = some (.int .i64 p.kd) ∧ W.cell? (x.add (i * 7 + 1)) = some (.int .i64 p.sp) ∧ W.cell? (x.add (i * 7 + 2)) = some (.string p.nm) ∧ W.cell? (x.add (i * 7 + 3)) = some sv ∧ SlAttrsIn W sv p.ats ∧ W.cell? (x.add (i * 7 + 4)) = some (.string p.tx) ∧ W.cell? (x.add (i * 7 + 5)) = some (.int .i64 p.up) ∧ W.cell? (x.add (i * 7 + 6)) = some kv ∧ SlInts W kv p.kids ∧ ItHeld p := by
      intro i hi
      obtain ⟨cs', h1, h2⟩ := hx i (by omega)
      rw [ce] at h1
      obtain ⟨_, hlen, hcell⟩ := World.cells?_some h1
      obtain ⟨xs, k, hk, _, _, hxl, hfl⟩ := DataW.trod_struct Try.underlying61 h2
      have k3 : Try.prog.cellsOf 3 = 1 := by kernel_rfl
      have k9 : Try.prog.cellsOf 9 = 1 := by kernel_rfl
      have ka : Try.prog.cellsOf 59 = 1 := by kernel_rfl
      have ki : Try.prog.cellsOf 23 = 1 := by kernel_rfl
      match xs, hxl, cs', hlen with
      | [y0, y1, y2, y3, y4, y5, y6], _, [v0, v1, v2, v3, v4, v5, v6], _ =>
        have g0 := hfl 0 _ rfl
        have g1 := hfl 1 _ rfl
        have g2 := hfl 2 _ rfl
        have g3 := hfl 3 _ rfl
        have g4 := hfl 4 _ rfl
        have g5 := hfl 5 _ rfl
        have g6 := hfl 6 _ rfl
        simp [k3, k9, ka, ki] at g0 g1 g2 g3 g4 g5 g6
        obtain ⟨kd, e0, _, _⟩ := DataW.trod_int Try.underlying3 g0
        obtain ⟨sp, e1, _, _⟩ := DataW.trod_int Try.underlying3 g1
        obtain ⟨nm, e2, _, m2⟩ := DataW.trod_string Try.underlying9 g2
        obtain ⟨at', S3, h3'⟩ := attrs_came g3
        obtain ⟨tx, e4, _, m4⟩ := DataW.trod_string Try.underlying9 g4
        obtain ⟨up, e5, _, _⟩ := DataW.trod_int Try.underlying3 g5
        obtain ⟨kids, S6, h6'⟩ := ints_in g6
        have c0 := hcell 0 (by omega)
        have c1 := hcell 1 (by omega)
        have c2 := hcell 2 (by omega)
        have c3 := hcell 3 (by omega)
        have c4 := hcell 4 (by omega)
        have c5 := hcell 5 (by omega)
        have c6 := hcell 6 (by omega)
        rw [Deep.add_add] at c0 c1 c2 c3 c4 c5 c6
        have f0 : v0 = .int .i64 kd := by simpa using e0
        have f1 : v1 = .int .i64 sp := by simpa using e1
        have f2 : v2 = .string nm := by simpa using e2
        have f4 : v4 = .string tx := by simpa using e4
        have f5 : v5 = .int .i64 up := by simpa using e5
        unfold maxLen at m2 m4
        refine ⟨⟨kd, sp, nm, at', tx, up, kids⟩, v3, v6, ?_, ?_, ?_, ?_, S3, ?_, ?_, ?_, S6, ⟨m2, h3', m4, h6'⟩⟩
        · rw [← f0]; simpa using c0
        · rw [← f1]; simpa using c1
        · rw [← f2]; simpa using c2
        · simpa using c3
        · rw [← f4]; simpa using c4
        · rw [← f5]; simpa using c5
        · simpa using c6
    have pick : ∀ i, ∃ q : ItB × Value × Value, i < len → W.cell? (x.add (i * 7)) = some (.int .i64 q.1.kd) ∧ W.cell? (x.add (i * 7 + 1)) = some (.int .i64 q.1.sp) ∧ W.cell? (x.add (i * 7 + 2)) = some (.string q.1.nm) ∧ W.cell? (x.add (i * 7 + 3)) = some q.2.1 ∧ SlAttrsIn W q.2.1 q.1.ats ∧ W.cell? (x.add (i * 7 + 4)) = some (.string q.1.tx) ∧ W.cell? (x.add (i * 7 + 5)) = some (.int .i64 q.1.up) ∧ W.cell? (x.add (i * 7 + 6)) = some q.2.2 ∧ SlInts W q.2.2 q.1.kids ∧ ItHeld q.1 := fun i => by
      by_cases hi : i < len
      · obtain ⟨p, sv, kv, h⟩ := each i hi
        exact ⟨(p, sv, kv), fun _ => h⟩
      · exact ⟨(it0, .slice none 0 0, .slice none 0 0), fun h => absurd h hi⟩
    obtain ⟨q, hq⟩ := Classical.axiomOfChoice pick
    refine ⟨(List.range len).map fun i => (q i).1, by simp, ?_, ?_, ?_⟩
    · by_cases h0 : len = 0
      · subst h0
        exact .inl rfl
      · obtain ⟨b, off, spot⟩ := x
        obtain ⟨c0, _⟩ := hq 0 (by omega)
        have hspot : spot = none := by simpa [Addr.add] using World.cell?_spot c0
        subst hspot
        rw [add_plain] at c0
        refine .inr ⟨b, off, rfl, cell_block c0, fun k hk => ?_⟩
        have hk' : k < len := by simpa using hk
        obtain ⟨c0, c1, c2, c3, hS, c4, c5, c6, hI, _⟩ := hq k hk'
        rw [add_plain] at c0 c1 c2 c3 c4 c5 c6
        have e : ((List.range len).map fun i => (q i).1)[k]'hk = (q k).1 := by simp
        rw [e]
        exact ⟨c0, by rw [Nat.add_assoc]; exact c1, by rw [Nat.add_assoc]; exact c2, ⟨_, by rw [Nat.add_assoc]; exact c3, hS⟩, by rw [Nat.add_assoc]; exact c4, by rw [Nat.add_assoc]; exact c5, ⟨_, by rw [Nat.add_assoc]; exact c6, hI⟩⟩
    · unfold maxLen at hcm
      simp
      omega
    · intro t ht
      obtain ⟨i, hi, rfl⟩ := List.mem_map.1 ht
      exact (hq i (List.mem_range.1 hi)).2.2.2.2.2.2.2.2.2

end Go.Proofs.Ytlnegnikedinaaa.Sg
