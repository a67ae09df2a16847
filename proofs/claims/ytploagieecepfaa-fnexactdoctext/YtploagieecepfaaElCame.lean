/- Elements that came in. -/
import Derived.Test.YtploagieecepfaaElMem
import Derived.Test.YtploagieecepfaaTnAttrs
namespace Go.Proofs.Ytploagieecepfaa.Sg
open Go.ChangeShapes Go.WideShapes Go.ChangeAt Go.RowKit

theorem lies_in : Lies SlAttrsIn := ⟨fun h hb => h.keep hb, fun ⟨a, c, e, _⟩ => ⟨a, c, e⟩⟩
/-- A slice of elements. -/
def SlEls (W : World) (v : Value) (l : List ElB) : Prop := ∃ ka kc, v = .slice ka l.length kc ∧ KidsIn SlAttrsIn anyB W ka l
def el0 : ElB := .mk 0 0 ⟨#[]⟩ [] ⟨#[]⟩ []

set_option maxRecDepth 100000 in
/-- One that came in, where all slices that are less far in are known. -/
theorem el_opened {H : Type} {enc : TypeId × Value → H} {W : World} {base : Nat} {spare : Nat → Bool} {held : Bool} {n : Nat} {cs : List Value} {x : DataW H × List MemPlace}
    (ih : ∀ m, m < n → ∀ (v : Value) (y : DataW H × List MemPlace), DataW.trod enc Try.prog W base spare held m 22 [v] = some y → ∃ l : List ElB, SlEls W v l ∧ l.length ≤ 9223372036854775807 ∧ ElsHeld l)
    (h : DataW.trod enc Try.prog W base spare held n 32 cs = some x) :
    ∃ (kd sp : Int) (nm tx : ByteArray) (ats : List AttrB) (ks : List ElB) (v3 v5 : Value), cs = [.int .i64 kd, .int .i64 sp, .string nm, v3, .string tx, v5] ∧ SlAttrsIn W v3 ats ∧ SlEls W v5 ks ∧ ElHeld (.mk kd sp nm ats tx ks) := by
  obtain ⟨xs, k, hk, _, hlen, hxl, hfl⟩ := DataW.trod_struct Try.underlying32 h
  have ce : Try.prog.cellsOf 32 = 6 := by kernel_rfl
  have k3 : Try.prog.cellsOf 3 = 1 := by kernel_rfl
  have k9 : Try.prog.cellsOf 9 = 1 := by kernel_rfl
  have ka : Try.prog.cellsOf 30 = 1 := by kernel_rfl
  have ki : Try.prog.cellsOf 22 = 1 := by kernel_rfl
  rw [ce] at hlen
  match xs, hxl, cs, hlen with
  | [y0, y1, y2, y3, y4, y5], _, [v0, v1, v2, v3, v4, v5], _ =>
    have g0 := hfl 0 _ rfl
    have g1 := hfl 1 _ rfl
    have g2 := hfl 2 _ rfl
    have g3 := hfl 3 _ rfl
    have g4 := hfl 4 _ rfl
    have g5 := hfl 5 _ rfl
    simp [k3, k9, ka, ki] at g0 g1 g2 g3 g4 g5
    obtain ⟨kd, e0, _, _⟩ := DataW.trod_int Try.underlying3 g0
    obtain ⟨sp, e1, _, _⟩ := DataW.trod_int Try.underlying3 g1
    obtain ⟨nm, e2, _, m2⟩ := DataW.trod_string Try.underlying9 g2
    obtain ⟨ats, S3, h3⟩ := attrs_came g3
    obtain ⟨tx, e4, _, m4⟩ := DataW.trod_string Try.underlying9 g4
    obtain ⟨ks, S5, l5, h5⟩ := ih k (by omega) _ _ g5
    have f0 : v0 = .int .i64 kd := by simpa using e0
    have f1 : v1 = .int .i64 sp := by simpa using e1
    have f2 : v2 = .string nm := by simpa using e2
    have f4 : v4 = .string tx := by simpa using e4
    unfold maxLen at m2 m4
    subst f0 f1 f2 f4
    refine ⟨kd, sp, nm, tx, ats, ks, v3, v5, rfl, S3, S5, ?_⟩
    unfold ElHeld
    exact ⟨m2, h3, m4, l5, h5⟩

theorem els_came {H : Type} {enc : TypeId × Value → H} {W : World} {base : Nat} {spare : Nat → Bool} {held : Bool} : ∀ (n : Nat) (v : Value) (y : DataW H × List MemPlace), DataW.trod enc Try.prog W base spare held n 22 [v] = some y → ∃ l : List ElB, SlEls W v l ∧ l.length ≤ 9223372036854775807 ∧ ElsHeld l := by
  intro n
  induction n using Nat.strongRecOn with
  | ind n ih =>
    intro v y h
    rcases DataW.trod_slice Try.underlying22 h with ⟨hv, _⟩ | ⟨a, len, cap, elems, rest, m, hm, hv, _, _, hlc, hcm, hel, hx, _, _⟩
    · obtain rfl : v = .slice none 0 0 := by simpa using hv
      exact ⟨[], ⟨none, 0, rfl, .inl rfl⟩, Nat.zero_le _, by unfold ElsHeld; trivial⟩
    · obtain rfl : v = .slice (some a) len cap := by simpa using hv
      have ce : Try.prog.cellsOf 32 = 6 := by kernel_rfl
      have each : ∀ i, i < len → ∃ (e : ElB) (cs : List Value), W.cells? base (a.add (i * 6)) 6 = some cs ∧ (∃ (kd sp : Int) (nm tx : ByteArray) (ats : List AttrB) (ks : List ElB) (v3 v5 : Value), e = .mk kd sp nm ats tx ks ∧ cs = [.int .i64 kd, .int .i64 sp, .string nm, v3, .string tx, v5] ∧ SlAttrsIn W v3 ats ∧ SlEls W v5 ks) ∧ ElHeld e := by
        intro i hi
        have h1 := hx i hi
        rw [ce, List.getElem?_eq_getElem (by omega), Option.bind_eq_some_iff] at h1
        obtain ⟨cs, h2, h3⟩ := h1
        obtain ⟨kd, sp, nm, tx, ats, ks, v3, v5, e1, e2, e3, e4⟩ := el_opened (fun k hk => ih k (by omega)) h3
        exact ⟨.mk kd sp nm ats tx ks, cs, h2, ⟨kd, sp, nm, tx, ats, ks, v3, v5, rfl, e1, e2, e3⟩, e4⟩
      have pick : ∀ i, ∃ e : ElB, i < len → ∃ cs : List Value, W.cells? base (a.add (i * 6)) 6 = some cs ∧ (∃ (kd sp : Int) (nm tx : ByteArray) (ats : List AttrB) (ks : List ElB) (v3 v5 : Value), e = .mk kd sp nm ats tx ks ∧ cs = [.int .i64 kd, .int .i64 sp, .string nm, v3, .string tx, v5] ∧ SlAttrsIn W v3 ats ∧ SlEls W v5 ks) ∧ ElHeld e := fun i => by
        by_cases hi : i < len
        · obtain ⟨e, cs, h1, h2, h3⟩ := each i hi
          exact ⟨e, fun _ => ⟨cs, h1, h2, h3⟩⟩
        · exact ⟨el0, fun h => absurd h hi⟩
      obtain ⟨q, hq⟩ := Classical.axiomOfChoice pick
      refine ⟨(List.range len).map q, ⟨some a, cap, by simp, ?_⟩, ?_, ?_⟩
      · by_cases h0 : len = 0
        · exact .inl (by simp [h0])
        · obtain ⟨b, off, spot⟩ := a
          obtain ⟨cs0, h1, ⟨kd, sp, nm, tx, ats, ks, v3, v5, _, e1, _⟩, _⟩ := hq 0 (by omega)
          obtain ⟨_, _, hc0⟩ := World.cells?_some h1
          have c0 := hc0 0 (by omega)
          rw [e1] at c0
          have hspot : spot = none := by simpa [Addr.add] using World.cell?_spot c0
          subst hspot
          refine .inr ⟨b, off, rfl, trivial, ElsIn.of fun k hk => ?_⟩
          have hk' : k < len := by simpa using hk
          have e : ((List.range len).map q)[k]'hk = q k := by simp
          rw [e]
          obtain ⟨cs, h1, ⟨kd, sp, nm, tx, ats, ks, v3, v5, eq, ec, S3, ⟨ka, kc, e5, S5⟩⟩, _⟩ := hq k hk'
          obtain ⟨_, _, hc⟩ := World.cells?_some h1
          rw [eq]
          subst ec e5
          have c0 := hc 0 (by omega)
          have c1 := hc 1 (by omega)
          have c2 := hc 2 (by omega)
          have c3 := hc 3 (by omega)
          have c4 := hc 4 (by omega)
          have c5 := hc 5 (by omega)
          rw [Deep.add_add, add_plain] at c0 c1 c2 c3 c4 c5
          unfold ElIn
          refine ⟨by simpa using c0, by rw [Nat.add_assoc]; simpa using c1, by rw [Nat.add_assoc]; simpa using c2, ⟨v3, by rw [Nat.add_assoc]; simpa using c3, S3⟩, by rw [Nat.add_assoc]; simpa using c4, ka, kc, by rw [Nat.add_assoc]; simpa using c5, S5⟩
      · unfold maxLen at hcm
        simp
        omega
      · refine ElsHeld.of fun e he => ?_
        obtain ⟨i, hi, rfl⟩ := List.mem_map.1 he
        obtain ⟨_, _, _, h⟩ := hq i (List.mem_range.1 hi)
        exact h

/-- An element that came in. -/
theorem el_came {H : Type} {enc : TypeId × Value → H} {W : World} {m : Nat} {rd : Nat → Bool} {sp : Bool} {cs : Array Value} {d : DataW H} {p : List MemPlace} (_hcs : cs.size = 6)
    (h : DataW.Trod enc Try.prog W m rd sp 32 (.agg cs) d p) : ∃ e : ElB, ElV SlAttrsIn anyB W (.agg cs) e ∧ ElHeld e := by
  obtain ⟨fuel, hf⟩ := h
  obtain ⟨kd, sp', nm, tx, ats, ks, v3, v5, e1, S3, ⟨ka, kc, rfl, S5⟩, hh⟩ := el_opened (fun k _ => els_came k) hf
  have e2 : cs = #[.int .i64 kd, .int .i64 sp', .string nm, v3, .string tx, .slice ka ks.length kc] := by
    apply Array.toList_inj.1
    simpa [Value.cells] using e1
  subst e2
  exact ⟨.mk kd sp' nm ats tx ks, ⟨v3, ka, kc, rfl, S3, S5⟩, hh⟩
/-- Elements that came in. -/
theorem els_came_in {H : Type} {enc : TypeId × Value → H} {W : World} {m : Nat} {rd : Nat → Bool} {sp : Bool} {a : Option Addr} {len cap : Nat} {d : DataW H} {p : List MemPlace}
    (h : DataW.Trod enc Try.prog W m rd sp 22 (.slice a len cap) d p) : ∃ l : List ElB, len = l.length ∧ KidsIn SlAttrsIn anyB W a l ∧ l.length ≤ 9223372036854775807 ∧ ElsHeld l := by
  obtain ⟨fuel, hf⟩ := h
  obtain ⟨l, ⟨ka, kc, e, hk⟩, h1, h2⟩ := els_came fuel (.slice a len cap) _ (by simpa [Value.cells] using hf)
  cases e
  exact ⟨l, rfl, hk, h1, h2⟩

end Go.Proofs.Ytploagieecepfaa.Sg
