/- Attributes that came in. -/
import Derived.Test.YtploagieecepfaaLwToA
import Derived.Deep.SlicePairs
import Derived.OpenShut
namespace Go.Proofs.Ytploagieecepfaa.Sg
open Go.ChangeShapes Go.WideShapes Go.ChangeAt Go.RowKit

def strOf : Value → ByteArray
  | .string s => s
  | _ => ⟨#[]⟩
theorem add_plain (b off i : Nat) : (⟨b, off, none⟩ : Addr).add i = ⟨b, off + i, none⟩ := by unfold Addr.add; split <;> simp_all
theorem cell_block {w : World} {b i : Nat} {v : Value} (h : w.cell? ⟨b, i, none⟩ = some v) : b < w.heap.size := by
  rcases Nat.lt_or_ge b w.heap.size with g | g
  · exact g
  · simp [World.cell?, Array.getElem?_eq_none g] at h

theorem attrs_came {H : Type} {enc : TypeId × Value → H} {W : World} {base : Nat} {spare : Nat → Bool} {held : Bool} {fuel : Nat} {v : Value} {x : DataW H × List MemPlace}
    (h : DataW.trod enc Try.prog W base spare held fuel 30 [v] = some x) : ∃ l : List AttrB, SlAttrsIn W v l ∧ AttrsHeld l := by
  rcases Deep.open_slice_pairs Try.underlying30 Try.underlying73 (by kernel_rfl) rfl rfl (by kernel_rfl) (by kernel_rfl) h with ⟨hv, _⟩ | ⟨a, len, cap, m, n, V0, V1, D0, D1, P0, P1, hv, _, hlc, hcm, hm, _, hx⟩
  · obtain rfl : v = .slice none 0 0 := by simpa using hv
    exact ⟨[], ⟨none, 0, rfl, .inl rfl⟩, ⟨Nat.zero_le _, fun _ hp => absurd hp List.not_mem_nil⟩⟩
  · obtain rfl : v = .slice (some a) len cap := by simpa using hv
    have hlm : len ≤ m := by rw [hm]; split <;> omega
    have hs : ∀ i, i < len → ∃ s0 s1 : ByteArray, V0 i = .string s0 ∧ V1 i = .string s1 ∧ s0.size ≤ maxLen ∧ s1.size ≤ maxLen := fun i hi => by
      obtain ⟨_, _, t0, t1⟩ := hx i (by omega)
      obtain ⟨s0, e0, _, m0⟩ := DataW.trod_string Try.underlying9 t0
      obtain ⟨s1, e1, _, m1⟩ := DataW.trod_string Try.underlying9 t1
      exact ⟨s0, s1, by simpa using e0, by simpa using e1, m0, m1⟩
    refine ⟨(List.range len).map fun i => (strOf (V0 i), strOf (V1 i)), ⟨some a, cap, by simp, ?_⟩, ?_, ?_⟩
    · by_cases h0 : len = 0
      · subst h0
        exact .inl rfl
      · obtain ⟨b, off, spot⟩ := a
        obtain ⟨c0, _, _, _⟩ := hx 0 (by omega)
        have hspot : spot = none := by simpa [Addr.add] using World.cell?_spot c0
        subst hspot
        rw [add_plain] at c0
        refine .inr ⟨b, off, rfl, cell_block c0, fun k hk => ?_⟩
        have hk' : k < len := by simpa using hk
        obtain ⟨c1, c2, _, _⟩ := hx k (by omega)
        obtain ⟨s0, s1, e0, e1, _, _⟩ := hs k hk'
        rw [add_plain] at c1 c2
        rw [e0] at c1
        rw [e1] at c2
        refine ⟨?_, ?_⟩
        · rw [c1]
          simp [e0, strOf]
        · rw [show off + k * 2 + 1 = off + (k * 2 + 1) by omega, c2]
          simp [e1, strOf]
    · unfold maxLen at hcm
      simp
      omega
    · intro p hp
      obtain ⟨i, hi, rfl⟩ := List.mem_map.1 hp
      obtain ⟨s0, s1, e0, e1, m0, m1⟩ := hs i (List.mem_range.1 hi)
      unfold maxLen at m0 m1
      rw [e0, e1]
      exact ⟨m0, m1⟩

/-- Attributes that came in as an argument. -/
theorem attrs_came_in {H : Type} {enc : TypeId × Value → H} {W : World} {m : Nat} {rd : Nat → Bool} {sp : Bool} {a : Option Addr} {len cap : Nat} {d : DataW H} {p : List MemPlace}
    (h : DataW.Trod enc Try.prog W m rd sp 30 (.slice a len cap) d p) : ∃ l : List AttrB, len = l.length ∧ AttrsIn W a l ∧ AttrsHeld l := by
  obtain ⟨fuel, hf⟩ := h
  obtain ⟨l, ⟨a', c', e, h1⟩, h2⟩ := attrs_came (v := .slice a len cap) (by simpa [Value.cells] using hf)
  cases e
  exact ⟨l, rfl, h1, h2⟩

end Go.Proofs.Ytploagieecepfaa.Sg
