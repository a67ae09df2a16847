/- What stays while a law goes on. What stays while a law goes on, with some cells. What the laws over drawn bytes want: the bytes that came in; lists that are the same; whether too many bytes came. -/
import Derived.Test.YthikgkhnhbaccaaGreatDoorMP24
import Derived.Test.YthikgkhnhbaccaaGreatDoorGDraw
namespace Go.Proofs.YthikgkhnhbaccaaGreatDoor.Sg
open Go.ChangeShapes Go.WideShapes Go.ChangeAt Go.RowKit

/-- What stays while the law goes on: the bytes of the draw, and the tables. -/
def SKeep (T : World → Prop) (w : World) (a : Option Addr) (n : Nat) (w' : World) : Prop := Below w.heap.size w w' ∧ Code w'.heap.size w' a n ∧ T w'
theorem SKeep.step {T : World → Prop} {w : World} {a : Option Addr} {n : Nat} {w' w'' : World} (h : SKeep T w a n w') (keep : ∀ W W', T W → Below W.heap.size W W' → T W') (hb : Below w'.heap.size w' w'') : SKeep T w a n w'' :=
  ⟨h.1.trans (hb.mono h.1.size), (h.2.1.below hb).raise hb.size, keep _ _ h.2.2 hb⟩

end Go.Proofs.YthikgkhnhbaccaaGreatDoor.Sg

namespace Go.Proofs.YthikgkhnhbaccaaGreatDoor.Sg
open Go.ChangeShapes Go.WideShapes Go.ChangeAt Go.RowKit

/-- What stays: the bytes of the draw, the tables, some cells. -/
def CKeep (T : World → Prop) (w : World) (a : Option Addr) (n : Nat) (cs : List (Addr × Value)) (w' : World) : Prop := SKeep T w a n w' ∧ ∀ c ∈ cs, w'.cell? c.1 = some c.2 ∧ c.1.block < w'.heap.size
theorem CKeep.step {T : World → Prop} {w : World} {a : Option Addr} {n : Nat} {cs : List (Addr × Value)} {w' w'' : World} (h : CKeep T w a n cs w') (keep : ∀ W W', T W → Below W.heap.size W W' → T W') (hb : Below w'.heap.size w' w'') : CKeep T w a n cs w'' :=
  ⟨h.1.step keep hb, fun c hc => ⟨(hb.cell (h.2 c hc).2).trans (h.2 c hc).1, Nat.lt_of_lt_of_le (h.2 c hc).2 hb.size⟩⟩
/-- A box of two is laid. -/
theorem CKeep.box {T : World → Prop} {w : World} {a : Option Addr} {n : Nat} {cs : List (Addr × Value)} {w' : World} (h : CKeep T w a n cs w') (keep : ∀ W W', T W → Below W.heap.size W W' → T W') (x y : Value) (t : TypeId) :
    CKeep T w a n ((⟨w'.heap.size, 0, none⟩, x) :: (⟨w'.heap.size, 1, none⟩, y) :: cs) (w'.alloc (.cells #[x, y] t)) := by
  have h1 := h.step keep ((Below.refl _ _).alloc (Nat.le_refl _) (.cells #[x, y] t))
  refine ⟨h1.1, ?_⟩
  intro c hc
  rcases List.mem_cons.1 hc with rfl | hc
  · exact ⟨by simp, by simp⟩
  rcases List.mem_cons.1 hc with rfl | hc
  · exact ⟨by simp, by simp⟩
  · exact h1.2 c hc

end Go.Proofs.YthikgkhnhbaccaaGreatDoor.Sg

namespace Go.Proofs.YthikgkhnhbaccaaGreatDoor.Sg
open Go.ChangeShapes Go.WideShapes Go.ChangeAt Go.RowKit

/-- The bytes of a draw that came in. -/
theorem code_came {H : Type} {enc : TypeId × Value → H} {W : World} {m : Nat} {rd : Nat → Bool} {sp : Bool} {a : Option Addr} {len cap : Nat} {d : DataW H} {p : List MemPlace}
    (h : DataW.Trod enc Tryz.prog W m rd sp 22 (.slice a len cap) d p) : Code W.heap.size W a len ∧ len ≤ 9223372036854775807 := by
  obtain ⟨fuel, hf⟩ := h
  rcases open_ints Tryz.underlying22 Tryz.underlying5 (by kernel_rfl) hf with ⟨hcs, _⟩ | ⟨x, l, c, zs, hcs, _, hl, hm, hz, _, hcell, hwz⟩
  · simp [Value.cells] at hcs
    obtain ⟨rfl, rfl, rfl⟩ := hcs
    exact ⟨.inl rfl, Nat.zero_le _⟩
  · simp [Value.cells] at hcs
    obtain ⟨rfl, rfl, rfl⟩ := hcs
    unfold maxLen at hm
    have hzl : len ≤ zs.length := by split at hz <;> omega
    refine ⟨?_, by omega⟩
    by_cases h0 : len = 0
    · exact .inl h0
    · obtain ⟨b, off, spot⟩ := x
      have hc := hcell 0 (by omega)
      have hspot : spot = none := by simpa [Addr.add] using World.cell?_spot hc
      subst hspot
      have hadd : ∀ i, (⟨b, off, none⟩ : Addr).add i = ⟨b, off + i, none⟩ := fun i => by unfold Addr.add; split <;> simp_all
      have hb : b < W.heap.size := by
        rw [hadd] at hc
        rcases Nat.lt_or_ge b W.heap.size with h | h
        · exact h
        · simp [World.cell?, Array.getElem?_eq_none h] at hc
      refine .inr ⟨b, off, rfl, hb, hb, fun i hi => ?_⟩
      have hx : zs.getD i 0 ∈ zs := by
        rw [List.getD_eq_getElem?_getD, List.getElem?_eq_getElem (by omega)]
        exact List.getElem_mem _
      have hw := bounds_u8 (hwz _ hx)
      refine ⟨(zs.getD i 0).toNat, by omega, ?_⟩
      rw [← hadd, hcell i (by omega), Int.toNat_of_nonneg (by omega)]


set_option maxHeartbeats 1000000 in
theorem big_any (a : Option Addr) (n cap : Nat) (w : World) :
    Calls Tryz.prog 4 #[.slice a n cap] w fun e w' => e = .returned (.bool (decide ((1048576 : Int) < (n : Int)))) ∧ w' = w := by
  go_enter Tryz.func4, Tryz.ntmps4
  go_wp2
  go_ret
  exact ⟨rfl, rfl⟩

end Go.Proofs.YthikgkhnhbaccaaGreatDoor.Sg
