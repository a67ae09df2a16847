/- Contracts of maps.Values at a map from texts to places, and of what it hands back. -/
import Derived.Test.YtdpjmngodbgacaaGreatDoorM10
import Derived.Test.YtdpjmngodbgacaaGreatDoorShelf3
import Derived.Test.YtdpjmngodbgacaaGreatDoorSgOk
namespace Go.Proofs.YtdpjmngodbgacaaGreatDoor.Sg
open Go.ChangeShapes Go.WideShapes Go.ChangeAt Go.RowKit Go.Maps Go.Sort Go.Shelf

theorem keyS : Keyed Tryz.prog 9 := string_keyed Tryz.underlying9
/-- Such a map in memory. -/
abbrev OwnF (w : World) (b n : Nat) (D : DataW Unit) : Prop := w.ownsMap Tryz.prog 9 (plainElem Tryz.prog 3) b n D
theorem OwnF.below {w w' : World} {b n : Nat} {D : DataW Unit} (h : OwnF w b n D) {B : Nat} (hB : b < B) (hb : Below B w w') : OwnF w' b n D := by
  obtain ⟨es, clock, h1, h2⟩ := h
  exact ⟨es, clock, (hb.block b hB).trans h1, h2⟩

set_option maxRecDepth 100000 in
set_option maxHeartbeats 1000000 in
theorem values1_in (l Bm b nn : Nat) (D0 : DataW Unit) (g : List UInt8 → Option Nat) (hF : Firsts D0 g) (J : List Int → World → Prop)
    (hY : ∀ pre x W, J pre W → pre.length < Maps.size D0 → YieldAt Fence.wide 1 Tryz.prog l #[encZ x] W fun e W' => e = .returned (.bool true) ∧ J (pre ++ [x]) W' ∧ KeepsWalks W W')
    (W : World) (hJ : AbidesFrom W.heap.size J) (hm : W.cell? ⟨Bm, 0, none⟩ = some (.map (some b))) (hown : OwnF W b nn D0) (h0 : J [] W) :
    CallsIn Fence.wide 2 Tryz.prog 32 #[.func (.yield l) #[] #[], .pointer (some ⟨Bm, 0, none⟩)] W fun e W' => (∃ v, e = .returned v) ∧ ∃ ss : List Int, GivesV g ss ∧ J ss W' := by
  refine callsIn_of_wp Tryz.func32 rfl trivial ?_ rfl
  simp only [Tryz.ntmps32, List.size_toArray, List.length_cons, List.length_nil, Nat.reduceAdd, Nat.reduceSub, Array.replicate_succ, Array.replicate_zero, List.push_toArray, List.append_toArray, List.nil_append, List.cons_append]
  gi_wp2_with (first
    | (gi_at_range; refine wpListIn_range_own _ rfl _ 37 rfl 9 3 keyS Tryz.underlying37 _ b nn _ rfl hown ?_; intro w0 hrg0 hg0 hs0)
    | gi_in)
  go_frame
  gi_loopw [4] (fun _ wr => ∃ (left : Lit → Bool) (cnt : Nat) (ss : List Int), wr.ranges Tryz.prog 9 (plainElem Tryz.prog 3) b W.heap.size nn D0 left cnt ∧ ss.length + cnt ≤ Maps.size D0 ∧ CollV D0 g left ss ∧ J ss wr)
    (fun _ wr => wr.rangeLeft b W.heap.size)
  case atStart =>
    exact ⟨_, _, [], hrg0, by simp, CollV.start D0 g, hJ [] W w0 none h0 hg0 (fun r e => by cases e)⟩
  case round =>
    obtain ⟨left, cnt, ss, hrg, hcs, hC, hJs⟩ := hrel
    gi_wp2_with (first
      | (gi_at_next; refine wpListIn_next_ranges _ rfl _ rfl 9 keyS (plainElem Tryz.prog 3) encStr encZ (fun key kl hk => by obtain ⟨x, hx, _⟩ := Maps.keyOf_str Tryz.underlying9 hk; exact ⟨x, hx⟩) (fun v y hy => by obtain ⟨a, e, _⟩ := plainElem_int_inv Tryz.underlying3 hy; exact ⟨a, e⟩) b W.heap.size nn _ _ _ rfl hrg ?_ ?_)
      | gi_in)
    · intro hc0 hl0
      gi_wp2
      go_end0
      exact ⟨⟨_, rfl⟩, ss, hC.gives hF hl0, hJs⟩
    · intro x c kl yd yp w2 cnt2 hkey hlk hv hat hrg2 hlt hg2 hs2 hen
      obtain ⟨x', ex, rfl, _⟩ := Maps.keyOf_str Tryz.underlying9 hkey
      obtain rfl : x = x' := encStr_inj ex
      obtain ⟨c', ec, ey, _⟩ := plainElem_int_inv Tryz.underlying3 hv
      have ec2 : c = c' := encZ_inj ec
      subst ec2
      have hat2 : ∀ zd, D0.atKey (.string x) zd = .lit (.int .i64 c) := fun zd => by
        have h1 := hat zd
        rw [h1]
        exact congrArg Prod.fst ey
      have hJ2 : J ss w2 := hJ ss wr w2 (some W.heap.size) hJs hg2 (fun r e => by cases e; exact ⟨Nat.le_refl _, hrg.iter_walk⟩)
      obtain ⟨fn, tmps, assign, body, hy, hR⟩ := hY ss c w2 hJ2 (by omega)
      clear hs2 hv ey hat
      gi_wp2
      refine hR.mono ?_
      rintro e W3 ⟨rfl, hJ3, hk3⟩
      gi_wp2
      have hrg3 := hrg2.of_walks hk3
      go_roundw
      case rel => exact ⟨_, cnt2, ss ++ [c], hrg3, by simp; omega, hC.step hF hlk hat2, hJ3⟩
      case measure => rw [hrg3.left_eq, hrg.left_eq]; exact hlt

/-- What maps.Values hands back gives each place once, in some order. -/
theorem values_gives (Bm b nn : Nat) (D0 : DataW Unit) (g : List UInt8 → Option Nat) (hF : Firsts D0 g) (w : World) (hBm : Bm < w.heap.size) (hm : w.cell? ⟨Bm, 0, none⟩ = some (.map (some b))) (hown : OwnF w b nn D0) :
    SeqGives Fence.wide 2 Tryz.prog 32 #[.pointer (some ⟨Bm, 0, none⟩)] encZ (GivesV g) (Maps.size D0) w := fun l J W hW hJ hY h0 =>
  values1_in l Bm b nn D0 g hF J hY W hJ ((hW.cell (p := ⟨Bm, 0, none⟩) hBm).trans hm) (hown.below hown.lt hW) h0

set_option maxHeartbeats 1000000 in
theorem values_calls (mb : Option Nat) (w : World) :
    Calls Tryz.prog 18 #[.map mb] w fun e w' => e = .returned (.func (.func 32) #[] #[.pointer (some ⟨w.heap.size, 0, none⟩)]) ∧ w' = w.alloc (.cells #[.map mb] 37) := by
  go_enter Tryz.func18, Tryz.ntmps18
  go_wp2_with fail
  go_ret
  exact ⟨rfl, rfl⟩

end Go.Proofs.YtdpjmngodbgacaaGreatDoor.Sg
