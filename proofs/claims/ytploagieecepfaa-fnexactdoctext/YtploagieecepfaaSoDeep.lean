/- The blanks ahead of a line; an element's line, put together. -/
import Derived.Test.YtploagieecepfaaSoEnd
import Derived.Test.YtploagieecepfaaShelf2
import Derived.Test.YtploagieecepfaaShDoc
namespace Go.Proofs.Ytploagieecepfaa.Sg
open Go.ChangeShapes Go.WideShapes Go.ChangeAt Go.RowKit

theorem rep_blank : ∀ d : Nat, Lib.repeatL [32] d = List.replicate d 32
  | 0 => rfl
  | d + 1 => by rw [Lib.repeatL, rep_blank d, List.replicate_succ]; rfl
theorem blank_rep (d : Nat) : (⟨(Lib.repeatL (⟨#[32]⟩ : ByteArray).data.toList d).toArray⟩ : ByteArray) = blankS d := by
  rw [show (⟨#[32]⟩ : ByteArray).data.toList = [32] from rfl, rep_blank]
  rfl

set_option maxHeartbeats 4000000 in
theorem implPutDeep (B b : Nat) (acc : List UInt8) (l0 l1 l2 l3 l4 l5 : ByteArray) (d : Nat) (w : World) (h : ShB B b acc [l0, l1, l2, l3, l4, l5] w) (hBw : B ≤ w.heap.size) (hd : d ≤ 1099511627776) :
    Calls Try.prog 19 #[.pointer (some ⟨b, 0, none⟩), .int .i64 (d : Int)] w fun e w' => e = .returned (.tuple #[]) ∧ ShB B b acc [blankS d, l1, l2, l3, l4, l5] w' ∧ Kp B b w w' := by
  have HH : Hid (ShB B b acc [l0, l1, l2, l3, l4, l5] w) := h
  have HR : ∀ W, Calls Try.prog 31 #[.string ⟨#[32]⟩, .int .i64 (d : Int)] W fun e w' => e = .returned (.string (blankS d)) ∧ Below W.heap.size W w' := fun W => by
    have := Try.strings_Repeat ⟨#[32]⟩ d W (by omega) (by have : (⟨#[32]⟩ : ByteArray).size = 1 := rfl; rw [this]; omega)
    rw [blank_rep] at this
    exact this
  obtain ⟨D, HD⟩ : ∃ D, Hid (blankS d = D) := ⟨_, rfl⟩
  rw [HD.out] at HR ⊢
  clear h
  go_enter Try.func19, Try.ntmps19
  go_region_with (go_at_call 31; refine (HR _).mono ?_; rintro e w7 ⟨rfl, hb7⟩; have hbx := ((Below.refl w.heap.size w).drew).trans hb7; have HB7 := HH.out.below hbx; have t3 : w7.cell? ⟨b, 2, none⟩ = some (.string l0) := HB7.cell 0 (by simp); have u3 : w7.frozen? ⟨b, 2, none⟩ = false := HB7.notFrozen 2)
  all_goals
    have HB9 : Hid (ShB B b acc [D, l1, l2, l3, l4, l5] (w7.setCell ⟨b, 2, none⟩ (.string D))) := HB7.set 0 _
    have HK9 : Hid (Kp B b w (w7.setCell ⟨b, 2, none⟩ (.string D))) := (Kp.of hbx hBw).set HB7.base 2 _
    clear HB7 t3 u3 hb7 hbx
    go_wp2_with fail
    exact bodyPost_end (results_none rfl _ _ _) rfl ⟨rfl, HB9.out, HK9.out⟩

end Go.Proofs.Ytploagieecepfaa.Sg
