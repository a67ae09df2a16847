/- A line's end; the words of a word's and an element's kind. -/
import Derived.Test.YtploagieecepfaaSoTell
namespace Go.Proofs.Ytploagieecepfaa.Sg
open Go.ChangeShapes Go.WideShapes Go.ChangeAt Go.RowKit

set_option maxHeartbeats 4000000 in
theorem implEnd (B b : Nat) (acc : List UInt8) (l0 l1 l2 l3 l4 l5 : ByteArray) (w : World) (h : ShB B b acc [l0, l1, l2, l3, l4, l5] w) (hBw : B ≤ w.heap.size) (hsz : acc.length + (catB [l0, l1, l2, l3, l4, ⟨#[10]⟩]).length ≤ 70368744177664) :
    Calls Try.prog 22 #[.pointer (some ⟨b, 0, none⟩)] w fun e w' => e = .returned (.tuple #[]) ∧ ShB B b (acc ++ catB [l0, l1, l2, l3, l4, ⟨#[10]⟩]) noLine w' ∧ Kp B b w w' := by
  have c1 : w.cell? ⟨b, 7, none⟩ = some (.string l5) := h.cell 5 (by simp)
  have f1 : w.frozen? ⟨b, 7, none⟩ = false := h.notFrozen 7
  have H1 : ShB B b acc [l0, l1, l2, l3, l4, ⟨#[10]⟩] (w.setCell ⟨b, 7, none⟩ (.string ⟨#[10]⟩)) := h.set 5 _
  have K1 : Hid (Kp B b w (w.setCell ⟨b, 7, none⟩ (.string ⟨#[10]⟩))) := (Kp.refl B b w).set h.base _ _
  have HT := implTell B b acc _ _ H1 rfl (Nat.le_trans hBw K1.out.size) hsz
  clear h H1
  generalize catB [l0, l1, l2, l3, l4, ⟨#[10]⟩] = X at *
  go_enter Try.func22, Try.ntmps22
  go_wp2_with fail
  refine HT.mono ?_
  rintro e w2 ⟨rfl, h2, k2⟩
  have K2 : Hid (Kp B b w w2) := K1.out.trans k2
  have H2 : Hid (ShB B b (acc ++ X) noLine w2) := h2
  clear HT K1 h2 k2 c1 f1
  go_wp2_with fail
  exact bodyPost_end (results_none rfl _ _ _) rfl ⟨rfl, H2.out, K2.out⟩


def elNames' : List (List UInt8) := [[116, 97, 103], [116, 101, 120, 116], [110, 111, 116, 101]]
set_option maxHeartbeats 1000000 in
theorem implElKind (kd : Int) (w : World) : Calls Try.prog 21 #[.int .i64 kd] w fun e w' => e = .returned (.string (kindS kd elNames')) ∧ w' = w := by
  go_enter Try.func21, Try.ntmps21
  rcases (by omega : kd = 1 ∨ kd = 2 ∨ kd = 3 ∨ (kd < 1 ∨ 3 < kd)) with rfl | rfl | rfl | hk
  iterate 3 (go_wp2_with fail; go_ret; exact ⟨rfl, rfl⟩)
  have e1 : kindS kd elNames' = ⟨#[110, 111, 110, 101]⟩ := by
    unfold kindS
    rw [if_pos (by simp [elNames']; omega)]
  rw [e1]
  have g1 : (kd == 1) = false := by simp; omega
  have g2 : (kd == 2) = false := by simp; omega
  have g3 : (kd == 3) = false := by simp; omega
  go_wp2_with fail
  go_ret
  exact ⟨rfl, rfl⟩

end Go.Proofs.Ytploagieecepfaa.Sg
