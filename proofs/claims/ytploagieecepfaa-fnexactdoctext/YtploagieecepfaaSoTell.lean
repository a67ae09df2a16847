/- A line is told: its parts are put behind what is told, and then it is empty. -/
import Derived.Test.YtploagieecepfaaSoLine
namespace Go.Proofs.Ytploagieecepfaa.Sg
open Go.ChangeShapes Go.WideShapes Go.ChangeAt Go.RowKit

theorem zero_str (w : World) : (zeroValue 9).run Try.prog w = .ok (.string ⟨#[]⟩) w := by kernel_rfl
theorem ShB.clear {B b : Nat} {acc : List UInt8} {ln : List ByteArray} {w : World} (h : ShB B b acc ln w) (hn : ln.length = 6) : ShB B b acc noLine (w.setCells b 2 (List.replicate 6 (.string ⟨#[]⟩))) := by
  match ln, hn with
  | [_, _, _, _, _, _], _ => exact (((((h.set 0 ⟨#[]⟩).set 1 ⟨#[]⟩).set 2 ⟨#[]⟩).set 3 ⟨#[]⟩).set 4 ⟨#[]⟩).set 5 ⟨#[]⟩
theorem Kp.clear {B b : Nat} {w w' : World} (h : Kp B b w w') (hB : B ≤ b) : Kp B b w (w'.setCells b 2 (List.replicate 6 (.string ⟨#[]⟩))) :=
  (((((h.set hB 2 _).set hB 3 _).set hB 4 _).set hB 5 _).set hB 6 _).set hB 7 _

set_option maxRecDepth 20000 in
set_option maxHeartbeats 4000000 in
theorem implTell (B b : Nat) (acc : List UInt8) (ln : List ByteArray) (w : World) (h : ShB B b acc ln w) (hn : ln.length = 6) (hBw : B ≤ w.heap.size) (hsz : acc.length + (catB ln).length ≤ 70368744177664) :
    Calls Try.prog 33 #[.pointer (some ⟨b, 0, none⟩)] w fun e w' => e = .returned (.tuple #[]) ∧ ShB B b (acc ++ catB ln) noLine w' ∧ Kp B b w w' := by
  have H0 : Hid (ShB B b (acc ++ catB (ln.take 0)) ln w) := by
    show ShB _ _ _ _ _
    rw [List.take_zero, show catB [] = [] from rfl, List.append_nil]
    exact h
  clear h
  go_enter Try.func33, Try.ntmps33
  go_wp2_with fail
  go_loopw [2, 3] (fun _ iv wr => ∃ k : Nat, k ≤ 6 ∧ iv = .int .i64 (k : Int) ∧ Hid (ShB B b (acc ++ catB (ln.take k)) ln wr) ∧ Hid (Kp B b w wr)) (fun _ iv _ => 6 - (intOf iv).toNat)
  case atStart => exact ⟨0, Nat.zero_le _, rfl, H0, Kp.refl _ _ _⟩
  case round =>
    clear H0
    obtain ⟨k, hk, rfl, HB, HK⟩ := hrel
    have hBr : B ≤ wr.heap.size := Nat.le_trans hBw HK.out.size
    by_cases hlt : k < 6
    · have hkl : k < ln.length := by omega
      have ck : wr.cell? ⟨b, 2 + k, none⟩ = some (.string (ln[k]'hkl)) := HB.out.cell k hkl
      have dk : wr.drew.cell? ⟨b, 2 + k, none⟩ = some (.string (ln[k]'hkl)) := ck
      have hlen := catB_at ln k hkl
      have HW : ∀ W, ShB B b (acc ++ catB (ln.take k)) ln W → B ≤ W.heap.size → Calls Try.prog 15 #[.pointer (some ⟨b, 0, none⟩), .string (ln[k]'hkl)] W fun e w' => e = .returned (.tuple #[.int .i64 (ln[k]'hkl).size, .nilIface]) ∧ ShB B b (acc ++ catB (ln.take (k + 1))) ln w' ∧ Kp B b W w' := fun W hW hB2 => by
        refine (writeS B b _ ln (ln[k]'hkl) W hW hn (by rw [List.length_append]; omega) hB2).mono ?_
        rintro e w' ⟨he, h1, h2⟩
        refine ⟨he, ?_, h2⟩
        rw [catB_take ln k hkl, ← List.append_assoc]
        exact h1
      generalize ln[k]'hkl = s at *
      have k0 : (0 : Int) ≤ (k : Int) := by omega
      have k1 : (k : Int) < 6 := by omega
      have HWr := HW wr HB.out hBr
      have HWd := HW wr.drew HB.out hBr
      clear HW hlen HB
      go_wp2_with fail
      go_region_with (go_at_call 15; refine HWd.mono ?_; rintro e w2 ⟨rfl, hB2, hK2⟩)
      all_goals
        have HB2 : Hid (ShB B b (acc ++ catB (ln.take (k + 1))) ln w2) := hB2
        have HK2 : Hid (Kp B b w w2) := by first | exact HK.out.trans hK2 | exact HK.out.trans ((Kp.of (Below.refl wr.heap.size wr).drew hBr).trans hK2)
        clear hB2 hK2
        go_wp2_with fail
        go_roundw
        case rel => exact ⟨k + 1, by omega, by go_num, HB2, HK2⟩
        case measure => simp [intOf]; omega
    · have g0 : decide ((k : Int) < 6) = false := decide_eq_false (by omega)
      have hke : k = 6 := by omega
      subst hke
      have hl6 : (ln.take 6) = ln := List.take_of_length_le (by omega)
      have hcl : ∀ ty, (Builtin.clear_ #[66] ty #[.slice (some ⟨b, 2, none⟩) 6 6]).run Try.prog wr = .ok (.tuple #[]) (wr.setCells b 2 (List.replicate 6 (.string ⟨#[]⟩))) :=
        fun ty => Lib.run_clear_slice wr 66 9 ty (.string ⟨#[]⟩) Try.underlying66 zero_str rfl rfl b 2 6 6 (by omega) (fun j hj => HB.out.some j (by omega)) (fun j _ => HB.out.notFrozen _)
      have HBc : Hid (ShB B b (acc ++ catB ln) noLine (wr.setCells b 2 (List.replicate 6 (.string ⟨#[]⟩)))) := by
        have h := HB.out.clear hn
        rw [hl6] at h
        exact h
      have HKc : Hid (Kp B b w (wr.setCells b 2 (List.replicate 6 (.string ⟨#[]⟩)))) := HK.out.clear HB.out.base
      clear HB HK hl6
      generalize wr.setCells b 2 (List.replicate 6 (.string ⟨#[]⟩)) = w3 at *
      go_wp2_with fail
      exact bodyPost_end (results_none rfl _ _ _) rfl ⟨rfl, HBc.out, HKc.out⟩

end Go.Proofs.Ytploagieecepfaa.Sg
