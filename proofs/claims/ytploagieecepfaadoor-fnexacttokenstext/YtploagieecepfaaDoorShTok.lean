/- Contract of the model's TokenText. -/
import Derived.Test.YtploagieecepfaaDoorShSpec
import Derived.Deep.RegionHeld3
import Derived.Deep.Cut
import Derived.Deep.CutRange
import Derived.Deep.DeepCutAuto
import Derived.Deep.RegionWith
import Derived.Lib.QuietBelow
import Derived.BigQuiet
namespace Go.Proofs.YtploagieecepfaaDoor.Sg
open Go.ChangeShapes Go.WideShapes Go.ChangeAt Go.RowKit

set_option maxRecDepth 20000 in
set_option maxHeartbeats 8000000 in
theorem specTokenText (kd : Int) (nm tx : ByteArray) (sf : Bool) (n : Nat) (aa : Option Addr) (ac : Nat) (w : World) (hn : n ≤ 1048576) (h1 : nm.size ≤ 1048576) (h2 : tx.size ≤ 1048576) :
    Calls Tryd.prog 6 #[.agg #[.int .i64 kd, .string nm, .slice aa n ac, .string tx, .bool sf]] w fun r w' => r = .returned (.string ((((kindS kd tkNames ++ ⟨#[32]⟩) ++ namedS nm tx) ++ ⟨#[32, 61]⟩) ++ strB (shDig n) ++ (if sf then ⟨#[32, 115, 101, 108, 102]⟩ else ⟨#[]⟩))) ∧ Below w.heap.size w w' := by
  have HK : Hid (∀ W b, Texts W b tkNames → Calls Tryd.prog 16 #[.int .i64 kd, .slice (some ⟨b, 0, none⟩) 5 5] W fun r w' => r = .returned (.string (kindS kd tkNames)) ∧ w' = W) := fun W b h => specKind kd b 5 5 tkNames W h rfl (by decide)
  have HN : Hid (∀ W, Calls Tryd.prog 17 #[.string nm, .string tx] W fun r w' => r = .returned (.string (namedS nm tx)) ∧ w' = W) := fun W => specNamed2 nm tx W
  have HD : Hid (∀ W, Calls Tryd.prog 18 #[.int .i64 (n : Int)] W fun r w' => r = .returned (.string (strB (shDig n))) ∧ Below W.heap.size W w') := fun W => specDigits n W (by omega)
  have z1 : (kindS kd tkNames).size ≤ 16 := kindS_size kd tkNames (by decide)
  have z2 : (namedS nm tx).size ≤ 1048576 := by unfold namedS; split <;> assumption
  have z3 : (strB (shDig n)).size ≤ 1048577 := by rw [strB_size]; have := shDig_len n; omega
  generalize kindS kd tkNames = K at *
  generalize namedS nm tx = N at *
  generalize strB (shDig n) = D at *
  have b0 := (Below.refl w.heap.size w).alloc (Nat.le_refl _) (.cells #[.int .i64 kd, .string nm, .slice aa n ac, .string tx, .bool sf] 29)
  have d0 : (w.alloc (.cells #[.int .i64 kd, .string nm, .slice aa n ac, .string tx, .bool sf] 29)).cell? ⟨w.heap.size, 0, none⟩ = some (.int .i64 kd) := by simp
  have d1 : (w.alloc (.cells #[.int .i64 kd, .string nm, .slice aa n ac, .string tx, .bool sf] 29)).cell? ⟨w.heap.size, 1, none⟩ = some (.string nm) := by simp
  have d2 : (w.alloc (.cells #[.int .i64 kd, .string nm, .slice aa n ac, .string tx, .bool sf] 29)).cell? ⟨w.heap.size, 2, none⟩ = some (.slice aa n ac) := by simp
  have d3 : (w.alloc (.cells #[.int .i64 kd, .string nm, .slice aa n ac, .string tx, .bool sf] 29)).cell? ⟨w.heap.size, 3, none⟩ = some (.string tx) := by simp
  have d4 : (w.alloc (.cells #[.int .i64 kd, .string nm, .slice aa n ac, .string tx, .bool sf] 29)).cell? ⟨w.heap.size, 4, none⟩ = some (.bool sf) := by simp
  have s0 : w.heap.size < (w.alloc (.cells #[.int .i64 kd, .string nm, .slice aa n ac, .string tx, .bool sf] 29)).heap.size := by simp
  go_enter Tryd.func6, Tryd.ntmps6
  go_upto_region 1 with fail
  generalize w.alloc (.cells #[.int .i64 kd, .string nm, .slice aa n ac, .string tx, .bool sf] 29) = w1 at *
  have t1 : ¬ 9223372036854775807 < K.size + 1 := by omega
  have t2 : ¬ 9223372036854775807 < K.size + 1 + N.size := by omega
  have t3 : ¬ 9223372036854775807 < K.size + 1 + N.size + 2 := by omega
  have t4 : ¬ 9223372036854775807 < K.size + 1 + N.size + 2 + D.size := by omega
  have HT : Texts (w1.alloc (.cells #[.string ⟨#[116, 101, 120, 116]⟩, .string ⟨#[115, 116, 97, 114, 116]⟩, .string ⟨#[101, 110, 100]⟩, .string ⟨#[110, 111, 116, 101]⟩, .string ⟨#[107, 105, 110, 100]⟩] 9)).drew w1.heap.size tkNames := (Texts.laid w1 tkNames _ _ rfl).below (B := w1.heap.size + 1) (Nat.lt_succ_self _) ((Below.refl _ _).drew)
  have HT0 : Texts (w1.alloc (.cells #[.string ⟨#[116, 101, 120, 116]⟩, .string ⟨#[115, 116, 97, 114, 116]⟩, .string ⟨#[101, 110, 100]⟩, .string ⟨#[110, 111, 116, 101]⟩, .string ⟨#[107, 105, 110, 100]⟩] 9)) w1.heap.size tkNames := Texts.laid w1 tkNames _ _ rfl
  go_region_held3 (fun w' => w'.cell? ⟨w.heap.size, 0, none⟩ = some (.int .i64 kd) ∧ w'.cell? ⟨w.heap.size, 1, none⟩ = some (.string nm) ∧ w'.cell? ⟨w.heap.size, 2, none⟩ = some (.slice aa n ac) ∧ w'.cell? ⟨w.heap.size, 3, none⟩ = some (.string tx)) (first | exact ⟨d0, d1, d2, d3⟩ | go_keep | (go_split_ands; exact ⟨keep_cell hb' (by assumption), keep_cell hb' (by assumption), keep_cell hb' (by assumption), keep_cell hb' (by assumption)⟩)) (first | (go_at_call 16; refine (HK.out _ _ (by first | exact HT | exact HT0)).mono ?_; rintro r w' ⟨rfl, rfl⟩) | (go_at_call 17; refine (HN.out _).mono ?_; rintro r w' ⟨rfl, rfl⟩) | (go_at_call 18; refine (HD.out _).mono ?_; rintro r w' ⟨rfl, hb'⟩))
  all_goals
    have bx : Below w1.heap.size w1 w' := (((Below.refl w1.heap.size w1).alloc (Nat.le_refl _) _).drew).trans (hb'.mono (by show w1.heap.size ≤ (w1.heap.push _).size; simp))
    have d5 := (bx.cell s0).trans d4
    have bf := b0.trans (bx.mono b0.size)
    clear HK HN HD HT HT0 d0 d1 d2 d3 d4 bx hb' b0 s0
    go_split_ands
    generalize hX : K ++ ⟨#[32]⟩ ++ N ++ ⟨#[32, 61]⟩ ++ D = X at *
    have tX : X.size ≤ 4194304 := by
      rw [← hX]
      simp only [ByteArray.size_append]
      have u1 : (⟨#[32]⟩ : ByteArray).size = 1 := rfl
      have u2 : (⟨#[32, 61]⟩ : ByteArray).size = 2 := rfl
      omega
    have t5 : ¬ 9223372036854775807 < X.size + 5 := by omega
    cases sf
    · have e : X ++ (if false = true then (⟨#[32, 115, 101, 108, 102]⟩ : ByteArray) else ⟨#[]⟩) = X := ByteArray.append_empty
      go_wp2_with fail
      go_ret
      exact ⟨ret_sh e.symm, bf⟩
    · go_wp2_with fail
      go_ret
      exact ⟨rfl, bf⟩

end Go.Proofs.YtploagieecepfaaDoor.Sg
