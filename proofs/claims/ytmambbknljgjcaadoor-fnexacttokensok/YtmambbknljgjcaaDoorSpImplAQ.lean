/- Contracts of the program's withAmp, hasNoRefs, rawBegun. -/
import Derived.Test.YtmambbknljgjcaaDoorSpP
import Derived.Test.YtmambbknljgjcaaDoorSpTag2
import Derived.Test.YtmambbknljgjcaaDoorM13
import Derived.Test.YtmambbknljgjcaaDoorGMaxLen
import Derived.Test.YtmambbknljgjcaaDoorShelf
namespace Go.Proofs.YtmambbknljgjcaaDoor.Sg
open Go.ChangeShapes Go.WideShapes Go.ChangeAt Go.RowKit

theorem countB_one (s : ByteArray) (b : UInt8) : Lib.countB s ⟨#[b]⟩ ≤ s.size := Lib.countB_le ⟨#[b]⟩ (by simp [ByteArray.size]) s.size s (Nat.le_refl _)

theorem implReplace (s : ByteArray) (b : UInt8) (new : ByteArray) (w : World) (hs : s.size ≤ 1073741824) (hn : new.size ≤ 100) (hm : MaxLen w) :
    Calls Tryd.prog 31 #[.string s, .string ⟨#[b]⟩, .string new] w fun e w' => e = .returned (.string (strB (Lib.replaceAll s.data.toList [b] new.data.toList))) ∧ Below w.heap.size w w' := by
  obtain ⟨m, hm1⟩ := hm
  have c := countB_one s b
  have : Lib.countB s ⟨#[b]⟩ * new.size ≤ 1073741824 * 100 := Nat.mul_le_mul (Nat.le_trans c hs) hn
  exact Tryd.strings_ReplaceAll s ⟨#[b]⟩ new m w (by omega) hm1 (by simp [ByteArray.size]) (by omega)

set_option maxHeartbeats 1000000 in
theorem implWithAmp (s : ByteArray) (w : World) (hs : s.size ≤ 1073741824) (hm : MaxLen w) :
    Calls Tryd.prog 32 #[.string s] w fun e w' => e = .returned (.string (strB (Lib.replaceAll s.data.toList [38] ampT))) ∧ Below w.heap.size w w' := by
  have Hc := implReplace s 38 ⟨#[38, 97, 109, 112, 59]⟩ w hs (by decide) hm
  rw [show (⟨#[38, 97, 109, 112, 59]⟩ : ByteArray).data.toList = ampT from rfl] at Hc
  generalize strB (Lib.replaceAll s.data.toList [38] ampT) = V at *
  go_enter Tryd.func32, Tryd.ntmps32
  go_wp2_with fail
  refine Hc.mono ?_
  rintro e w1 ⟨rfl, b1⟩
  clear Hc
  go_wp2_with fail
  go_ret
  exact ⟨rfl, b1⟩

set_option maxHeartbeats 1000000 in
theorem implHasNoRefs (s : ByteArray) (w : World) :
    Calls Tryd.prog 19 #[.string s] w fun e w' => e = .returned (.bool (scriptB s)) ∧ w' = w := by
  have e2 : scriptB s = (s.toList == [115, 99, 114, 105, 112, 116] || s.toList == [115, 116, 121, 108, 101]) := rfl
  rw [e2]
  clear e2
  go_enter Tryd.func19, Tryd.ntmps19
  cases h2 : s.toList == [115, 99, 114, 105, 112, 116] <;> cases h3 : s.toList == [115, 116, 121, 108, 101] <;> go_wp2 <;> go_ret <;> exact ⟨rfl, rfl⟩

/-- The name of a Raw tag that a word begins. -/
def begunT (t : TokB) : ByteArray := if t.1 == 2 && (!t.2.2.2.2 && rawB t.2.1) then t.2.1 else ⟨#[]⟩
theorem scriptB_raw {s : ByteArray} (h : scriptB s = true) : rawB s = true := by
  unfold scriptB at h
  unfold rawB
  rcases Bool.or_eq_true _ _ ▸ h with h | h <;> simp [h]
theorem scriptB_empty : scriptB ⟨#[]⟩ = false := by
  unfold scriptB
  rw [ByteArray.toList_mk]
  rfl
theorem bare_begun (t : TokB) : scriptB (begunT t) = bareT t := by
  unfold begunT bareT
  cases h1 : t.1 == 2
  · simp [scriptB_empty]
  · cases h2 : t.2.2.2.2
    · cases h3 : rawB t.2.1
      · have : scriptB t.2.1 = false := by
          cases h4 : scriptB t.2.1
          · rfl
          · rw [scriptB_raw h4] at h3
            cases h3
        simp [scriptB_empty, this]
      · simp
    · simp [scriptB_empty]

set_option maxHeartbeats 1000000 in
theorem implBegun (t : TokB) (sa : Option Addr) (sn sc : Nat) (w : World) :
    Calls Tryd.prog 20 #[.agg #[.int .i64 t.1, .string t.2.1, .slice sa sn sc, .string t.2.2.2.1, .bool t.2.2.2.2]] w fun e w' => e = .returned (.string (begunT t)) ∧ Below w.heap.size w w' := by
  obtain ⟨kd, nm, at', tx, sf⟩ := t
  have e2 : begunT (kd, nm, at', tx, sf) = if kd == 2 && (!sf && rawB nm) then nm else ⟨#[]⟩ := rfl
  rw [e2]
  clear e2
  simp only
  have bb : Below w.heap.size w (w.alloc (.cells #[.int .i64 kd, .string nm, .slice sa sn sc, .string tx, .bool sf] 36)) := (Below.refl _ _).alloc (Nat.le_refl _) _
  cases h1 : kd == 2
  · go_enter Tryd.func20, Tryd.ntmps20
    go_wp2_with fail
    go_ret
    exact ⟨rfl, bb⟩
  · cases sf
    · have Hc := fun w => implRaw nm w
      cases h3 : rawB nm
      · rw [h3] at Hc
        go_enter Tryd.func20, Tryd.ntmps20
        go_wp2_with fail
        refine (Hc _).mono ?_
        rintro e w1 ⟨rfl, rfl⟩
        go_wp2_with fail
        go_ret
        exact ⟨rfl, bb⟩
      · rw [h3] at Hc
        go_enter Tryd.func20, Tryd.ntmps20
        go_wp2_with fail
        refine (Hc _).mono ?_
        rintro e w1 ⟨rfl, rfl⟩
        go_wp2_with fail
        go_ret
        exact ⟨rfl, bb⟩
    · go_enter Tryd.func20, Tryd.ntmps20
      go_wp2_with fail
      go_ret
      exact ⟨rfl, bb⟩

end Go.Proofs.YtmambbknljgjcaaDoor.Sg
