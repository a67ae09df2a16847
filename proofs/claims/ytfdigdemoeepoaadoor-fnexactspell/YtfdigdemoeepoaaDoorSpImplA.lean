/- Contracts of the program's withAmp, hasNoRefs, rawBegun. -/
import Derived.Test.YtfdigdemoeepoaaDoorSpP
import Derived.Test.YtfdigdemoeepoaaDoorSpTag2
import Derived.Test.YtfdigdemoeepoaaDoorTkImplR
import Derived.Test.YtfdigdemoeepoaaDoorGMaxLen
import Derived.Test.YtfdigdemoeepoaaDoorShelf
namespace Go.Proofs.YtfdigdemoeepoaaDoor.Sg
open Go.ChangeShapes Go.WideShapes Go.ChangeAt Go.RowKit

theorem countB_one (s : ByteArray) (b : UInt8) : Lib.countB s ⟨#[b]⟩ ≤ s.size := Lib.countB_le ⟨#[b]⟩ (by simp [ByteArray.size]) s.size s (Nat.le_refl _)

theorem implReplace (s : ByteArray) (b : UInt8) (new : ByteArray) (w : World) (hs : s.size ≤ 1073741824) (hn : new.size ≤ 100) (hm : MaxLen w) :
    Calls Tryd.prog 24 #[.string s, .string ⟨#[b]⟩, .string new] w fun e w' => e = .returned (.string (strB (Lib.replaceAll s.data.toList [b] new.data.toList))) ∧ Below w.heap.size w w' := by
  obtain ⟨m, hm1⟩ := hm
  have c := countB_one s b
  have : Lib.countB s ⟨#[b]⟩ * new.size ≤ 1073741824 * 100 := Nat.mul_le_mul (Nat.le_trans c hs) hn
  exact Tryd.strings_ReplaceAll s ⟨#[b]⟩ new m w (by omega) hm1 (by simp [ByteArray.size]) (by omega)

set_option maxHeartbeats 1000000 in
theorem implWithAmp (s : ByteArray) (w : World) (hs : s.size ≤ 1073741824) (hm : MaxLen w) :
    Calls Tryd.prog 25 #[.string s] w fun e w' => e = .returned (.string (strB (Lib.replaceAll s.data.toList [38] ampT))) ∧ Below w.heap.size w w' := by
  have Hc := implReplace s 38 ⟨#[38, 97, 109, 112, 59]⟩ w hs (by decide) hm
  rw [show (⟨#[38, 97, 109, 112, 59]⟩ : ByteArray).data.toList = ampT from rfl] at Hc
  generalize strB (Lib.replaceAll s.data.toList [38] ampT) = V at *
  go_enter Tryd.func25, Tryd.ntmps25
  go_wp2_with fail
  refine Hc.mono ?_
  rintro e w1 ⟨rfl, b1⟩
  clear Hc
  go_wp2_with fail
  go_ret
  exact ⟨rfl, b1⟩

set_option maxHeartbeats 1000000 in
theorem implSpeltValue (v : ByteArray) (w : World) (hv : v.size ≤ 1048576) (hm : MaxLen w) :
    Calls Tryd.prog 27 #[.string v] w fun e w' => e = .returned (.string (strB (valT v.data.toList))) ∧ Below w.heap.size w w' := by
  have C1 := implWithAmp v w (by omega) hm
  have e2 : (strB (Lib.replaceAll v.data.toList [38] ampT)).data.toList = Lib.replaceAll v.data.toList [38] ampT := strB_data _
  have l2 : (strB (Lib.replaceAll v.data.toList [38] ampT)).size ≤ 5242880 := by
    rw [strB_size]
    have := replaced_len 38 ampT 5 (by omega) (by decide) (by decide) v.data.toList
    rw [bytes_len] at this
    omega
  have C2 := fun W (m : MaxLen W) => implReplace (strB (Lib.replaceAll v.data.toList [38] ampT)) 34 ⟨#[38, 113, 117, 111, 116, 59]⟩ W (by omega) (by decide) m
  rw [e2, show (⟨#[38, 113, 117, 111, 116, 59]⟩ : ByteArray).data.toList = quotT from rfl, val_replaced] at C2
  generalize strB (Lib.replaceAll v.data.toList [38] ampT) = V1 at *
  generalize strB (valT v.data.toList) = V2 at *
  clear e2 l2
  go_enter Tryd.func27, Tryd.ntmps27
  go_wp2_with fail
  refine C1.mono ?_
  rintro e w1 ⟨rfl, b1⟩
  have M1 := hm.below b1
  go_wp2_with fail
  refine (C2 _ M1).mono ?_
  rintro e w2 ⟨rfl, b2⟩
  have b3 : Below w.heap.size w w2 := b1.trans (b2.mono b1.size)
  clear C1 C2 M1 b1 b2
  go_wp2_with fail
  go_ret
  exact ⟨rfl, b3⟩

set_option maxHeartbeats 1000000 in
theorem implHasNoRefs (s : ByteArray) (w : World) :
    Calls Tryd.prog 16 #[.string s] w fun e w' => e = .returned (.bool (scriptB s)) ∧ w' = w := by
  have e2 : scriptB s = (s.toList == [115, 99, 114, 105, 112, 116] || s.toList == [115, 116, 121, 108, 101]) := rfl
  rw [e2]
  clear e2
  go_enter Tryd.func16, Tryd.ntmps16
  cases h2 : s.toList == [115, 99, 114, 105, 112, 116] <;> cases h3 : s.toList == [115, 116, 121, 108, 101] <;> go_wp2 <;> go_ret <;> exact ⟨rfl, rfl⟩

/-- The name of a Raw tag that a word begins. -/
def begunT (t : TokB) : ByteArray := if t.1 == 2 && (!t.2.2.2.2 && rawB t.2.1) then t.2.1 else ⟨#[]⟩
theorem scriptB_raw {s : ByteArray} (h : scriptB s = true) : rawB s = true := by
  unfold scriptB at h
  unfold rawB
  rcases Bool.or_eq_true _ _ ▸ h with h | h <;> simp [h]
theorem scriptB_empty : scriptB ⟨#[]⟩ = false := by
  unfold scriptB
  rw [ByteArray.toList_mk]
  rfl
theorem bare_begun (t : TokB) : scriptB (begunT t) = bareT t := by
  unfold begunT bareT
  cases h1 : t.1 == 2
  · simp [scriptB_empty]
  · cases h2 : t.2.2.2.2
    · cases h3 : rawB t.2.1
      · have : scriptB t.2.1 = false := by
          cases h4 : scriptB t.2.1
          · rfl
          · rw [scriptB_raw h4] at h3
            cases h3
        simp [scriptB_empty, this]
      · simp
    · simp [scriptB_empty]

set_option maxHeartbeats 1000000 in
theorem implBegun (t : TokB) (sa : Option Addr) (sn sc : Nat) (w : World) :
    Calls Tryd.prog 17 #[.agg #[.int .i64 t.1, .string t.2.1, .slice sa sn sc, .string t.2.2.2.1, .bool t.2.2.2.2]] w fun e w' => e = .returned (.string (begunT t)) ∧ Below w.heap.size w w' := by
  obtain ⟨kd, nm, at', tx, sf⟩ := t
  have e2 : begunT (kd, nm, at', tx, sf) = if kd == 2 && (!sf && rawB nm) then nm else ⟨#[]⟩ := rfl
  rw [e2]
  clear e2
  simp only
  have bb : Below w.heap.size w (w.alloc (.cells #[.int .i64 kd, .string nm, .slice sa sn sc, .string tx, .bool sf] 35)) := (Below.refl _ _).alloc (Nat.le_refl _) _
  cases h1 : kd == 2
  · go_enter Tryd.func17, Tryd.ntmps17
    go_wp2_with fail
    go_ret
    exact ⟨rfl, bb⟩
  · cases sf
    · have Hc := fun w => implRaw nm w
      cases h3 : rawB nm
      · rw [h3] at Hc
        go_enter Tryd.func17, Tryd.ntmps17
        go_wp2_with fail
        refine (Hc _).mono ?_
        rintro e w1 ⟨rfl, rfl⟩
        go_wp2_with fail
        go_ret
        exact ⟨rfl, bb⟩
      · rw [h3] at Hc
        go_enter Tryd.func17, Tryd.ntmps17
        go_wp2_with fail
        refine (Hc _).mono ?_
        rintro e w1 ⟨rfl, rfl⟩
        go_wp2_with fail
        go_ret
        exact ⟨rfl, bb⟩
    · go_enter Tryd.func17, Tryd.ntmps17
      go_wp2_with fail
      go_ret
      exact ⟨rfl, bb⟩

end Go.Proofs.YtfdigdemoeepoaaDoor.Sg
