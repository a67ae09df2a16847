/- Contracts of Small, of the program and of the model. -/
import Derived.Test.YtmambbknljgjcaaDoorKdSmallP
namespace Go.Proofs.YtmambbknljgjcaaDoor.Sg
open Go.ChangeShapes Go.WideShapes Go.ChangeAt Go.RowKit

set_option maxHeartbeats 1000000 in
theorem implSmall (s : ByteArray) (w : World) (hs : s.size ≤ 4611686018427387904) :
    Calls Tryd.prog 68 #[.string s] w fun e w' => e = .returned (.string (smallS s)) ∧ Below w.heap.size w w' := by
  obtain ⟨cap, W, hrun, hbW, hszW, hrW⟩ := conv_row w s
  have HrW : Hid (ByRow W w.heap.size s.size (byteAt s)) := hrW
  have HbW : Hid (Below w.heap.size w W) := hbW
  have HszW : Hid (W.heap.size = w.heap.size + 1) := hszW
  clear hrW hbW hszW
  generalize hn : s.size = n at *
  have Hn : Hid (s.size = n) := hn
  clear hn
  go_enter Tryd.func68, Tryd.ntmps68
  go_wp2
  go_loopw [10] (fun i wr => ∃ k : Nat, k ≤ n ∧ i = .int .i64 k ∧ Hid (ByRow wr w.heap.size n (lowTo s k)) ∧ Hid (Below w.heap.size w wr)) (fun i _ => n - (intOf i).toNat)
  case atStart =>
    refine ⟨0, Nat.zero_le _, rfl, ?_, HbW⟩
    exact HrW.out.congr fun i _ => (if_neg (Nat.not_lt_zero _)).symm
  case round =>
    obtain ⟨k, hk, rfl, Hr, Hb⟩ := hrel
    clear HrW HbW HszW hrun
    by_cases hlt : k < n
    · have h1 := Hr.out.cell hlt
      have h2 := Hr.out.frozen hlt
      rw [lowTo_self] at h1
      have hx : (byteAt s k).toNat < 256 := UInt8.toNat_lt _
      by_cases g1 : 65 ≤ (byteAt s k).toNat
      · by_cases g2 : (byteAt s k).toNat ≤ 90
        · have hlow := lowB_yes (byteAt s k) g1 g2
          have Hnx : Hid (∀ v : Int, v = ((byteAt s k).toNat : Int) + 32 → ByRow (wr.setCell ⟨w.heap.size, k, none⟩ (.int .u8 v)) w.heap.size n (lowTo s (k + 1))) :=
            fun v hv => (Hr.out.set k v (lowB (byteAt s k)) (by rw [hlow]; omega)).congr fun i _ => lowTo_step s k i
          clear hlow
          generalize (byteAt s k).toNat = x at *
          go_wp2
          go_roundw
          case rel => exact ⟨k + 1, by omega, by go_num, Hnx.out _ (by omega), Hb.out.setCell (Nat.le_refl _) _⟩
          case measure => simp [intOf]; omega
        · have Hnx : Hid (ByRow wr w.heap.size n (lowTo s (k + 1))) := Hr.out.congr (fun i _ => lowTo_stay s k (lowB_no _ (fun h => g2 h.2)) i)
          generalize (byteAt s k).toNat = x at *
          go_wp2
          go_roundw
          case rel => exact ⟨k + 1, by omega, by go_num, Hnx, Hb⟩
          case measure => simp [intOf]; omega
      · have Hnx : Hid (ByRow wr w.heap.size n (lowTo s (k + 1))) := Hr.out.congr (fun i _ => lowTo_stay s k (lowB_no _ (fun h => g1 h.1)) i)
        generalize (byteAt s k).toNat = x at *
        go_wp2
        go_roundw
        case rel => exact ⟨k + 1, by omega, by go_num, Hnx, Hb⟩
        case measure => simp [intOf]; omega
    · have hkn : k = n := by omega
      subst hkn
      have hbk : Sem.run Tryd.prog (convert 43 9 (.slice (some ⟨w.heap.size, 0, none⟩) k cap)) wr = .ok (.string (smallS s)) wr := by
        have h := Hr.out
        rw [← Hn.out] at h ⊢
        exact lowTo_back h
      go_wp2
      go_ret
      exact ⟨rfl, Hb.out⟩

set_option maxHeartbeats 1000000 in
theorem specSmall (s : ByteArray) (w : World) (hs : s.size ≤ 4611686018427387904) :
    Calls Tryd.prog 42 #[.string s] w fun e w' => e = .returned (.string (smallS s)) ∧ Below w.heap.size w w' := by
  obtain ⟨cap, W, hrun, hbW, hszW, hrW⟩ := conv_row w s
  have HrW : Hid (ByRow W w.heap.size s.size (byteAt s)) := hrW
  have HbW : Hid (Below w.heap.size w W) := hbW
  have HszW : Hid (W.heap.size = w.heap.size + 1) := hszW
  clear hrW hbW hszW
  generalize hn : s.size = n at *
  have Hn : Hid (s.size = n) := hn
  clear hn
  go_enter Tryd.func42, Tryd.ntmps42
  go_wp2
  go_loopw [4] (fun i wr => ∃ k : Nat, k ≤ n ∧ i = .int .i64 k ∧ Hid (ByRow wr w.heap.size n (lowTo s k)) ∧ Hid (Below w.heap.size w wr)) (fun i _ => n - (intOf i).toNat)
  case atStart =>
    refine ⟨0, Nat.zero_le _, rfl, ?_, HbW⟩
    exact HrW.out.congr fun i _ => (if_neg (Nat.not_lt_zero _)).symm
  case round =>
    obtain ⟨k, hk, rfl, Hr, Hb⟩ := hrel
    clear HrW HbW HszW hrun
    by_cases hlt : k < n
    · have h1 := Hr.out.cell hlt
      have h2 := Hr.out.frozen hlt
      rw [lowTo_self] at h1
      have hx : (byteAt s k).toNat < 256 := UInt8.toNat_lt _
      by_cases g1 : 65 ≤ (byteAt s k).toNat
      · by_cases g2 : (byteAt s k).toNat ≤ 90
        · have hlow := lowB_yes (byteAt s k) g1 g2
          have Hnx : Hid (∀ v : Int, v = ((byteAt s k).toNat : Int) + 32 → ByRow (wr.setCell ⟨w.heap.size, k, none⟩ (.int .u8 v)) w.heap.size n (lowTo s (k + 1))) :=
            fun v hv => (Hr.out.set k v (lowB (byteAt s k)) (by rw [hlow]; omega)).congr fun i _ => lowTo_step s k i
          clear hlow
          generalize (byteAt s k).toNat = x at *
          go_wp2
          go_roundw
          case rel => exact ⟨k + 1, by omega, by go_num, Hnx.out _ (by omega), Hb.out.setCell (Nat.le_refl _) _⟩
          case measure => simp [intOf]; omega
        · have Hnx : Hid (ByRow wr w.heap.size n (lowTo s (k + 1))) := Hr.out.congr (fun i _ => lowTo_stay s k (lowB_no _ (fun h => g2 h.2)) i)
          generalize (byteAt s k).toNat = x at *
          go_wp2
          go_roundw
          case rel => exact ⟨k + 1, by omega, by go_num, Hnx, Hb⟩
          case measure => simp [intOf]; omega
      · have Hnx : Hid (ByRow wr w.heap.size n (lowTo s (k + 1))) := Hr.out.congr (fun i _ => lowTo_stay s k (lowB_no _ (fun h => g1 h.1)) i)
        generalize (byteAt s k).toNat = x at *
        go_wp2
        go_roundw
        case rel => exact ⟨k + 1, by omega, by go_num, Hnx, Hb⟩
        case measure => simp [intOf]; omega
    · have hkn : k = n := by omega
      subst hkn
      have hbk : Sem.run Tryd.prog (convert 43 9 (.slice (some ⟨w.heap.size, 0, none⟩) k cap)) wr = .ok (.string (smallS s)) wr := by
        have h := Hr.out
        rw [← Hn.out] at h ⊢
        exact lowTo_back h
      go_wp2
      go_ret
      exact ⟨rfl, Hb.out⟩

end Go.Proofs.YtmambbknljgjcaaDoor.Sg
