/- Contract of the program's RawEnd. -/
import Derived.Test.YtmambbknljgjcaaDoorM13
import Derived.Test.YtmambbknljgjcaaDoorTkPlQ
namespace Go.Proofs.YtmambbknljgjcaaDoor.Sg
open Go.ChangeShapes Go.WideShapes Go.ChangeAt Go.RowKit

theorem one_end : oneU ⟨#[9, 10, 12, 13, 32, 47, 62]⟩ = endU := byte_eq _ _ (by decide +kernel)
theorem lowB_60 (b : UInt8) : (lowB b == 60) = decide (b.toNat = 60) := byte_all (fun b => (lowB b == 60) = decide (b.toNat = 60)) (by decide +kernel) b
theorem lowB_47 (b : UInt8) : (lowB b == 47) = decide (b.toNat = 47) := byte_all (fun b => (lowB b == 47) = decide (b.toNat = 47)) (by decide +kernel) b

theorem smallS_size (s : ByteArray) : (smallS s).size = s.size := by
  unfold smallS
  show ((s.data.toList.map lowB).toArray).size = s.data.size
  simp
theorem small_list (s : ByteArray) : (smallS s).toList = s.data.toList.map lowB := by
  rw [ByteArray.toList_eq]
  simp [smallS]
theorem cut_list (s : ByteArray) (a n : Nat) : (s.extract a (a + n)).data.toList = (tailL s a).take n := by
  rw [ByteArray.data_extract]
  unfold tailL
  simp [List.extract_eq_take_drop]

theorem raw_cut {s name : ByteArray} {k : Nat} (h : k + 2 + name.size < s.size) :
    (((smallS s).extract k (k + (2 + name.size))).toList == ((⟨#[60, 47]⟩ : ByteArray) ++ smallS name).toList)
      = (decide ((s[k]'(by omega)).toNat = 60) && (decide ((s[k + 1]'(by omega)).toNat = 47) && ((smallS (s.extract (k + 2) (k + 2 + name.size))).toList == (smallS name).toList))) := by
  have h0 : k < s.size := by omega
  have h1 : k + 1 < s.size := by omega
  have e1 : ((smallS s).extract k (k + (2 + name.size))).toList = lowB (s[k]'h0) :: lowB (s[k + 1]'h1) :: ((tailL s (k + 2)).take name.size).map lowB := by
    rw [ByteArray.toList_eq, cut_list]
    have : tailL (smallS s) k = (tailL s k).map lowB := by
      unfold tailL smallS
      simp
    rw [this, tailL_step s k h0, tailL_step s (k + 1) h1, Nat.add_comm 2 name.size]
    simp [List.map_take]
  have e2 : ((⟨#[60, 47]⟩ : ByteArray) ++ smallS name).toList = 60 :: 47 :: (smallS name).toList := by
    rw [ByteArray.toList_eq, ByteArray.toList_eq, ByteArray.data_append]
    simp
  have e3 : (smallS (s.extract (k + 2) (k + 2 + name.size))).toList = ((tailL s (k + 2)).take name.size).map lowB := by
    rw [small_list, cut_list]
  rw [e1, e2, e3, List.cons_beq_cons, List.cons_beq_cons, lowB_60, lowB_47]

theorem rawEndE_eq (s : ByteArray) (p : Int) (name : ByteArray) : rawEndE s p name = rawE s name p.toNat := by
  unfold rawEndE
  split
  · rw [rawE_end (by omega)]
  · rfl

set_option maxHeartbeats 2000000 in
theorem implRawEnd (s : ByteArray) (p : Int) (name : ByteArray) (w : World) (hs : s.size ≤ 17592186044416) (hn : name.size ≤ 17592186044416) :
    Calls Tryd.prog 51 #[.string s, .int .i64 p, .string name] w fun e w' => e = .returned (.int .i64 (rawEndE s p name : Int)) ∧ Below w.heap.size w w' := by
  have Hr : Hid (rawEndE s p name = rawE s name p.toNat) := rawEndE_eq s p name
  have Hcut : Hid (∀ k, (h : k + 2 + name.size < s.size) → rawAt s name k h = ((((smallS s).extract k (k + (2 + name.size))).toList == ((⟨#[60, 47]⟩ : ByteArray) ++ smallS name).toList) && endU (s[k + 2 + name.size]'h))) := fun k h => by
    unfold rawAt
    rw [raw_cut h, Bool.and_assoc, Bool.and_assoc]
  have hS : Hid ((smallS s).size = s.size) := smallS_size s
  have hW : ((⟨#[60, 47]⟩ : ByteArray) ++ smallS name).size = 2 + name.size := by
    rw [ByteArray.size_append, smallS_size]
    rfl
  have I1 := fun w => implSmall s w (by omega)
  have I2 := fun w => implSmall name w (by omega)
  generalize smallS s = S at *
  generalize smallS name = sn at *
  go_enter Tryd.func51, Tryd.ntmps51
  go_wp2_with fail
  refine (I1 _).mono ?_
  rintro e w1 ⟨rfl, b1⟩
  go_wp2_with fail
  refine (I2 _).mono ?_
  rintro e w2 ⟨rfl, b2⟩
  have b12 : Below w.heap.size w w2 := b1.trans (b2.mono b1.size)
  have hsn : sn.size = name.size := by
    rw [ByteArray.size_append] at hW
    have : (⟨#[60, 47]⟩ : ByteArray).size = 2 := rfl
    omega
  clear b1 b2 I1 I2
  go_wp2
  have HW : Hid (((⟨#[60, 47]⟩ : ByteArray) ++ sn).size = 2 + name.size) := hW
  clear hW hsn
  generalize ((⟨#[60, 47]⟩ : ByteArray) ++ sn) = W at *
  go_loopw [1] (fun v wr => ∃ k : Nat, v = .int .i64 (k : Int) ∧ Hid (rawEndE s p name = rawE s name k) ∧ wr = w2) (fun v _ => s.size - (intOf v).toNat)
  case atStart => exact ⟨p.toNat, by rw [Int.toNat_eq_max], Hr, rfl⟩
  case round =>
    obtain ⟨k, rfl, Hk, rfl⟩ := hrel
    by_cases hlt : k < s.size
    · by_cases hb : k + 2 + name.size < s.size
      · have Hc := Hcut.out k hb
        have hW := HW.out
        have hS' := hS.out
        have q1 : IntKind.i64.wrap ((k : Int) + (W.size : Int)) = (k : Int) + (W.size : Int) := IntWalk.i64_in _ (by omega)
        have q2 : (k : Int) + (W.size : Int) < (s.size : Int) := by omega
        have q2' : (k : Int) + (W.size : Int) ≤ (S.size : Int) := by omega
        have q3 : (k : Int) ≤ (k : Int) + (W.size : Int) := by omega
        have q4 : ((k : Int) + (W.size : Int)).toNat = k + W.size := by omega
        have q5 : (0 : Int) ≤ (k : Int) + (W.size : Int) := by omega
        have q6 : k + W.size < s.size := by omega
        have hi : k + 2 + name.size = k + W.size := by omega
        have hbyte : s[k + 2 + name.size]'hb = s[k + W.size]'q6 := by congr 1
        rw [hbyte, ← hW] at Hc
        have Hone := implIsOne (s[k + W.size]'q6) ⟨#[9, 10, 12, 13, 32, 47, 62]⟩
        rw [show oneU ⟨#[9, 10, 12, 13, 32, 47, 62]⟩ (s[k + W.size]'q6) = endU (s[k + W.size]'q6) from congrFun one_end _] at Hone
        clear hbyte hi hW hS'
        cases hc : (S.extract k (k + W.size)).toList == W.toList
        · have Hn : Hid (rawEndE s p name = rawE s name (k + 1)) := Hk.out.trans (rawE_no hb (by rw [Hc, hc]; rfl))
          clear Hc Hk Hone
          go_wp2_with fail
          go_roundw
          case rel => exact ⟨k + 1, by go_num, Hn, by first | trivial | rfl⟩
          case measure => simp [intOf]; omega
        · cases he : endU (s[k + W.size]'q6)
          · have Hn : Hid (rawEndE s p name = rawE s name (k + 1)) := Hk.out.trans (rawE_no hb (by rw [Hc, hc, he]; rfl))
            rw [he] at Hone
            clear Hc Hk he
            go_wp2_with fail
            refine (Hone _).mono ?_
            rintro e w3 ⟨rfl, rfl⟩
            go_wp2_with fail
            go_roundw
            case rel => exact ⟨k + 1, by go_num, Hn, by first | trivial | rfl⟩
            case measure => simp [intOf]; omega
          · have Hn : Hid (rawEndE s p name = k) := Hk.out.trans (rawE_yes hb (by rw [Hc, hc, he]; rfl))
            rw [he] at Hone
            clear Hc Hk he
            go_wp2_with fail
            refine (Hone _).mono ?_
            rintro e w3 ⟨rfl, rfl⟩
            go_wp2_with fail
            go_ret
            exact ⟨ret_i64' (by rw [Hn.out]), b12⟩
      · have Hn : Hid (rawEndE s p name = rawE s name (k + 1)) := by
          show _ = _
          rw [Hk.out, rawE_end hb, rawE_end (by omega)]
        have hW := HW.out
        have hS' := hS.out
        have q1 : IntKind.i64.wrap ((k : Int) + (W.size : Int)) = (k : Int) + (W.size : Int) := IntWalk.i64_in _ (by omega)
        have q2 : decide ((k : Int) + (W.size : Int) < (s.size : Int)) = false := decide_eq_false (by omega)
        have q2' : ¬ (k : Int) + (W.size : Int) < (s.size : Int) := by omega
        clear Hk hW hS'
        go_wp2_with fail
        go_roundw
        case rel => exact ⟨k + 1, by go_num, Hn, by first | trivial | rfl⟩
        case measure => simp [intOf]; omega
    · have Hn : Hid (rawEndE s p name = s.size) := by
        show _ = _
        rw [Hk.out, rawE_end (by omega)]
      have g0 : decide ((k : Int) < (s.size : Int)) = false := decide_eq_false (by omega)
      clear Hk
      go_wp2
      go_ret
      exact ⟨ret_i64' (by rw [Hn.out]), b12⟩

end Go.Proofs.YtmambbknljgjcaaDoor.Sg
