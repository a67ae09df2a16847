/- Contracts of the program's TagEnd and Raw. Contract of the program's RawEnd. -/
import Derived.Test.YtlaidaghmhmgbaaDoorTkImplAQ
import Derived.Test.YtlaidaghmhmgbaaDoorTkRawQ
namespace Go.Proofs.YtlaidaghmhmgbaaDoor.Sg
open Go.ChangeShapes Go.WideShapes Go.ChangeAt Go.RowKit

theorem afterE_yes {s : ByteArray} {i : Nat} (h : i + 1 < s.size) (h47 : (s[i + 1]'h).toNat = 47) : afterE s i = i + 2 := by
  unfold afterE
  rw [tailL_step s (i + 1) h, if_pos]
  show some _ = some _
  rw [UInt8.toNat_inj.1 (show (s[i + 1]'h).toNat = (47 : UInt8).toNat from h47)]
theorem afterE_no {s : ByteArray} {i : Nat} (h : i + 1 < s.size) (h47 : (s[i + 1]'h).toNat ≠ 47) : afterE s i = i + 1 := by
  unfold afterE
  rw [tailL_step s (i + 1) h, if_neg]
  intro e
  apply h47
  rw [Option.some.inj e]
  rfl
theorem afterE_end {s : ByteArray} {i : Nat} (h : ¬ i + 1 < s.size) : afterE s i = i + 1 := by
  unfold afterE
  rw [tailL_end s (i + 1) h, if_neg]
  simp

set_option maxHeartbeats 1000000 in
theorem implBehind (s : ByteArray) (i : Nat) (w : World) (hi : i < s.size) (hs : s.size ≤ 17592186044416) :
    Calls Tryd.prog 32 #[.string s, .int .i64 ((i : Int) + 1)] w fun e w' => e = .returned (.int .i64 (runE skipU s (runE tagU s (afterE s i)) : Int)) ∧ w' = w := by
  have U1 : Hid (∀ w, Calls Tryd.prog 66 #[.string s, .int .i64 (afterE s i : Int), .string ⟨#[9, 10, 12, 13, 32, 47, 62]⟩] w fun e w' => e = .returned (.int .i64 (runE tagU s (afterE s i) : Int)) ∧ w' = w) := fun w => by
    have h := implUpTo s (afterE s i) ⟨#[9, 10, 12, 13, 32, 47, 62]⟩ w hs
    rw [not_tag] at h
    exact h
  have U2 : Hid (∀ w, Calls Tryd.prog 33 #[.string s, .int .i64 (runE tagU s (afterE s i) : Int), .string ⟨#[9, 10, 12, 13, 32, 47]⟩] w fun e w' => e = .returned (.int .i64 (runE skipU s (runE tagU s (afterE s i)) : Int)) ∧ w' = w) := fun w => by
    have h := implPast s (runE tagU s (afterE s i)) ⟨#[9, 10, 12, 13, 32, 47]⟩ w hs
    rw [one_skip] at h
    exact h
  generalize runE skipU s (runE tagU s (afterE s i)) = y at *
  generalize runE tagU s (afterE s i) = x at *
  by_cases h : i + 1 < s.size
  · have g0 : (i : Int) + 1 < (s.size : Int) := by omega
    have g1 : (0 : Int) ≤ (i : Int) + 1 := by omega
    have g2 : ((i : Int) + 1).toNat = i + 1 := by omega
    by_cases h47 : (s[i + 1]'h).toNat = 47
    · rw [afterE_yes h h47] at U1
      have q1 : (((s[i + 1]'h).toNat : Int) == 47) = true := by simp [h47]
      have U1' : Hid (∀ w, Calls Tryd.prog 66 #[.string s, .int .i64 ((i : Int) + 1 + 1), .string ⟨#[9, 10, 12, 13, 32, 47, 62]⟩] w fun e w' => e = .returned (.int .i64 (x : Int)) ∧ w' = w) := fun w => by
        have h := U1.out w
        rw [show (((i + 2 : Nat)) : Int) = (i : Int) + 1 + 1 by omega] at h
        exact h
      clear U1 h47
      go_enter Tryd.func32, Tryd.ntmps32
      go_wp2_with fail
      refine (U1'.out _).mono ?_
      rintro e w1 ⟨rfl, rfl⟩
      go_wp2_with fail
      refine (U2.out _).mono ?_
      rintro e w1 ⟨rfl, rfl⟩
      go_wp2
      go_ret
      exact ⟨rfl, rfl⟩
    · rw [afterE_no h h47] at U1
      have q1 : (((s[i + 1]'h).toNat : Int) == 47) = false := by simp; omega
      clear h47
      go_enter Tryd.func32, Tryd.ntmps32
      go_wp2_with fail
      refine (U1.out _).mono ?_
      rintro e w1 ⟨rfl, rfl⟩
      go_wp2_with fail
      refine (U2.out _).mono ?_
      rintro e w1 ⟨rfl, rfl⟩
      go_wp2
      go_ret
      exact ⟨rfl, rfl⟩
  · rw [afterE_end h] at U1
    have g0 : decide ((i : Int) + 1 < (s.size : Int)) = false := decide_eq_false (by omega)
    go_enter Tryd.func32, Tryd.ntmps32
    go_wp2_with fail
    refine (U1.out _).mono ?_
    rintro e w1 ⟨rfl, rfl⟩
    go_wp2_with fail
    refine (U2.out _).mono ?_
    rintro e w1 ⟨rfl, rfl⟩
    go_wp2
    go_ret
    exact ⟨rfl, rfl⟩

theorem tagEndE_no {s : ByteArray} {p : Int} (h : ¬ (0 ≤ p ∧ (tailL s p.toNat).head? = some 60)) : tagEndE s p = -1 := if_neg h
theorem tagEndE_at {s : ByteArray} {i : Nat} (h : i < s.size) (h60 : (s[i]'h).toNat = 60) : tagEndE s (i : Int) = tagE s (runE tagU s (afterE s i)) := by
  unfold tagEndE
  rw [if_pos]
  · rfl
  · refine ⟨by omega, ?_⟩
    show (tailL s i).head? = _
    rw [head_at h]
    show some _ = some _
    rw [UInt8.toNat_inj.1 (show (s[i]'h).toNat = (60 : UInt8).toNat from h60)]

theorem field_behind (a b c d : Int) (w : World) : (Instr.field 51 (.agg #[.int .i64 a, .int .i64 b, .int .i64 c, .int .i64 d]) 3).run Tryd.prog w = .ok (.int .i64 d) w := by kernel_rfl

set_option maxHeartbeats 2000000 in
theorem implTagEnd (s : ByteArray) (p : Int) (w : World) (hs : s.size ≤ 17592186044416) :
    Calls Tryd.prog 9 #[.string s, .int .i64 p] w fun e w' => e = .returned (.int .i64 (tagEndE s p)) ∧ Below w.heap.size w w' := by
  by_cases h0 : p < 0
  · have Hn : Hid (tagEndE s p = -1) := tagEndE_no (fun h => by omega)
    go_enter Tryd.func9, Tryd.ntmps9
    go_wp2
    go_ret
    exact ⟨ret_i64' Hn.out.symm, Below.refl _ _⟩
  obtain ⟨i, rfl⟩ : ∃ i : Nat, p = (i : Int) := ⟨p.toNat, by omega⟩
  clear h0
  by_cases h1 : i < s.size
  case neg =>
    have Hn : Hid (tagEndE s (i : Int) = -1) := tagEndE_no (fun h => by
      have h2 : (tailL s i).head? = some 60 := h.2
      rw [head_end h1] at h2
      cases h2)
    have g1 : (s.size : Int) ≤ (i : Int) := by omega
    go_enter Tryd.func9, Tryd.ntmps9
    go_wp2
    go_ret
    exact ⟨ret_i64' Hn.out.symm, Below.refl _ _⟩
  have g1 : ¬ (s.size : Int) ≤ (i : Int) := by omega
  by_cases h60 : (s[i]'h1).toNat = 60
  case neg =>
    have Hn : Hid (tagEndE s (i : Int) = -1) := tagEndE_no (fun h => by
      have h2 : (tailL s i).head? = some 60 := h.2
      rw [head_at h1] at h2
      apply h60
      rw [Option.some.inj h2]
      rfl)
    have g2 : (((s[i]'h1).toNat : Int) != 60) = true := by simp; omega
    clear h60
    go_enter Tryd.func9, Tryd.ntmps9
    go_wp2
    go_ret
    exact ⟨ret_i64' Hn.out.symm, Below.refl _ _⟩
  have g2 : (((s[i]'h1).toNat : Int) != 60) = false := by simp [h60]
  have ha := afterE_le h1
  have hr := runE_le (p := tagU) ha.2
  have Hat : Hid (TagAt s (runE skipU s (runE tagU s (afterE s i))) (tagEndE s (i : Int))) := .inr ⟨_, hr.2, rfl, tagEndE_at h1 h60⟩
  have Hb := fun w => implBehind s i w h1 hs
  clear h60 ha hr
  generalize runE skipU s (runE tagU s (afterE s i)) = m0 at *
  generalize tagEndE s (i : Int) = R at *
  go_enter Tryd.func9, Tryd.ntmps9
  go_wp2_with fail
  refine (Hb _).mono ?_
  rintro e w1 ⟨rfl, rfl⟩
  go_wp2
  go_loopw [1] (fun v wr => ∃ m : Nat, v = .int .i64 (m : Int) ∧ Hid (TagAt s m R) ∧ Below w1.heap.size w1 wr) (fun v _ => s.size - (intOf v).toNat)
  case atStart => exact ⟨m0, rfl, Hat, Below.refl _ _⟩
  case round =>
    obtain ⟨m, rfl, Hm, hbel⟩ := hrel
    by_cases hlt : m < s.size
    · by_cases h62 : (s[m]'hlt).toNat = 62
      · have Hn : Hid (R = (m : Int)) := Hm.out.here hlt h62
        have g3 : (((s[m]'hlt).toNat : Int) != 62) = false := by simp [h62]
        have g4 : ¬ (s.size : Int) ≤ (m : Int) := by omega
        clear h62 Hm
        go_wp2
        go_ret
        exact ⟨ret_i64' Hn.out.symm, hbel⟩
      · obtain ⟨hx, hlt2⟩ := Hm.out.next hlt h62
        have g3 : (((s[m]'hlt).toNat : Int) != 62) = true := by simp; omega
        have hle := TagAt.le hx
        have Ha := fun w => implAttrAt true ⟨#[62]⟩ endOk_angle s m w hlt hs
        have U1 : Hid (∀ w, Calls Tryd.prog 33 #[.string s, .int .i64 ((plE true s m).2.2.2 : Int), .string ⟨#[9, 10, 12, 13, 32, 47]⟩] w fun e w' => e = .returned (.int .i64 (runE skipU s (plE true s m).2.2.2 : Int)) ∧ w' = w) := fun w => by
          have h := implPast s (plE true s m).2.2.2 ⟨#[9, 10, 12, 13, 32, 47]⟩ w hs
          rw [one_skip] at h
          exact h
        have Hx : Hid (TagAt s (runE skipU s (plE true s m).2.2.2) R) := hx
        clear hx h62 Hm
        generalize runE skipU s (plE true s m).2.2.2 = m' at *
        generalize plE true s m = pl at *
        obtain ⟨p1, p2, p3, p4⟩ := pl
        go_wp2_with fail
        refine (Ha _).mono ?_
        rintro e w2 ⟨rfl, b2⟩
        have hbel2 := hbel.trans (b2.mono hbel.size)
        clear b2
        simp only [plVal]
        have hfd := field_behind (p1 : Int) (p2 : Int) (p3 : Int) (p4 : Int)
        go_wp2_with fail
        refine (U1.out _).mono ?_
        rintro e w3 ⟨rfl, rfl⟩
        go_wp2
        go_roundw
        case rel => exact ⟨m', rfl, Hx, hbel2⟩
        case measure => simp [intOf]; omega
    · have Hn : Hid (R = -1) := Hm.out.past hlt
      have g3 : decide ((m : Int) < (s.size : Int)) = false := decide_eq_false (by omega)
      have g4 : (s.size : Int) ≤ (m : Int) := by omega
      clear Hm
      go_wp2
      go_ret
      exact ⟨ret_i64' Hn.out.symm, hbel⟩

set_option maxHeartbeats 1000000 in
theorem implRaw (s : ByteArray) (w : World) :
    Calls Tryd.prog 17 #[.string s] w fun e w' => e = .returned (.bool (rawB s)) ∧ w' = w := by
  have e1 : (⟨#[115, 99, 114, 105, 112, 116]⟩ : ByteArray).toList = [115, 99, 114, 105, 112, 116] := ByteArray.toList_mk _
  have e2 : (⟨#[115, 116, 121, 108, 101]⟩ : ByteArray).toList = [115, 116, 121, 108, 101] := ByteArray.toList_mk _
  have e3 : (⟨#[116, 105, 116, 108, 101]⟩ : ByteArray).toList = [116, 105, 116, 108, 101] := ByteArray.toList_mk _
  have e4 : (⟨#[116, 101, 120, 116, 97, 114, 101, 97]⟩ : ByteArray).toList = [116, 101, 120, 116, 97, 114, 101, 97] := ByteArray.toList_mk _
  have Hn : Hid (rawB s = (s.toList == [115, 99, 114, 105, 112, 116] || (s.toList == [115, 116, 121, 108, 101] || (s.toList == [116, 105, 116, 108, 101] || s.toList == [116, 101, 120, 116, 97, 114, 101, 97])))) := rfl
  cases h1 : s.toList == [115, 99, 114, 105, 112, 116]
  · cases h2 : s.toList == [115, 116, 121, 108, 101]
    · cases h3 : s.toList == [116, 105, 116, 108, 101]
      · cases h4 : s.toList == [116, 101, 120, 116, 97, 114, 101, 97]
        · rw [h1, h2, h3, h4] at Hn
          go_enter Tryd.func17, Tryd.ntmps17
          go_wp2
          go_ret
          exact ⟨ret_bool' (by rw [Hn.out]; rfl), rfl⟩
        · rw [h1, h2, h3, h4] at Hn
          go_enter Tryd.func17, Tryd.ntmps17
          go_wp2
          go_ret
          exact ⟨ret_bool' (by rw [Hn.out]; rfl), rfl⟩
      · rw [h1, h2, h3] at Hn
        go_enter Tryd.func17, Tryd.ntmps17
        go_wp2
        go_ret
        exact ⟨ret_bool' (by rw [Hn.out]; rfl), rfl⟩
    · rw [h1, h2] at Hn
      go_enter Tryd.func17, Tryd.ntmps17
      go_wp2
      go_ret
      exact ⟨ret_bool' (by rw [Hn.out]; rfl), rfl⟩
  · rw [h1] at Hn
    go_enter Tryd.func17, Tryd.ntmps17
    go_wp2
    go_ret
    exact ⟨ret_bool' (by rw [Hn.out]; rfl), rfl⟩

end Go.Proofs.YtlaidaghmhmgbaaDoor.Sg

namespace Go.Proofs.YtlaidaghmhmgbaaDoor.Sg
open Go.ChangeShapes Go.WideShapes Go.ChangeAt Go.RowKit

theorem one_end : oneU ⟨#[9, 10, 12, 13, 32, 47, 62]⟩ = endU := byte_eq _ _ (by decide +kernel)
theorem lowB_60 (b : UInt8) : (lowB b == 60) = decide (b.toNat = 60) := byte_all (fun b => (lowB b == 60) = decide (b.toNat = 60)) (by decide +kernel) b
theorem lowB_47 (b : UInt8) : (lowB b == 47) = decide (b.toNat = 47) := byte_all (fun b => (lowB b == 47) = decide (b.toNat = 47)) (by decide +kernel) b

theorem smallS_size (s : ByteArray) : (smallS s).size = s.size := by
  unfold smallS
  show ((s.data.toList.map lowB).toArray).size = s.data.size
  simp
theorem small_list (s : ByteArray) : (smallS s).toList = s.data.toList.map lowB := by
  rw [ByteArray.toList_eq]
  simp [smallS]
theorem cut_list (s : ByteArray) (a n : Nat) : (s.extract a (a + n)).data.toList = (tailL s a).take n := by
  rw [ByteArray.data_extract]
  unfold tailL
  simp [List.extract_eq_take_drop]

theorem raw_cut {s name : ByteArray} {k : Nat} (h : k + 2 + name.size < s.size) :
    (((smallS s).extract k (k + (2 + name.size))).toList == ((⟨#[60, 47]⟩ : ByteArray) ++ smallS name).toList)
      = (decide ((s[k]'(by omega)).toNat = 60) && (decide ((s[k + 1]'(by omega)).toNat = 47) && ((smallS (s.extract (k + 2) (k + 2 + name.size))).toList == (smallS name).toList))) := by
  have h0 : k < s.size := by omega
  have h1 : k + 1 < s.size := by omega
  have e1 : ((smallS s).extract k (k + (2 + name.size))).toList = lowB (s[k]'h0) :: lowB (s[k + 1]'h1) :: ((tailL s (k + 2)).take name.size).map lowB := by
    rw [ByteArray.toList_eq, cut_list]
    have : tailL (smallS s) k = (tailL s k).map lowB := by
      unfold tailL smallS
      simp
    rw [this, tailL_step s k h0, tailL_step s (k + 1) h1, Nat.add_comm 2 name.size]
    simp [List.map_take]
  have e2 : ((⟨#[60, 47]⟩ : ByteArray) ++ smallS name).toList = 60 :: 47 :: (smallS name).toList := by
    rw [ByteArray.toList_eq, ByteArray.toList_eq, ByteArray.data_append]
    simp
  have e3 : (smallS (s.extract (k + 2) (k + 2 + name.size))).toList = ((tailL s (k + 2)).take name.size).map lowB := by
    rw [small_list, cut_list]
  rw [e1, e2, e3, List.cons_beq_cons, List.cons_beq_cons, lowB_60, lowB_47]

theorem rawEndE_eq (s : ByteArray) (p : Int) (name : ByteArray) : rawEndE s p name = rawE s name p.toNat := by
  unfold rawEndE
  split
  · rw [rawE_end (by omega)]
  · rfl

set_option maxHeartbeats 2000000 in
theorem implRawEnd (s : ByteArray) (p : Int) (name : ByteArray) (w : World) (hs : s.size ≤ 17592186044416) (hn : name.size ≤ 17592186044416) :
    Calls Tryd.prog 19 #[.string s, .int .i64 p, .string name] w fun e w' => e = .returned (.int .i64 (rawEndE s p name : Int)) ∧ Below w.heap.size w w' := by
  have Hr : Hid (rawEndE s p name = rawE s name p.toNat) := rawEndE_eq s p name
  have Hcut : Hid (∀ k, (h : k + 2 + name.size < s.size) → rawAt s name k h = ((((smallS s).extract k (k + (2 + name.size))).toList == ((⟨#[60, 47]⟩ : ByteArray) ++ smallS name).toList) && endU (s[k + 2 + name.size]'h))) := fun k h => by
    unfold rawAt
    rw [raw_cut h, Bool.and_assoc, Bool.and_assoc]
  have hS : Hid ((smallS s).size = s.size) := smallS_size s
  have hW : ((⟨#[60, 47]⟩ : ByteArray) ++ smallS name).size = 2 + name.size := by
    rw [ByteArray.size_append, smallS_size]
    rfl
  have I1 := fun w => implSmall s w (by omega)
  have I2 := fun w => implSmall name w (by omega)
  generalize smallS s = S at *
  generalize smallS name = sn at *
  go_enter Tryd.func19, Tryd.ntmps19
  go_wp2_with fail
  refine (I1 _).mono ?_
  rintro e w1 ⟨rfl, b1⟩
  go_wp2_with fail
  refine (I2 _).mono ?_
  rintro e w2 ⟨rfl, b2⟩
  have b12 : Below w.heap.size w w2 := b1.trans (b2.mono b1.size)
  have hsn : sn.size = name.size := by
    rw [ByteArray.size_append] at hW
    have : (⟨#[60, 47]⟩ : ByteArray).size = 2 := rfl
    omega
  clear b1 b2 I1 I2
  go_wp2
  have HW : Hid (((⟨#[60, 47]⟩ : ByteArray) ++ sn).size = 2 + name.size) := hW
  clear hW hsn
  generalize ((⟨#[60, 47]⟩ : ByteArray) ++ sn) = W at *
  go_loopw [1] (fun v wr => ∃ k : Nat, v = .int .i64 (k : Int) ∧ Hid (rawEndE s p name = rawE s name k) ∧ wr = w2) (fun v _ => s.size - (intOf v).toNat)
  case atStart => exact ⟨p.toNat, by rw [Int.toNat_eq_max], Hr, rfl⟩
  case round =>
    obtain ⟨k, rfl, Hk, rfl⟩ := hrel
    by_cases hlt : k < s.size
    · by_cases hb : k + 2 + name.size < s.size
      · have Hc := Hcut.out k hb
        have hW := HW.out
        have hS' := hS.out
        have q1 : IntKind.i64.wrap ((k : Int) + (W.size : Int)) = (k : Int) + (W.size : Int) := IntWalk.i64_in _ (by omega)
        have q2 : (k : Int) + (W.size : Int) < (s.size : Int) := by omega
        have q2' : (k : Int) + (W.size : Int) ≤ (S.size : Int) := by omega
        have q3 : (k : Int) ≤ (k : Int) + (W.size : Int) := by omega
        have q4 : ((k : Int) + (W.size : Int)).toNat = k + W.size := by omega
        have q5 : (0 : Int) ≤ (k : Int) + (W.size : Int) := by omega
        have q6 : k + W.size < s.size := by omega
        have hi : k + 2 + name.size = k + W.size := by omega
        have hbyte : s[k + 2 + name.size]'hb = s[k + W.size]'q6 := by congr 1
        rw [hbyte, ← hW] at Hc
        have Hone := implIsOne (s[k + W.size]'q6) ⟨#[9, 10, 12, 13, 32, 47, 62]⟩
        rw [show oneU ⟨#[9, 10, 12, 13, 32, 47, 62]⟩ (s[k + W.size]'q6) = endU (s[k + W.size]'q6) from congrFun one_end _] at Hone
        clear hbyte hi hW hS'
        cases hc : (S.extract k (k + W.size)).toList == W.toList
        · have Hn : Hid (rawEndE s p name = rawE s name (k + 1)) := Hk.out.trans (rawE_no hb (by rw [Hc, hc]; rfl))
          clear Hc Hk Hone
          go_wp2_with fail
          go_roundw
          case rel => exact ⟨k + 1, by go_num, Hn, by first | trivial | rfl⟩
          case measure => simp [intOf]; omega
        · cases he : endU (s[k + W.size]'q6)
          · have Hn : Hid (rawEndE s p name = rawE s name (k + 1)) := Hk.out.trans (rawE_no hb (by rw [Hc, hc, he]; rfl))
            rw [he] at Hone
            clear Hc Hk he
            go_wp2_with fail
            refine (Hone _).mono ?_
            rintro e w3 ⟨rfl, rfl⟩
            go_wp2_with fail
            go_roundw
            case rel => exact ⟨k + 1, by go_num, Hn, by first | trivial | rfl⟩
            case measure => simp [intOf]; omega
          · have Hn : Hid (rawEndE s p name = k) := Hk.out.trans (rawE_yes hb (by rw [Hc, hc, he]; rfl))
            rw [he] at Hone
            clear Hc Hk he
            go_wp2_with fail
            refine (Hone _).mono ?_
            rintro e w3 ⟨rfl, rfl⟩
            go_wp2_with fail
            go_ret
            exact ⟨ret_i64' (by rw [Hn.out]), b12⟩
      · have Hn : Hid (rawEndE s p name = rawE s name (k + 1)) := by
          show _ = _
          rw [Hk.out, rawE_end hb, rawE_end (by omega)]
        have hW := HW.out
        have hS' := hS.out
        have q1 : IntKind.i64.wrap ((k : Int) + (W.size : Int)) = (k : Int) + (W.size : Int) := IntWalk.i64_in _ (by omega)
        have q2 : decide ((k : Int) + (W.size : Int) < (s.size : Int)) = false := decide_eq_false (by omega)
        have q2' : ¬ (k : Int) + (W.size : Int) < (s.size : Int) := by omega
        clear Hk hW hS'
        go_wp2_with fail
        go_roundw
        case rel => exact ⟨k + 1, by go_num, Hn, by first | trivial | rfl⟩
        case measure => simp [intOf]; omega
    · have Hn : Hid (rawEndE s p name = s.size) := by
        show _ = _
        rw [Hk.out, rawE_end (by omega)]
      have g0 : decide ((k : Int) < (s.size : Int)) = false := decide_eq_false (by omega)
      clear Hk
      go_wp2
      go_ret
      exact ⟨ret_i64' (by rw [Hn.out]), b12⟩

end Go.Proofs.YtlaidaghmhmgbaaDoor.Sg
