/- Contract of the model's TagEnd. -/
import Derived.Test.YtlaidaghmhmgbaaDoorM02
import Derived.Test.YtlaidaghmhmgbaaDoorTkName2Q
import Derived.Deep.Cut
import Derived.Deep.CutRange
namespace Go.Proofs.YtlaidaghmhmgbaaDoor.Sg
open Go.ChangeShapes Go.WideShapes Go.ChangeAt Go.RowKit

theorem tagEndE_low {s : ByteArray} {p : Int} (h : p < 0) : tagEndE s p = -1 := by
  unfold tagEndE
  rw [if_neg (by omega)]
theorem tagEndE_past {s : ByteArray} {i : Nat} (h : ¬ i < s.size) : tagEndE s (i : Int) = -1 := by
  unfold tagEndE
  rw [Int.toNat_natCast, head_end h, if_neg (by simp)]
theorem tagEndE_other {s : ByteArray} {i : Nat} (h : i < s.size) (hb : (s[i]'h).toNat ≠ 60) : tagEndE s (i : Int) = -1 := by
  unfold tagEndE
  rw [Int.toNat_natCast, head_at h, if_neg]
  intro e
  apply hb
  rw [Option.some.inj e.2]
  rfl
theorem tagEndE_at {s : ByteArray} {i : Nat} (h : i < s.size) (hb : (s[i]'h).toNat = 60) : tagEndE s (i : Int) = tagE s (runE tagU s (afterE s i)) := by
  unfold tagEndE
  rw [Int.toNat_natCast, head_at h, if_pos]
  exact ⟨by omega, by rw [UInt8.toNat_inj.1 (show (s[i]'h).toNat = (60 : UInt8).toNat from hb)]⟩

theorem tagVal_quote {s : ByteArray} {k : Nat} (h : k < s.size) (hq : (s[k]'h).toNat = 34 ∨ (s[k]'h).toNat = 39) : tagVal s k = (match findE s (k + 1) (s[k]'h) with | none => .inl (-1) | some e => .inr (e + 1)) := by
  unfold tagVal
  rw [head_at h]
  exact if_pos hq
theorem tagVal_plain {s : ByteArray} {k : Nat} (h : k < s.size) (hq : ¬ ((s[k]'h).toNat = 34 ∨ (s[k]'h).toNat = 39)) : tagVal s k = .inr (runE (plainU true) s k) := by
  unfold tagVal
  rw [head_at h]
  exact if_neg hq
theorem tagVal_end {s : ByteArray} {k : Nat} (h : ¬ k < s.size) : tagVal s k = .inr (runE (plainU true) s k) := by
  unfold tagVal
  rw [head_end h]
theorem tagEq_yes {s : ByteArray} {k : Nat} (h : k < s.size) (hq : (s[k]'h).toNat = 61) : tagEq s k = tagVal s (runE blankU s (k + 1)) := by
  unfold tagEq
  rw [head_at h]
  exact if_pos hq
theorem tagEq_no {s : ByteArray} {k : Nat} (h : k < s.size) (hq : (s[k]'h).toNat ≠ 61) : tagEq s k = .inr k := by
  unfold tagEq
  rw [head_at h]
  exact if_neg hq
theorem tagEq_end {s : ByteArray} {k : Nat} (h : ¬ k < s.size) : tagEq s k = .inr k := by
  unfold tagEq
  rw [head_end h]
theorem tagStep_end {s : ByteArray} {k : Nat} (h : ¬ runE skipU s k < s.size) : tagStep s k = .inl (-1) := by
  unfold tagStep
  rw [head_end h]
theorem tagStep_found {s : ByteArray} {k m : Nat} (hm : runE skipU s k = m) (h : m < s.size) (hq : (s[m]'h).toNat = 62) : tagStep s k = .inl (m : Int) := by
  subst hm
  unfold tagStep
  rw [head_at h]
  exact if_pos hq
theorem tagStep_name {s : ByteArray} {k m : Nat} (hm : runE skipU s k = m) (h : m < s.size) (hq : (s[m]'h).toNat ≠ 62) : tagStep s k = tagEq s (runE blankU s (nameE true s m)) := by
  subst hm
  unfold tagStep
  rw [head_at h]
  exact if_neg hq

set_option maxRecDepth 20000 in
set_option maxHeartbeats 4000000 in
theorem specTagEnd (s : ByteArray) (p : Int) (w : World) (hs : s.size ≤ 17592186044416) :
    Calls Tryd.prog 15 #[.string s, .int .i64 p] w fun e w' => e = .returned (.int .i64 (tagEndE s p)) ∧ w' = w := by
  by_cases h0 : p < 0
  · have Hn : Hid (tagEndE s p = -1) := tagEndE_low h0
    go_enter Tryd.func15, Tryd.ntmps15
    go_wp2
    go_ret
    exact ⟨ret_i64' Hn.out.symm, rfl⟩
  obtain ⟨i, rfl⟩ : ∃ i : Nat, p = (i : Int) := ⟨p.toNat, by omega⟩
  clear h0
  by_cases h1 : i < s.size
  case neg =>
    have Hn : Hid (tagEndE s (i : Int) = -1) := tagEndE_past h1
    have g1 : (s.size : Int) ≤ (i : Int) := by omega
    go_enter Tryd.func15, Tryd.ntmps15
    go_wp2
    go_ret
    exact ⟨ret_i64' Hn.out.symm, rfl⟩
  have g1 : ¬ (s.size : Int) ≤ (i : Int) := by omega
  by_cases h60 : (s[i]'h1).toNat = 60
  case neg =>
    have Hn : Hid (tagEndE s (i : Int) = -1) := tagEndE_other h1 h60
    have g2 : (((s[i]'h1).toNat : Int) != 60) = true := by simp; omega
    clear h60
    go_enter Tryd.func15, Tryd.ntmps15
    go_wp2
    go_ret
    exact ⟨ret_i64' Hn.out.symm, rfl⟩
  have g2 : (((s[i]'h1).toNat : Int) != 60) = false := by simp [h60]
  have Ho : Hid (tagEndE s (i : Int) = tagE s (runE tagU s (afterE s i))) := tagEndE_at h1 h60
  have ha := afterE_le h1
  have Ha := fun w : World => specAfter s i w hs (by omega)
  have Ht := fun w : World => specTag s (afterE s i) w ha.2 hs
  have ht := runE_le (p := tagU) ha.2
  generalize runE tagU s (afterE s i) = k0 at *
  generalize afterE s i = a0 at *
  clear h60
  go_enter Tryd.func15, Tryd.ntmps15
  go_wp2_with fail
  refine (Ha _).mono ?_
  rintro e w1 ⟨rfl, rfl⟩
  go_wp2_with fail
  refine (Ht _).mono ?_
  rintro e w1 ⟨rfl, rfl⟩
  clear Ha Ht
  go_wp2_with fail
  go_loopw [5] (fun v wr => ∃ k : Nat, k ≤ s.size ∧ v = .int .i64 (k : Int) ∧ Hid (tagEndE s (i : Int) = tagE s k) ∧ wr = w1) (fun v _ => s.size - (intOf v).toNat)
  case atStart => exact ⟨k0, ht.2, rfl, Ho, rfl⟩
  case round =>
    obtain ⟨k, hk, rfl, Hsp, rfl⟩ := hrel
    have hk1 := runE_le (p := skipU) hk
    have Hk1 := fun w : World => specSkip s k w hk hs
    obtain ⟨k1, He1⟩ : ∃ k1, Hid (runE skipU s k = k1) := ⟨_, rfl⟩
    rw [He1.out] at hk1 Hk1
    by_cases h2 : k1 < s.size
    · have g3 : ¬ (s.size : Int) ≤ (k1 : Int) := by omega
      by_cases q62 : (s[k1]'h2).toNat = 62
      · have gk162 : (((s[k1]'h2).toNat : Int) == 62) = true := by simp [q62]
        have nk162 : (((s[k1]'h2).toNat : Int) != 62) = false := by simp [q62]
        have Hn : Hid (tagEndE s (i : Int) = (k1 : Int)) := Hsp.out.trans (tagE_done (tagStep_found He1.out h2 q62))
        clear q62 Hsp He1
        go_wp2_with fail
        refine (Hk1 _).mono ?_
        rintro e w1 ⟨rfl, rfl⟩
        go_wp2
        go_ret
        exact ⟨ret_i64' Hn.out.symm, rfl⟩
      · have gk162 : (((s[k1]'h2).toNat : Int) == 62) = false := by simp; omega
        have nk162 : (((s[k1]'h2).toNat : Int) != 62) = true := by simp; omega
        have hst := tagStep_name He1.out h2 q62
        have hle := fun m (h : tagStep s k = .inr m) => tagStep_le hk h
        have Hgo : Hid (∀ m, tagStep s k = .inr m → tagEndE s (i : Int) = tagE s m) := fun m h => Hsp.out.trans (tagE_goes hk h)
        have Hend : Hid (∀ r, tagStep s k = .inl r → tagEndE s (i : Int) = r) := fun r h => Hsp.out.trans (tagE_done h)
        have hn := nameE_le (angle := true) hk1.2
        have Hn1 := fun w : World => specName s k1 true w hk1.2 hs
        obtain ⟨kn, Hen⟩ : ∃ kn, Hid (nameE true s k1 = kn) := ⟨_, rfl⟩
        rw [Hen.out] at hn Hn1 hst
        have hb := runE_le (p := blankU) hn.2
        have Hb2 := fun w : World => specBlanks s kn w hn.2 hs
        obtain ⟨k2, He2⟩ : ∃ k2, Hid (runE blankU s kn = k2) := ⟨_, rfl⟩
        rw [He2.out] at hb Hb2 hst
        clear q62 Hsp He1 Hen He2
        by_cases h3 : k2 < s.size
        · have g4 : ¬ (s.size : Int) ≤ (k2 : Int) := by omega
          by_cases q61 : (s[k2]'h3).toNat = 61
          · have gk261 : (((s[k2]'h3).toNat : Int) == 61) = true := by simp [q61]
            have nk261 : (((s[k2]'h3).toNat : Int) != 61) = false := by simp [q61]
            have hst2 := hst.trans (tagEq_yes h3 q61)
            have hb3 := runE_le (p := blankU) (s := s) (k := k2 + 1) h3
            have Hb3 : Hid (∀ w : World, Calls Tryd.prog 41 #[.string s, .int .i64 ((k2 : Int) + 1)] w fun e w' => e = .returned (.int .i64 (runE blankU s (k2 + 1) : Int)) ∧ w' = w) := fun w => specBlanks s (k2 + 1) w h3 hs
            obtain ⟨k3, He3⟩ : ∃ k3, Hid (runE blankU s (k2 + 1) = k3) := ⟨_, rfl⟩
            rw [He3.out] at hb3 Hb3 hst2
            have hp := runE_le (p := plainU true) hb3.2
            have Hp := fun w : World => specPlain s k3 true w hb3.2 hs
            clear q61 He3 hst
            by_cases h4 : k3 < s.size
            · have g5 : (k3 : Int) < (s.size : Int) := by omega
              by_cases q34 : (s[k3]'h4).toNat = 34
              · have gk334 : (((s[k3]'h4).toNat : Int) == 34) = true := by simp [q34]
                have nk334 : (((s[k3]'h4).toNat : Int) != 34) = false := by simp [q34]
                have hst3 := hst2.trans (tagVal_quote h4 (.inl q34))
                have Hf : Hid (∀ w : World, Calls Tryd.prog 47 #[.string s, .int .i64 ((k3 : Int) + 1), .int .u8 ((s[k3]'h4).toNat : Int)] w fun e w' => e = .returned (.int .i64 (findV (findE s (k3 + 1) (s[k3]'h4)))) ∧ w' = w) := fun w => specFind s (k3 + 1) (s[k3]'h4) w h4 hs
                cases hf : findE s (k3 + 1) (s[k3]'h4) with
                | none =>
                  rw [hf] at Hf hst3
                  have Hn : Hid (tagEndE s (i : Int) = -1) := Hend.out _ hst3
                  clear hst2 hst3 hf Hgo Hend hle Hp q34
                  simp only [findV] at Hf
                  go_wp2_with fail
                  refine (Hk1 _).mono ?_
                  rintro e w1 ⟨rfl, rfl⟩
                  go_wp2_with fail
                  refine (Hn1 _).mono ?_
                  rintro e w1 ⟨rfl, rfl⟩
                  go_wp2_with fail
                  refine (Hb2 _).mono ?_
                  rintro e w1 ⟨rfl, rfl⟩
                  go_wp2_with fail
                  refine (Hb3.out _).mono ?_
                  rintro e w1 ⟨rfl, rfl⟩
                  go_wp2_with fail
                  refine (Hf.out _).mono ?_
                  rintro e w1 ⟨rfl, rfl⟩
                  go_wp2
                  go_ret
                  exact ⟨ret_i64' Hn.out.symm, rfl⟩
                | some m =>
                  have hfl := findE_le hf
                  rw [hf] at Hf hst3
                  have hgo := hle _ hst3
                  have Hn : Hid (tagEndE s (i : Int) = tagE s (m + 1)) := Hgo.out _ hst3
                  clear hst2 hst3 hf Hgo Hend hle Hp q34
                  simp only [findV] at Hf
                  have gm : ¬ (m : Int) < 0 := by omega
                  go_wp2_with fail
                  refine (Hk1 _).mono ?_
                  rintro e w1 ⟨rfl, rfl⟩
                  go_wp2_with fail
                  refine (Hn1 _).mono ?_
                  rintro e w1 ⟨rfl, rfl⟩
                  go_wp2_with fail
                  refine (Hb2 _).mono ?_
                  rintro e w1 ⟨rfl, rfl⟩
                  go_wp2_with fail
                  refine (Hb3.out _).mono ?_
                  rintro e w1 ⟨rfl, rfl⟩
                  go_wp2_with fail
                  refine (Hf.out _).mono ?_
                  rintro e w1 ⟨rfl, rfl⟩
                  go_wp2
                  go_roundw
                  case rel => exact ⟨m + 1, by omega, by go_num, Hn, by first | trivial | rfl⟩
                  case measure => simp [intOf]; omega
              · by_cases q39 : (s[k3]'h4).toNat = 39
                · have gk334 : (((s[k3]'h4).toNat : Int) == 34) = false := by simp; omega
                  have nk334 : (((s[k3]'h4).toNat : Int) != 34) = true := by simp; omega
                  have gk339 : (((s[k3]'h4).toNat : Int) == 39) = true := by simp [q39]
                  have nk339 : (((s[k3]'h4).toNat : Int) != 39) = false := by simp [q39]
                  have hst3 := hst2.trans (tagVal_quote h4 (.inr q39))
                  have Hf : Hid (∀ w : World, Calls Tryd.prog 47 #[.string s, .int .i64 ((k3 : Int) + 1), .int .u8 ((s[k3]'h4).toNat : Int)] w fun e w' => e = .returned (.int .i64 (findV (findE s (k3 + 1) (s[k3]'h4)))) ∧ w' = w) := fun w => specFind s (k3 + 1) (s[k3]'h4) w h4 hs
                  cases hf : findE s (k3 + 1) (s[k3]'h4) with
                  | none =>
                    rw [hf] at Hf hst3
                    have Hn : Hid (tagEndE s (i : Int) = -1) := Hend.out _ hst3
                    clear hst2 hst3 hf Hgo Hend hle Hp q34 q39
                    simp only [findV] at Hf
                    go_wp2_with fail
                    refine (Hk1 _).mono ?_
                    rintro e w1 ⟨rfl, rfl⟩
                    go_wp2_with fail
                    refine (Hn1 _).mono ?_
                    rintro e w1 ⟨rfl, rfl⟩
                    go_wp2_with fail
                    refine (Hb2 _).mono ?_
                    rintro e w1 ⟨rfl, rfl⟩
                    go_wp2_with fail
                    refine (Hb3.out _).mono ?_
                    rintro e w1 ⟨rfl, rfl⟩
                    go_wp2_with fail
                    refine (Hf.out _).mono ?_
                    rintro e w1 ⟨rfl, rfl⟩
                    go_wp2
                    go_ret
                    exact ⟨ret_i64' Hn.out.symm, rfl⟩
                  | some m =>
                    have hfl := findE_le hf
                    rw [hf] at Hf hst3
                    have hgo := hle _ hst3
                    have Hn : Hid (tagEndE s (i : Int) = tagE s (m + 1)) := Hgo.out _ hst3
                    clear hst2 hst3 hf Hgo Hend hle Hp q34 q39
                    simp only [findV] at Hf
                    have gm : ¬ (m : Int) < 0 := by omega
                    go_wp2_with fail
                    refine (Hk1 _).mono ?_
                    rintro e w1 ⟨rfl, rfl⟩
                    go_wp2_with fail
                    refine (Hn1 _).mono ?_
                    rintro e w1 ⟨rfl, rfl⟩
                    go_wp2_with fail
                    refine (Hb2 _).mono ?_
                    rintro e w1 ⟨rfl, rfl⟩
                    go_wp2_with fail
                    refine (Hb3.out _).mono ?_
                    rintro e w1 ⟨rfl, rfl⟩
                    go_wp2_with fail
                    refine (Hf.out _).mono ?_
                    rintro e w1 ⟨rfl, rfl⟩
                    go_wp2
                    go_roundw
                    case rel => exact ⟨m + 1, by omega, by go_num, Hn, by first | trivial | rfl⟩
                    case measure => simp [intOf]; omega
                · have gk334 : (((s[k3]'h4).toNat : Int) == 34) = false := by simp; omega
                  have nk334 : (((s[k3]'h4).toNat : Int) != 34) = true := by simp; omega
                  have gk339 : (((s[k3]'h4).toNat : Int) == 39) = false := by simp; omega
                  have nk339 : (((s[k3]'h4).toNat : Int) != 39) = true := by simp; omega
                  have hst3 := hst2.trans (tagVal_plain h4 (by omega))
                  have hgo := hle _ hst3
                  have Hn : Hid (tagEndE s (i : Int) = tagE s (runE (plainU true) s k3)) := Hgo.out _ hst3
                  generalize runE (plainU true) s k3 = k4 at *
                  clear hst2 hst3 Hgo Hend hle q34 q39
                  go_wp2_with fail
                  refine (Hk1 _).mono ?_
                  rintro e w1 ⟨rfl, rfl⟩
                  go_wp2_with fail
                  refine (Hn1 _).mono ?_
                  rintro e w1 ⟨rfl, rfl⟩
                  go_wp2_with fail
                  refine (Hb2 _).mono ?_
                  rintro e w1 ⟨rfl, rfl⟩
                  go_wp2_with fail
                  refine (Hb3.out _).mono ?_
                  rintro e w1 ⟨rfl, rfl⟩
                  go_wp2_with fail
                  refine (Hp _).mono ?_
                  rintro e w1 ⟨rfl, rfl⟩
                  go_wp2
                  go_roundw
                  case rel => exact ⟨k4, by omega, by go_num, Hn, by first | trivial | rfl⟩
                  case measure => simp [intOf]; omega
            · have g5 : decide ((k3 : Int) < (s.size : Int)) = false := decide_eq_false (by omega)
              have hst3 := hst2.trans (tagVal_end h4)
              have hgo := hle _ hst3
              have Hn : Hid (tagEndE s (i : Int) = tagE s (runE (plainU true) s k3)) := Hgo.out _ hst3
              generalize runE (plainU true) s k3 = k4 at *
              clear hst2 hst3 Hgo Hend hle 
              go_wp2_with fail
              refine (Hk1 _).mono ?_
              rintro e w1 ⟨rfl, rfl⟩
              go_wp2_with fail
              refine (Hn1 _).mono ?_
              rintro e w1 ⟨rfl, rfl⟩
              go_wp2_with fail
              refine (Hb2 _).mono ?_
              rintro e w1 ⟨rfl, rfl⟩
              go_wp2_with fail
              refine (Hb3.out _).mono ?_
              rintro e w1 ⟨rfl, rfl⟩
              go_wp2_with fail
              refine (Hp _).mono ?_
              rintro e w1 ⟨rfl, rfl⟩
              go_wp2
              go_roundw
              case rel => exact ⟨k4, by omega, by go_num, Hn, by first | trivial | rfl⟩
              case measure => simp [intOf]; omega
          · have gk261 : (((s[k2]'h3).toNat : Int) == 61) = false := by simp; omega
            have nk261 : (((s[k2]'h3).toNat : Int) != 61) = true := by simp; omega
            have hst2 := hst.trans (tagEq_no h3 q61)
            have hgo := hle _ hst2
            have Hn : Hid (tagEndE s (i : Int) = tagE s k2) := Hgo.out _ hst2
            clear hst hst2 Hgo Hend hle q61
            go_wp2_with fail
            refine (Hk1 _).mono ?_
            rintro e w1 ⟨rfl, rfl⟩
            go_wp2_with fail
            refine (Hn1 _).mono ?_
            rintro e w1 ⟨rfl, rfl⟩
            go_wp2_with fail
            refine (Hb2 _).mono ?_
            rintro e w1 ⟨rfl, rfl⟩
            go_wp2
            go_roundw
            case rel => exact ⟨k2, by omega, by go_num, Hn, by first | trivial | rfl⟩
            case measure => simp [intOf]; omega
        · have g4 : (s.size : Int) ≤ (k2 : Int) := by omega
          have hst2 := hst.trans (tagEq_end h3)
          have hgo := hle _ hst2
          have Hn : Hid (tagEndE s (i : Int) = tagE s k2) := Hgo.out _ hst2
          clear hst hst2 Hgo Hend hle 
          go_wp2_with fail
          refine (Hk1 _).mono ?_
          rintro e w1 ⟨rfl, rfl⟩
          go_wp2_with fail
          refine (Hn1 _).mono ?_
          rintro e w1 ⟨rfl, rfl⟩
          go_wp2_with fail
          refine (Hb2 _).mono ?_
          rintro e w1 ⟨rfl, rfl⟩
          go_wp2
          go_roundw
          case rel => exact ⟨k2, by omega, by go_num, Hn, by first | trivial | rfl⟩
          case measure => simp [intOf]; omega
    · have Hn : Hid (tagEndE s (i : Int) = -1) := Hsp.out.trans (tagE_done (tagStep_end (by rw [He1.out]; exact h2)))
      have g3 : (s.size : Int) ≤ (k1 : Int) := by omega
      go_wp2_with fail
      refine (Hk1 _).mono ?_
      rintro e w1 ⟨rfl, rfl⟩
      go_wp2
      go_ret
      exact ⟨ret_i64' Hn.out.symm, rfl⟩

end Go.Proofs.YtlaidaghmhmgbaaDoor.Sg
