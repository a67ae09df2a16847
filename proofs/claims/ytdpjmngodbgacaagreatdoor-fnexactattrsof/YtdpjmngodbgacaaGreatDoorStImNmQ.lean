/- The program's NameOf answers as the plain one. -/
import Derived.Test.YtdpjmngodbgacaaGreatDoorStImOfQ
namespace Go.Proofs.YtdpjmngodbgacaaGreatDoor.Sg
open Go.ChangeShapes Go.WideShapes Go.ChangeAt Go.RowKit

theorem Ints.cut0 {w : World} {g : Nat} {zs : List Int} (h : Ints w (some ⟨g, 0, none⟩) zs) (f d : Nat) (hd : f + d ≤ zs.length) : Ints w (some ⟨g, f, none⟩) ((zs.drop f).take d) := by
  have h1 := h.cut f d hd
  rw [Nat.zero_add] at h1
  exact h1
theorem cut_len (zs : List Int) (f m : Nat) (hfm : f ≤ m) (hm : m ≤ zs.length) : ((zs.drop f).take (m - f)).length = m - f := by
  rw [List.length_take, List.length_drop]
  omega
theorem names_size (zs : List Int) (f : Nat) (h : zs.length ≤ 1048576) : (sgBytes (namesZ true (zs.take f))).length ≤ 29360128 := by
  have h1 := sgBytes_length (namesZ true (zs.take f))
  have h2 := namesZ_length true (zs.take f)
  have h3 : (zs.take f).length ≤ zs.length := by rw [List.length_take]; omega
  omega

set_option maxHeartbeats 4000000 in
set_option maxRecDepth 20000 in
theorem implNameOf (s : ByteArray) (w : World) (hs : s.size ≤ 1048576) (hT : NmT w) :
    Calls Tryz.prog 19 #[.string s] w fun e w' => e = .returned (.string (stNameS s)) ∧ Below w.heap.size w w' := by
  have HT : Hid (NmT w) := hT
  clear hT
  have hl := signsL_length s
  have Hn0 : Hid ((signsL s).length = 0 → stNameS s = ⟨#[85]⟩) := by
    intro h
    unfold stNameS
    rw [if_pos]
    by_cases e : s.size = 0
    · exact e
    · exact absurd (List.eq_nil_of_length_eq_zero h) (signs_some e)
  have Hn1 : Hid ((signsL s).length ≠ 0 → stNameS s = textS (namesZ true (signsL s))) := by
    intro h
    unfold stNameS
    rw [if_neg]
    intro e
    omega
  have Hgood : Hid (∀ k, k < (signsL s).length → 0 ≤ (signsL s).getD k 0 ∧ (signsL s).getD k 0 ≤ 1114111) := signs_good s
  go_enter Tryz.func19, Tryz.ntmps19
  go_wp2_with fail
  refine (implSigns s _ (by omega) HT.out.1).mono ?_
  rintro e w1 ⟨a, cap, rfl, o1, b1⟩
  have HT1 : Hid (NmT w1) := HT.out.below b1
  generalize signsL s = zs at *
  by_cases hz : zs.length = 0
  · have Hv := Hn0.out hz
    have g0 : ((zs.length : Int) == 0) = true := by simp [hz]
    clear Hn0 Hn1 o1
    go_wp2_with fail
    go_ret
    exact ⟨ret_str Hv.symm, b1⟩
  have Hv : Hid (stNameS s = textS (namesZ true zs)) := Hn1.out hz
  have Hne : Hid (zs ≠ []) := by
    show zs ≠ []
    intro e
    exact hz (by rw [e]; rfl)
  clear Hn0 Hn1
  obtain ⟨g, rfl, hcap⟩ : ∃ g, a = some ⟨g, 0, none⟩ ∧ zs.length ≤ cap := by
    rcases o1 with ⟨_, h, _⟩ | ⟨g, cur, ha, _, _, h, _⟩
    · exact absurd h Hne.out
    · exact ⟨g, ha, h⟩
  have I1 : Hid (Ints w1 (some ⟨g, 0, none⟩) zs) := o1.ints
  clear o1
  generalize hlen : zs.length = n at *
  have Hlen : Hid (zs.length = n) := hlen
  clear hlen
  have g0 : ((n : Int) == 0) = false := by simp; exact hz
  have HM := NmB.new w1
  go_wp2_with fail
  have HM : Hid (NmB w1 ((w1.alloc (.cells #[.pointer none, .slice none 0 0] 54)).alloc (.cells #[.int .i64 0] 56)) []) := HM
  go_loopw [6] (fun i wr => ∃ f : Nat, f ≤ n ∧ i = .int .i64 (f : Int) ∧ Hid (NmB w1 wr (sgBytes (namesZ true (zs.take f))))) (fun i _ => n - (intOf i).toNat)
  case atStart => exact ⟨0, Nat.zero_le _, rfl, HM⟩
  case round =>
    obtain ⟨f, hf, rfl, HB⟩ := hrel
    have Hbw : Hid (Below w1.heap.size w1 wr) := HB.out.bel
    have Iw : Hid (Ints wr (some ⟨g, 0, none⟩) zs) := I1.out.below (Nat.le_refl _) Hbw.out
    have HTw : Hid (NmT wr) := HT1.out.below Hbw.out
    have hsz := names_size zs f (by rw [Hlen.out]; omega)
    have HC := fun W h => implCheckName zs (some ⟨g, 0, none⟩) cap f W h (by rw [Hlen.out]; omega) (by rw [Hlen.out]; exact hf)
    rw [Hlen.out] at HC
    clear HM
    go_wp2_with fail
    refine (HC _ Iw.out).mono ?_
    rintro e w2 ⟨hr, b2⟩
    have HB2 : Hid (NmB w1 w2 (sgBytes (namesZ true (zs.take f)))) := HB.out.below b2
    have I2 : Hid (Ints w2 (some ⟨g, 0, none⟩) zs) := Iw.out.below (Nat.le_refl _) b2
    have HT2 : Hid (NmT w2) := HTw.out.below b2
    clear HC HB Iw HTw Hbw b2
    rcases hr with ⟨rfl, _, hall⟩ | ⟨m, rfl, hm⟩
    · have Hall : Hid (namesZ true zs = namesZ true (zs.take f) ++ (zs.drop f).take (n - f)) := by
        show _ = _
        have h := namesZ_run zs f (n - f) (by rw [Hlen.out]; omega) fun k h1 h2 => hall k h1 (by rw [Hlen.out]; omega)
        rw [show f + (n - f) = n by omega, ← Hlen.out, List.take_of_length_le (Nat.le_refl _)] at h
        rw [← Hlen.out]
        exact h
      clear hall
      have Hcl : Hid (((zs.drop f).take (n - f)).length = n - f) := cut_len zs f n hf (by rw [Hlen.out]; exact Nat.le_refl _)
      have HS := fun av c W h => implSignText ((zs.drop f).take (n - f)) av c W h (by rw [Hcl.out]; omega)
      rw [Hcl.out] at HS
      have Htl : Hid ((textS ((zs.drop f).take (n - f))).size ≤ 4194304) := by
        show _ ≤ _
        rw [textS_size]
        have h1 := sgBytes_length ((zs.drop f).take (n - f))
        have h2 := Hcl.out
        omega
      have q0 : (0 : Int) ≤ (f : Int) := Int.natCast_nonneg _
      have q1 : (f : Int) ≤ (n : Int) := by omega
      have q2 : (n : Int) ≤ (cap : Int) := by omega
      by_cases hcf : cap = f
      · have Hav : Hid (Ints w2 (some ⟨g, 0, none⟩) ((zs.drop f).take (n - f))) := .inl (by rw [show n - f = 0 by omega]; rfl)
        go_wp2_with fail
        refine (asNil _ _).mono ?_
        rintro e w3 ⟨rfl, rfl⟩
        go_wp2_with fail
        refine (HS _ 0 _ Hav.out).mono ?_
        rintro e w4 ⟨rfl, b4⟩
        have HB4 : Hid (NmB w1 w4 (sgBytes (namesZ true (zs.take f)))) := HB2.out.below b4
        obtain ⟨old, hold⟩ := HB4.out.tgt
        have Hold : Hid (w4.heap[w1.heap.size + 1]? = some (.cells #[old] 56)) := hold
        clear HS hold b4
        go_wp2_with fail
        refine (nmWrite w1 _ _ (textS ((zs.drop f).take (n - f))) old HB4.out Hold.out (by have := Htl.out; omega)).mono ?_
        rintro e w5 ⟨rfl, HB5, _⟩
        have HB6 : Hid (NmB w1 w5 (sgBytes (namesZ true zs))) := by
          show NmB _ _ _
          rw [Hall.out, sgBytes_append]
          exact HB5
        clear HB5 HB4
        go_wp2_with fail
        refine (Tryz.Builder_String_any_k w1.heap.size w1.heap.size (sgBytes (namesZ true zs)) _ HB6.out.bld HB6.out.bel.size).mono ?_
        rintro e w6 ⟨rfl, _, b6, _⟩
        have Hbel : Hid (Below w.heap.size w w6) := b1.trans ((HB6.out.bel.trans b6).mono b1.size)
        clear b6
        go_wp2_with fail
        go_ret
        exact ⟨ret_str Hv.out.symm, Hbel.out⟩
      · have Hav : Hid (Ints w2 (some ⟨g, f, none⟩) ((zs.drop f).take (n - f))) := I2.out.cut0 f (n - f) (by rw [Hlen.out]; omega)
        go_wp2_with fail
        refine (asNil _ _).mono ?_
        rintro e w3 ⟨rfl, rfl⟩
        go_wp2_with fail
        refine (HS _ (cap - f) _ Hav.out).mono ?_
        rintro e w4 ⟨rfl, b4⟩
        have HB4 : Hid (NmB w1 w4 (sgBytes (namesZ true (zs.take f)))) := HB2.out.below b4
        obtain ⟨old, hold⟩ := HB4.out.tgt
        have Hold : Hid (w4.heap[w1.heap.size + 1]? = some (.cells #[old] 56)) := hold
        clear HS hold b4
        go_wp2_with fail
        refine (nmWrite w1 _ _ (textS ((zs.drop f).take (n - f))) old HB4.out Hold.out (by have := Htl.out; omega)).mono ?_
        rintro e w5 ⟨rfl, HB5, _⟩
        have HB6 : Hid (NmB w1 w5 (sgBytes (namesZ true zs))) := by
          show NmB _ _ _
          rw [Hall.out, sgBytes_append]
          exact HB5
        clear HB5 HB4
        go_wp2_with fail
        refine (Tryz.Builder_String_any_k w1.heap.size w1.heap.size (sgBytes (namesZ true zs)) _ HB6.out.bld HB6.out.bel.size).mono ?_
        rintro e w6 ⟨rfl, _, b6, _⟩
        have Hbel : Hid (Below w.heap.size w w6) := b1.trans ((HB6.out.bel.trans b6).mono b1.size)
        clear b6
        go_wp2_with fail
        go_ret
        exact ⟨ret_str Hv.out.symm, Hbel.out⟩
    · have hm2 : f ≤ m ∧ m < n ∧ (∀ k, f ≤ k → k < m → stayAt zs k = true) ∧ stayAt zs m = false := by
        rcases hm with ⟨h, _⟩ | h
        · exact absurd h Hne.out
        · rw [Hlen.out] at h
          exact h
      obtain ⟨hfm, hmn, hst, hwr⟩ := hm2
      clear hm
      have Hrun : Hid (namesZ true (zs.take m) = namesZ true (zs.take f) ++ (zs.drop f).take (m - f)) := by
        show _ = _
        have h := namesZ_run zs f (m - f) (by rw [Hlen.out]; omega) fun k h1 h2 => hst k h1 (by omega)
        rw [show f + (m - f) = m by omega] at h
        exact h
      have Hnx : Hid (namesZ true (zs.take (m + 1)) = namesZ true (zs.take m) ++ (85 :: sixZ (zs.getD m 0).toNat)) := namesZ_wrong zs m (by rw [Hlen.out]; exact hmn) hwr
      clear hst hwr
      have Hcl : Hid (((zs.drop f).take (m - f)).length = m - f) := cut_len zs f m hfm (by rw [Hlen.out]; omega)
      have HS := fun av c W h => implSignText ((zs.drop f).take (m - f)) av c W h (by rw [Hcl.out]; omega)
      rw [Hcl.out] at HS
      have Htl : Hid ((textS ((zs.drop f).take (m - f))).size ≤ 4194304) := by
        show _ ≤ _
        rw [textS_size]
        have h1 := sgBytes_length ((zs.drop f).take (m - f))
        have h2 := Hcl.out
        omega
      have q0 : (0 : Int) ≤ (f : Int) := Int.natCast_nonneg _
      have q1 : (f : Int) ≤ (m : Int) := by omega
      have q2 : (m : Int) ≤ (cap : Int) := by omega
      have q3 : (m : Int) < (n : Int) := by omega
      have hcf : ¬ cap = f := by omega
      obtain ⟨hg0, hg1⟩ := Hgood.out m hmn
      obtain ⟨z, hz2⟩ := Int.eq_ofNat_of_zero_le hg0
      rw [hz2] at hg1
      rw [hz2, Int.toNat_natCast] at Hnx
      have Hz : Hid (zs.getD m 0 = (z : Int)) := hz2
      clear hg0 hz2
      obtain ⟨old, hold⟩ := HB2.out.tgt
      have Hold : Hid (w2.heap[w1.heap.size + 1]? = some (.cells #[old] 56)) := hold
      clear hold
      go_wp2_with fail
      refine (asHit (m : Int) (w1.heap.size + 1) old _ HT2.out.2.2 Hold.out).mono ?_
      rintro e w3 ⟨rfl, ht3, hs3, hk3, hb3⟩
      have HB3 : Hid (NmB w1 w3 (sgBytes (namesZ true (zs.take f)))) := HB2.out.hit ht3 hk3 (hb3 _ (Nat.le_succ _) (by have := HB2.out.lt; omega))
      have Hbw : Hid (Below w1.heap.size w1 w3) := HB3.out.bel
      have I3 : Hid (Ints w3 (some ⟨g, 0, none⟩) zs) := I1.out.below (Nat.le_refl _) Hbw.out
      have HT3 : Hid (NmT w3) := HT1.out.below Hbw.out
      have Ht3 : Hid (w3.heap[w1.heap.size + 1]? = some (.cells #[.int .i64 (m : Int)] 56)) := ht3
      have c3 : w3.cell? ⟨w1.heap.size + 1, 0, none⟩ = some (.int .i64 (m : Int)) := by rw [Lib.cell_of_heap ht3]; rfl
      have Hav : Hid (Ints w3 (some ⟨g, f, none⟩) ((zs.drop f).take (m - f))) := I3.out.cut0 f (m - f) (by rw [Hlen.out]; omega)
      clear ht3 hs3 hk3 hb3 HB2 I2 HT2 Hold
      go_wp2_with fail
      refine (HS _ (cap - f) _ Hav.out).mono ?_
      rintro e w4 ⟨rfl, b4⟩
      have HB4 : Hid (NmB w1 w4 (sgBytes (namesZ true (zs.take f)))) := HB3.out.below b4
      have Ht4 : Hid (w4.heap[w1.heap.size + 1]? = some (.cells #[.int .i64 (m : Int)] 56)) := (b4.block _ (Array.getElem?_eq_some_iff.1 Ht3.out).1).trans Ht3.out
      clear HS b4 HB3 Ht3 c3 I3 HT3 Hbw Hav
      go_wp2_with fail
      refine (nmWrite w1 _ _ (textS ((zs.drop f).take (m - f))) (.int .i64 (m : Int)) HB4.out Ht4.out (by have := Htl.out; omega)).mono ?_
      rintro e w5 ⟨rfl, HB5', ht5⟩
      have HB5 : Hid (NmB w1 w5 (sgBytes (namesZ true (zs.take m)))) := by
        show NmB _ _ _
        rw [Hrun.out, sgBytes_append]
        exact HB5'
      have Ht5 : Hid (w5.heap[w1.heap.size + 1]? = some (.cells #[.int .i64 (m : Int)] 56)) := ht5
      have c5 : w5.cell? ⟨w1.heap.size + 1, 0, none⟩ = some (.int .i64 (m : Int)) := by rw [Lib.cell_of_heap ht5]; rfl
      have Hbw : Hid (Below w1.heap.size w1 w5) := HB5.out.bel
      have HT5 : Hid (NmT w5) := HT1.out.below Hbw.out
      have d5 : w5.cell? ⟨g, m, none⟩ = some (.int .i64 (z : Int)) := by
        have I5 := I1.out.below (Nat.le_refl _) Hbw.out
        rcases I5 with h | ⟨g', o', ha, _, hc⟩
        · exact absurd h Hne.out
        · cases ha
          have h := hc m (by rw [Hlen.out]; exact hmn)
          rw [Nat.zero_add, Hz.out] at h
          exact h
      clear HB5' ht5 HB4 Ht4
      go_wp2_with fail
      refine (implStrictSign z _ (by omega) HT5.out.2.1).mono ?_
      rintro e w6 ⟨rfl, b6⟩
      have HB6 : Hid (NmB w1 w6 (sgBytes (namesZ true (zs.take m)))) := HB5.out.below b6
      have Ht6 : Hid (w6.heap[w1.heap.size + 1]? = some (.cells #[.int .i64 (m : Int)] 56)) := (b6.block _ (Array.getElem?_eq_some_iff.1 Ht5.out).1).trans Ht5.out
      have hsz2 := names_size zs m (by rw [Hlen.out]; omega)
      have h7 : (textS (85 :: sixZ z)).size ≤ 100 := by rw [textS_size]; have := sgBytes_length (85 :: sixZ z); have h2 : (85 :: sixZ z).length = 7 := rfl; omega
      clear b6 HB5 Ht5 c5 d5 HT5 Hbw
      go_wp2_with fail
      refine (nmWrite w1 _ _ (textS (85 :: sixZ z)) (.int .i64 (m : Int)) HB6.out Ht6.out (by omega)).mono ?_
      rintro e w7 ⟨rfl, HB7', ht7⟩
      have HB7 : Hid (NmB w1 w7 (sgBytes (namesZ true (zs.take (m + 1))))) := by
        show NmB _ _ _
        rw [Hnx.out, sgBytes_append]
        exact HB7'
      have c7 : w7.cell? ⟨w1.heap.size + 1, 0, none⟩ = some (.int .i64 (m : Int)) := by rw [Lib.cell_of_heap ht7]; rfl
      clear HB7' ht7 HB6 Ht6
      go_wp2_with fail
      go_roundw
      case rel => exact ⟨m + 1, by omega, by go_num, HB7⟩
      case measure => simp [intOf]; omega
end Go.Proofs.YtdpjmngodbgacaaGreatDoor.Sg
