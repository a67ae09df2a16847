/- The program's textSignAt. -/
import Derived.Test.YtfbnhjogkjbcbaaDoorMA10
import Derived.Test.YtfbnhjogkjbcbaaDoorPcRefI
import Derived.Test.YtfbnhjogkjbcbaaDoorPcSign
namespace Go.Proofs.YtfbnhjogkjbcbaaDoor.Sg
open Go.ChangeShapes Go.WideShapes Go.ChangeAt Go.RowKit

/-- What the world holds, and how long the library's own number is. -/
def PcX (a : Addr) (w : World) : Prop := PcT a w ∧ MaxLen w
theorem PcX.below {a : Addr} {w w' : World} (h : PcX a w) (hb : Below w.heap.size w w') : PcX a w' := ⟨h.1.below hb, h.2.below hb⟩

/-- A text's sign, as it is or as a reference: its bytes, and the place behind it. -/
def tsO (s : ByteArray) (k : Nat) (h : k < s.size) : Option (ByteArray × Nat) := if s[k]'h = 38 then xrefR s k else if psignB s k then some (s.extract k (k + (getS s k).2), k + (getS s k).2) else none

set_option maxHeartbeats 4000000 in
theorem implTextSign (s : ByteArray) (k : Nat) (a : Addr) (w : World) (hk : k < s.size) (hs : s.size ≤ 1073741824) (hX : PcX a w) :
    Calls Tryd.prog 55 #[.string s, .int .i64 (k : Int)] w fun e w' => e = .returned (prefV a k (tsO s k hk)) ∧ Below w.heap.size w w' := by
  have HX : Hid (PcX a w) := hX
  clear hX
  by_cases h38 : s[k]'hk = 38
  · have g38 : (((s[k]'hk).toNat : Int) == 38) = true := by rw [h38]; rfl
    have Ho : Hid (tsO s k hk = xrefR s k) := if_pos h38
    have HC := refAt_in s k a w hk h38 hs HX.out.1.2 HX.out.2
    clear h38
    generalize xrefR s k = R at *
    go_enter Tryd.func55, Tryd.ntmps55
    go_wp2_with fail
    refine HC.mono ?_
    rintro e w1 ⟨rfl, b1⟩
    cases R with
    | none =>
      rw [show prefV a k none = .tuple #[.string ⟨#[]⟩, .int .i64 k, errV a] from rfl]
      go_wp2_with fail
      go_ret3
      exact ⟨ret_pref0 Ho.out, b1⟩
    | some r =>
      obtain ⟨t, j⟩ := r
      rw [show prefV a k (some (t, j)) = .tuple #[.string t, .int .i64 (j : Int), .nilIface] from rfl]
      go_wp2_with fail
      go_ret3
      exact ⟨ret_pref Ho.out rfl, b1⟩
  · have g38 : (((s[k]'hk).toNat : Int) == 38) = false := by
      rw [beq_eq_false_iff_ne]
      intro h
      exact h38 (UInt8.toNat_inj.1 (show (s[k]'hk).toNat = 38 by omega))
    have Ho : Hid (tsO s k hk = if psignB s k then some (s.extract k (k + (getS s k).2), k + (getS s k).2) else none) := if_neg h38
    have Hp : Hid (psignB s k = (textB ((getS s k).1 : Int) && (decide ((getS s k).1 ≠ 13) && (decide ((getS s k).1 ≠ 60) && asRead s k)))) := rfl
    clear h38
    cases hr : asRead s k
    · have HG := signAt_no s k a w hk (by omega) HX.out.1 hr
      have Hn : Hid (tsO s k hk = none) := by show _ = _; rw [Ho.out, Hp.out, hr]; simp
      clear hr Hp Ho
      go_enter Tryd.func55, Tryd.ntmps55
      go_wp2_with fail
      refine HG.mono ?_
      rintro e w1 ⟨rfl, b1⟩
      have hv1 : w1.cell? ⟨0, 0, none⟩ = some (errV a) := HX.out.1.2.below b1
      clear HG
      go_wp2_with fail
      go_quiet (fail)
      have bf := drew_kd b1 nq
      go_wp2_with fail
      go_ret3
      exact ⟨ret_pref0 Hn.out, bf⟩
    · have HG := signAt_yes s k a w hk (by omega) HX.out.1 hr
      have hm := getS_many s k hk
      rw [hr] at Hp
      clear hr
      have HI := implIsText ((getS s k).1 : Int)
      generalize psignB s k = ps at *
      generalize (getS s k).1 = n at *
      generalize (getS s k).2 = m at *
      cases ht : textB (n : Int)
      · have Hn : Hid (tsO s k hk = none) := by show _ = _; rw [Ho.out, Hp.out, ht]; simp
        rw [ht] at HI
        clear ht Hp Ho
        go_enter Tryd.func55, Tryd.ntmps55
        go_wp2_with fail
        refine HG.mono ?_
        rintro e w1 ⟨rfl, b1⟩
        have hv1 : w1.cell? ⟨0, 0, none⟩ = some (errV a) := HX.out.1.2.below b1
        clear HG
        go_wp2_with fail
        refine (HI _).mono ?_
        rintro e w2 ⟨rfl, rfl⟩
        clear HI
        go_wp2_with fail
        go_quiet (fail)
        have bf := drew_kd b1 nq
        go_wp2_with fail
        go_ret3
        exact ⟨ret_pref0 Hn.out, bf⟩
      · rw [ht] at HI Hp
        clear ht
        by_cases h13 : n = 13
        · have Hn : Hid (tsO s k hk = none) := by show _ = _; rw [Ho.out, Hp.out, h13]; simp
          have g13 : ((n : Int) == 13) = true := by rw [h13]; rfl
          clear h13 Hp Ho
          go_enter Tryd.func55, Tryd.ntmps55
          go_wp2_with fail
          refine HG.mono ?_
          rintro e w1 ⟨rfl, b1⟩
          have hv1 : w1.cell? ⟨0, 0, none⟩ = some (errV a) := HX.out.1.2.below b1
          clear HG
          go_wp2_with fail
          refine (HI _).mono ?_
          rintro e w2 ⟨rfl, rfl⟩
          clear HI
          go_wp2_with fail
          go_quiet (fail)
          have bf := drew_kd b1 nq
          go_wp2_with fail
          go_ret3
          exact ⟨ret_pref0 Hn.out, bf⟩
        · have g13 : ((n : Int) == 13) = false := by rw [beq_eq_false_iff_ne]; omega
          by_cases h60 : n = 60
          · have Hn : Hid (tsO s k hk = none) := by show _ = _; rw [Ho.out, Hp.out, h60]; simp
            have g60 : ((n : Int) == 60) = true := by rw [h60]; rfl
            clear h60 h13 Hp Ho
            go_enter Tryd.func55, Tryd.ntmps55
            go_wp2_with fail
            refine HG.mono ?_
            rintro e w1 ⟨rfl, b1⟩
            have hv1 : w1.cell? ⟨0, 0, none⟩ = some (errV a) := HX.out.1.2.below b1
            clear HG
            go_wp2_with fail
            refine (HI _).mono ?_
            rintro e w2 ⟨rfl, rfl⟩
            clear HI
            go_wp2_with fail
            go_quiet (fail)
            have bf := drew_kd b1 nq
            go_wp2_with fail
            go_ret3
            exact ⟨ret_pref0 Hn.out, bf⟩
          · have g60 : ((n : Int) == 60) = false := by rw [beq_eq_false_iff_ne]; omega
            have Hn : Hid (tsO s k hk = some (s.extract k (k + m), k + m)) := by show _ = _; rw [Ho.out, Hp.out]; simp [h13, h60]
            have q1 : (k : Int) ≤ (k : Int) + (m : Int) := by omega
            have q2 : (k : Int) + (m : Int) ≤ (s.size : Int) := by omega
            have q3 : ((k : Int) + (m : Int)).toNat = k + m := by omega
            clear h60 h13 Hp Ho
            go_enter Tryd.func55, Tryd.ntmps55
            go_wp2_with fail
            refine HG.mono ?_
            rintro e w1 ⟨rfl, b1⟩
            clear HG
            go_wp2_with fail
            refine (HI _).mono ?_
            rintro e w2 ⟨rfl, rfl⟩
            clear HI
            go_wp2_with fail
            go_ret3
            exact ⟨ret_pref Hn.out (by rfl), b1⟩

end Go.Proofs.YtfbnhjogkjbcbaaDoor.Sg
