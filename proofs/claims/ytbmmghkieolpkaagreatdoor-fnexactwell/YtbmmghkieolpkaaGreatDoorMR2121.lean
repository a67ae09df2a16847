/- The program's refAt and XmlRef. The program's textSignAt. The program's reader in memory, what it reads of the world besides, and rows of elements that it makes: each owned, in blocks that were not there before. Contracts of the program's must, pass, takes and want. Contract of the model's l5Swap. Contract of the model's XmlText. -/
import Derived.Test.YtbmmghkieolpkaaGreatDoorPcNum
import Derived.Test.YtbmmghkieolpkaaGreatDoorMR2110
import Derived.Test.YtbmmghkieolpkaaGreatDoorMR2105
import Derived.Test.YtbmmghkieolpkaaGreatDoorPcSign
import Derived.Test.YtbmmghkieolpkaaGreatDoorRdWork
import Derived.Test.YtbmmghkieolpkaaGreatDoorMR2102
import Derived.Test.YtbmmghkieolpkaaGreatDoorMR2114
import Derived.Test.YtbmmghkieolpkaaGreatDoorPcText2
import Derived.Test.YtbmmghkieolpkaaGreatDoorMR2119
import Derived.Deep.QuietTactic
import Derived.Test.YtbmmghkieolpkaaGreatDoorMR2106
import Derived.Test.YtbmmghkieolpkaaGreatDoorMR2108
import Derived.Deep.Cut
import Derived.Deep.CutRange
import Derived.Lib.QuietBelow
import Derived.BigQuiet
import Derived.Laws.DeepStrings4
namespace Go.Proofs.YtbmmghkieolpkaaGreatDoor.Sg
open Go.ChangeShapes Go.WideShapes Go.ChangeAt Go.RowKit

/-- What refAt tells. -/
def prefV (a : Addr) (k : Int) : Option (ByteArray × Nat) → Value
  | some r => .tuple #[.string r.1, .int .i64 (r.2 : Int), .nilIface]
  | none => .tuple #[.string ⟨#[]⟩, .int .i64 k, errV a]
theorem ret_pref {a : Addr} {k : Int} {o : Option (ByteArray × Nat)} {t : ByteArray} {j : Nat} {v : Value} (h : o = some (t, j)) (hv : v = .tuple #[.string t, .int .i64 (j : Int), .nilIface]) : Ending.returned v = .returned (prefV a k o) := by rw [h, hv]; rfl
theorem ret_pref0 {a : Addr} {k : Int} {o : Option (ByteArray × Nat)} (h : o = none) : Ending.returned (.tuple #[.string ⟨#[]⟩, .int .i64 k, errV a]) = .returned (prefV a k o) := by rw [h]; rfl

set_option maxHeartbeats 2000000 in
theorem refAt_out (s : ByteArray) (i : Int) (a : Addr) (w : World) (h : i < 0 ∨ (s.size : Int) ≤ i) (hE : ErrA a w) :
    Calls Tryz.prog 128 #[.string s, .int .i64 i] w fun e w' => e = .returned (prefV a i none) ∧ Below w.heap.size w w' := by
  have hv : w.cell? ⟨0, 0, none⟩ = some (errV a) := hE
  clear hE
  by_cases h0 : i < 0
  · clear h
    go_enter Tryz.func128, Tryz.ntmps128
    go_wp2_with fail
    go_quiet (fail)
    have bf := drew_kd (Below.refl w.heap.size w) nq
    go_wp2_with fail
    go_ret3
    exact ⟨rfl, bf⟩
  · have g0 : decide (i < 0) = false := decide_eq_false h0
    have g1 : (s.size : Int) ≤ i := by omega
    clear h
    go_enter Tryz.func128, Tryz.ntmps128
    go_wp2_with fail
    go_quiet (fail)
    have bf := drew_kd (Below.refl w.heap.size w) nq
    go_wp2_with fail
    go_ret3
    exact ⟨rfl, bf⟩
set_option maxHeartbeats 2000000 in
theorem refAt_not (s : ByteArray) (k : Nat) (a : Addr) (w : World) (hk : k < s.size) (h38 : s[k]'hk ≠ 38) (hE : ErrA a w) :
    Calls Tryz.prog 128 #[.string s, .int .i64 (k : Int)] w fun e w' => e = .returned (prefV a k none) ∧ Below w.heap.size w w' := by
  have hv : w.cell? ⟨0, 0, none⟩ = some (errV a) := hE
  have g38 : (((s[k]'hk).toNat : Int) == 38) = false := by
    rw [beq_eq_false_iff_ne]
    intro h
    exact h38 (UInt8.toNat_inj.1 (show (s[k]'hk).toNat = 38 by omega))
  have g38' : (((s[k]'hk).toNat : Int) != 38) = true := by rw [bne, g38]; rfl
  clear hE h38
  go_enter Tryz.func128, Tryz.ntmps128
  go_wp2_with fail
  go_quiet (fail)
  have bf := drew_kd (Below.refl w.heap.size w) nq
  go_wp2_with fail
  go_ret3
  exact ⟨rfl, bf⟩
theorem tail_bytes (s : ByteArray) (k : Nat) : (s.extract k s.size).data.toList = tailL s k := by
  rw [Lib.extract_data]
  exact List.take_of_length_le (by rw [List.length_drop, ← Lib.size_eq]; exact Nat.le_refl _)
theorem cut_hit {l : List UInt8} {i : Nat} (h : Lib.index l [59] = i) : Lib.cut l [59] = (l.take i, l.drop (i + 1), true) := by
  unfold Lib.cut
  rw [h, if_pos (by omega)]
  rfl
theorem cut_miss {l : List UInt8} (h : Lib.index l [59] = -1) : Lib.cut l [59] = (l, [], false) := by
  unfold Lib.cut
  rw [h, if_neg (by omega)]

set_option maxHeartbeats 4000000 in
theorem refAt_in (s : ByteArray) (k : Nat) (a : Addr) (w : World) (hk : k < s.size) (h38 : s[k]'hk = 38) (hs : s.size ≤ 1073741824) (hE : ErrA a w) (hM : MaxLen w) :
    Calls Tryz.prog 128 #[.string s, .int .i64 (k : Int)] w fun e w' => e = .returned (prefV a k (xrefR s k)) ∧ Below w.heap.size w w' := by
  have HR : Hid (xrefR s k = (refP (tailL s (k + 1))).map fun r => (putS r.1, k + 2 + r.2)) := refP_eq hk h38
  have g38 : (((s[k]'hk).toNat : Int) == 38) = true := by rw [h38]; rfl
  have g38' : (((s[k]'hk).toNat : Int) != 38) = false := by rw [bne, g38]; rfl
  have hlt := tailL_length s (k + 1)
  have q1 : IntKind.i64.wrap ((k : Int) + 1) = (k : Int) + 1 := IntWalk.i64_in _ (by omega)
  have q2 : ((k : Int) + 1).toNat = k + 1 := by omega
  have q3 : (0 : Int) ≤ (k : Int) + 1 := by omega
  have q4 : (k : Int) + 1 ≤ (s.size : Int) := by omega
  have HE : Hid (ErrA a w) := hE
  obtain ⟨m, hm⟩ := hM
  have HC := Tryz.strings_Cut (s.extract (k + 1) s.size) ⟨#[59]⟩ m w (by rw [ByteArray.size_extract]; omega) hm
  rw [tail_bytes, show (⟨#[59]⟩ : ByteArray).data.toList = [59] from rfl] at HC
  clear h38 hE hm
  rcases Lib.index_spec (tailL s (k + 1)) [59] with ⟨h1, _⟩ | ⟨i, h1, h2, _, _⟩
  · have Hn : Hid (xrefR s k = none) := by
      show _ = _
      rw [HR.out]
      unfold refP
      rw [if_neg (by omega)]
      rfl
    rw [cut_miss h1] at HC
    have HS := implRefSign (tailL s (k + 1)) a
    rw [show strB (tailL s (k + 1)) = (⟨(tailL s (k + 1)).toArray⟩ : ByteArray) from rfl] at HS
    clear HR h1
    generalize (⟨(tailL s (k + 1)).toArray⟩ : ByteArray) = nm at *
    generalize refSignL (tailL s (k + 1)) = R at *
    go_enter Tryz.func128, Tryz.ntmps128
    go_wp2_with fail
    refine HC.mono ?_
    rintro e w1 ⟨rfl, n, hw1⟩
    have b1 : Below w.heap.size w w1 := hw1 ▸ drew_kd (Below.refl _ _) n
    clear hw1 HC
    have HE1 := HE.out.below b1
    go_wp2_with fail
    refine (HS w1 (by omega) HE1).mono ?_
    rintro e w2 ⟨rfl, b2⟩
    have b3 := below_from b1 b2
    have hv2 : w2.cell? ⟨0, 0, none⟩ = some (errV a) := HE.out.below b3
    cases R with
    | none =>
      rw [show pnumV a none = .tuple #[.int .i64 0, errV a] from rfl]
      go_wp2_with fail
      go_quiet (fail)
      have bf := drew_kd b3 nq
      go_wp2_with fail
      go_ret3
      exact ⟨ret_pref0 Hn.out, bf⟩
    | some z =>
      rw [show pnumV a (some z) = .tuple #[.int .i64 z, .nilIface] from rfl]
      go_wp2_with fail
      go_quiet (fail)
      have bf := drew_kd b3 nq
      go_wp2_with fail
      go_ret3
      exact ⟨ret_pref0 Hn.out, bf⟩
  · have hil : i < (tailL s (k + 1)).length := by
      have := Lib.index_room (tailL s (k + 1)) [59] (by omega)
      rw [h1] at this
      simp at this
      omega
    have HR2 : Hid (xrefR s k = (refSignL ((tailL s (k + 1)).take i)).map fun z => (putS z, k + 2 + i)) := by
      show _ = _
      rw [HR.out]
      unfold refP
      rw [h1, if_pos (by omega), show ((i : Nat) : Int).toNat = i from rfl, Option.map_map]
      rfl
    rw [cut_hit h1] at HC
    have htl : ((tailL s (k + 1)).take i).length = i := by rw [List.length_take]; omega
    have HS := implRefSign ((tailL s (k + 1)).take i) a
    have hsz : (strB ((tailL s (k + 1)).take i)).size = i := by rw [strB_size, htl]
    rw [show strB ((tailL s (k + 1)).take i) = (⟨((tailL s (k + 1)).take i).toArray⟩ : ByteArray) from rfl] at HS hsz
    clear HR h1
    generalize (⟨((tailL s (k + 1)).take i).toArray⟩ : ByteArray) = nm at *
    generalize (⟨((tailL s (k + 1)).drop (i + 1)).toArray⟩ : ByteArray) = rs at *
    rw [htl] at HS
    generalize refSignL ((tailL s (k + 1)).take i) = R at *
    have Hsz : Hid (nm.size = i) := hsz
    clear hsz htl h2
    have q5 : IntKind.i64.wrap ((k : Int) + 1 + (nm.size : Int)) = (k : Int) + 1 + (nm.size : Int) := IntWalk.i64_in _ (by have := Hsz.out; omega)
    have q6 : IntKind.i64.wrap ((k : Int) + 1 + (nm.size : Int) + 1) = (k : Int) + 1 + (nm.size : Int) + 1 := IntWalk.i64_in _ (by have := Hsz.out; omega)
    have Hj : Hid (((k + 2 + i : Nat) : Int) = (k : Int) + 1 + (nm.size : Int) + 1) := by show _ = _; have := Hsz.out; omega
    go_enter Tryz.func128, Tryz.ntmps128
    go_wp2_with fail
    refine HC.mono ?_
    rintro e w1 ⟨rfl, n, hw1⟩
    have b1 : Below w.heap.size w w1 := hw1 ▸ drew_kd (Below.refl _ _) n
    clear hw1 HC
    have HE1 := HE.out.below b1
    go_wp2_with fail
    refine (HS w1 (by omega) HE1).mono ?_
    rintro e w2 ⟨rfl, b2⟩
    have b3 := below_from b1 b2
    have hv2 : w2.cell? ⟨0, 0, none⟩ = some (errV a) := HE.out.below b3
    cases R with
    | none =>
      have Hn : Hid (xrefR s k = none) := HR2.out
      rw [show pnumV a none = .tuple #[.int .i64 0, errV a] from rfl]
      go_wp2_with fail
      go_quiet (fail)
      have bf := drew_kd b3 nq
      go_wp2_with fail
      go_ret3
      exact ⟨ret_pref0 Hn.out, bf⟩
    | some z =>
      have Hn : Hid (xrefR s k = some (putS z, k + 2 + i)) := HR2.out
      have HP := implPutSign z
      generalize putS z = P at *
      rw [show pnumV a (some z) = .tuple #[.int .i64 z, .nilIface] from rfl]
      go_wp2_with fail
      refine (HP _).mono ?_
      rintro e w3 ⟨rfl, rfl⟩
      go_wp2_with fail
      go_ret3
      exact ⟨ret_pref Hn.out (by rw [Hj.out]; rfl), b3⟩

theorem xref_not {s : ByteArray} {k : Nat} (h : k < s.size) (h38 : s[k]'h ≠ 38) : xrefR s k = none := by
  have S : ∀ y : List UInt8, standsB s k (strB (38 :: y)) = false := by
    intro y
    cases hc : standsB s k (strB (38 :: y)) with
    | false => rfl
    | true =>
      exfalso
      obtain ⟨e, hl⟩ := parted s k h
      generalize s.data.toList.take k = pre at *
      subst hl
      rw [e, stands_pre, List.isPrefixOf_iff_prefix] at hc
      obtain ⟨r, hr⟩ := hc
      injection hr with h1 _
      exact h38 h1.symm
  unfold xrefR
  rw [show standsB s k ampB = false from S _, show standsB s k ltB = false from S _, show standsB s k gtB = false from S _, show standsB s k quotB = false from S _, show standsB s k aposB = false from S _, show standsB s k hashB = false from S _]
  rfl

end Go.Proofs.YtbmmghkieolpkaaGreatDoor.Sg

namespace Go.Proofs.YtbmmghkieolpkaaGreatDoor.Sg
open Go.ChangeShapes Go.WideShapes Go.ChangeAt Go.RowKit

/-- What the world holds, and how long the library's own number is. -/
def PcX (a : Addr) (w : World) : Prop := PcT a w ∧ MaxLen w
theorem PcX.below {a : Addr} {w w' : World} (h : PcX a w) (hb : Below w.heap.size w w') : PcX a w' := ⟨h.1.below hb, h.2.below hb⟩

/-- A text's sign, as it is or as a reference: its bytes, and the place behind it. -/
def tsO (s : ByteArray) (k : Nat) (h : k < s.size) : Option (ByteArray × Nat) := if s[k]'h = 38 then xrefR s k else if psignB s k then some (s.extract k (k + (getS s k).2), k + (getS s k).2) else none

set_option maxHeartbeats 4000000 in
theorem implTextSign (s : ByteArray) (k : Nat) (a : Addr) (w : World) (hk : k < s.size) (hs : s.size ≤ 1073741824) (hX : PcX a w) :
    Calls Tryz.prog 108 #[.string s, .int .i64 (k : Int)] w fun e w' => e = .returned (prefV a k (tsO s k hk)) ∧ Below w.heap.size w w' := by
  have HX : Hid (PcX a w) := hX
  clear hX
  by_cases h38 : s[k]'hk = 38
  · have g38 : (((s[k]'hk).toNat : Int) == 38) = true := by rw [h38]; rfl
    have Ho : Hid (tsO s k hk = xrefR s k) := if_pos h38
    have HC := refAt_in s k a w hk h38 hs HX.out.1.2 HX.out.2
    clear h38
    generalize xrefR s k = R at *
    go_enter Tryz.func108, Tryz.ntmps108
    go_wp2_with fail
    refine HC.mono ?_
    rintro e w1 ⟨rfl, b1⟩
    cases R with
    | none =>
      rw [show prefV a k none = .tuple #[.string ⟨#[]⟩, .int .i64 k, errV a] from rfl]
      go_wp2_with fail
      go_ret3
      exact ⟨ret_pref0 Ho.out, b1⟩
    | some r =>
      obtain ⟨t, j⟩ := r
      rw [show prefV a k (some (t, j)) = .tuple #[.string t, .int .i64 (j : Int), .nilIface] from rfl]
      go_wp2_with fail
      go_ret3
      exact ⟨ret_pref Ho.out rfl, b1⟩
  · have g38 : (((s[k]'hk).toNat : Int) == 38) = false := by
      rw [beq_eq_false_iff_ne]
      intro h
      exact h38 (UInt8.toNat_inj.1 (show (s[k]'hk).toNat = 38 by omega))
    have Ho : Hid (tsO s k hk = if psignB s k then some (s.extract k (k + (getS s k).2), k + (getS s k).2) else none) := if_neg h38
    have Hp : Hid (psignB s k = (textB ((getS s k).1 : Int) && (decide ((getS s k).1 ≠ 13) && (decide ((getS s k).1 ≠ 60) && asRead s k)))) := rfl
    clear h38
    cases hr : asRead s k
    · have HG := signAt_no s k a w hk (by omega) HX.out.1 hr
      have Hn : Hid (tsO s k hk = none) := by show _ = _; rw [Ho.out, Hp.out, hr]; simp
      clear hr Hp Ho
      go_enter Tryz.func108, Tryz.ntmps108
      go_wp2_with fail
      refine HG.mono ?_
      rintro e w1 ⟨rfl, b1⟩
      have hv1 : w1.cell? ⟨0, 0, none⟩ = some (errV a) := HX.out.1.2.below b1
      clear HG
      go_wp2_with fail
      go_quiet (fail)
      have bf := drew_kd b1 nq
      go_wp2_with fail
      go_ret3
      exact ⟨ret_pref0 Hn.out, bf⟩
    · have HG := signAt_yes s k a w hk (by omega) HX.out.1 hr
      have hm := getS_many s k hk
      rw [hr] at Hp
      clear hr
      have HI := implIsText ((getS s k).1 : Int)
      generalize psignB s k = ps at *
      generalize (getS s k).1 = n at *
      generalize (getS s k).2 = m at *
      cases ht : textB (n : Int)
      · have Hn : Hid (tsO s k hk = none) := by show _ = _; rw [Ho.out, Hp.out, ht]; simp
        rw [ht] at HI
        clear ht Hp Ho
        go_enter Tryz.func108, Tryz.ntmps108
        go_wp2_with fail
        refine HG.mono ?_
        rintro e w1 ⟨rfl, b1⟩
        have hv1 : w1.cell? ⟨0, 0, none⟩ = some (errV a) := HX.out.1.2.below b1
        clear HG
        go_wp2_with fail
        refine (HI _).mono ?_
        rintro e w2 ⟨rfl, rfl⟩
        clear HI
        go_wp2_with fail
        go_quiet (fail)
        have bf := drew_kd b1 nq
        go_wp2_with fail
        go_ret3
        exact ⟨ret_pref0 Hn.out, bf⟩
      · rw [ht] at HI Hp
        clear ht
        by_cases h13 : n = 13
        · have Hn : Hid (tsO s k hk = none) := by show _ = _; rw [Ho.out, Hp.out, h13]; simp
          have g13 : ((n : Int) == 13) = true := by rw [h13]; rfl
          clear h13 Hp Ho
          go_enter Tryz.func108, Tryz.ntmps108
          go_wp2_with fail
          refine HG.mono ?_
          rintro e w1 ⟨rfl, b1⟩
          have hv1 : w1.cell? ⟨0, 0, none⟩ = some (errV a) := HX.out.1.2.below b1
          clear HG
          go_wp2_with fail
          refine (HI _).mono ?_
          rintro e w2 ⟨rfl, rfl⟩
          clear HI
          go_wp2_with fail
          go_quiet (fail)
          have bf := drew_kd b1 nq
          go_wp2_with fail
          go_ret3
          exact ⟨ret_pref0 Hn.out, bf⟩
        · have g13 : ((n : Int) == 13) = false := by rw [beq_eq_false_iff_ne]; omega
          by_cases h60 : n = 60
          · have Hn : Hid (tsO s k hk = none) := by show _ = _; rw [Ho.out, Hp.out, h60]; simp
            have g60 : ((n : Int) == 60) = true := by rw [h60]; rfl
            clear h60 h13 Hp Ho
            go_enter Tryz.func108, Tryz.ntmps108
            go_wp2_with fail
            refine HG.mono ?_
            rintro e w1 ⟨rfl, b1⟩
            have hv1 : w1.cell? ⟨0, 0, none⟩ = some (errV a) := HX.out.1.2.below b1
            clear HG
            go_wp2_with fail
            refine (HI _).mono ?_
            rintro e w2 ⟨rfl, rfl⟩
            clear HI
            go_wp2_with fail
            go_quiet (fail)
            have bf := drew_kd b1 nq
            go_wp2_with fail
            go_ret3
            exact ⟨ret_pref0 Hn.out, bf⟩
          · have g60 : ((n : Int) == 60) = false := by rw [beq_eq_false_iff_ne]; omega
            have Hn : Hid (tsO s k hk = some (s.extract k (k + m), k + m)) := by show _ = _; rw [Ho.out, Hp.out]; simp [h13, h60]
            have q1 : (k : Int) ≤ (k : Int) + (m : Int) := by omega
            have q2 : (k : Int) + (m : Int) ≤ (s.size : Int) := by omega
            have q3 : ((k : Int) + (m : Int)).toNat = k + m := by omega
            clear h60 h13 Hp Ho
            go_enter Tryz.func108, Tryz.ntmps108
            go_wp2_with fail
            refine HG.mono ?_
            rintro e w1 ⟨rfl, b1⟩
            clear HG
            go_wp2_with fail
            refine (HI _).mono ?_
            rintro e w2 ⟨rfl, rfl⟩
            clear HI
            go_wp2_with fail
            go_ret3
            exact ⟨ret_pref Hn.out (by rfl), b1⟩

end Go.Proofs.YtbmmghkieolpkaaGreatDoor.Sg

namespace Go.Proofs.YtbmmghkieolpkaaGreatDoor.Sg
open Go.ChangeShapes Go.WideShapes Go.ChangeAt Go.RowKit

/-- The reader's block. -/
def RqAt (w : World) (p : Nat) (s : ByteArray) (k : Int) : Prop :=
  w.heap[p]? = some (.cells #[.string s, .int .i64 k] 43 (0, 0))
theorem RqAt.lt {w : World} {p : Nat} {s : ByteArray} {k : Int} (h : RqAt w p s k) : p < w.heap.size := (Array.getElem?_eq_some_iff.1 h).1
theorem RqAt.c0 {w : World} {p : Nat} {s : ByteArray} {k : Int} (h : RqAt w p s k) : w.cell? ⟨p, 0, none⟩ = some (.string s) := by unfold RqAt at h; simp [World.cell?, h]
theorem RqAt.c1 {w : World} {p : Nat} {s : ByteArray} {k : Int} (h : RqAt w p s k) : w.cell? ⟨p, 1, none⟩ = some (.int .i64 k) := by unfold RqAt at h; simp [World.cell?, h]
theorem RqAt.fz {w : World} {p : Nat} {s : ByteArray} {k : Int} (h : RqAt w p s k) (i : Nat) : w.frozen? ⟨p, i, none⟩ = false := by unfold RqAt at h; simp [World.frozen?, h]
theorem RqAt.set1 {w : World} {p : Nat} {s : ByteArray} {k : Int} (h : RqAt w p s k) (k' : Int) : RqAt (w.setCell ⟨p, 1, none⟩ (.int .i64 k')) p s k' := by
  unfold RqAt at *
  simp [World.setCell, Array.getElem?_modify, h]
theorem RqAt.keep {w w' : World} {p : Nat} {s : ByteArray} {k : Int} (h : RqAt w p s k) (hb : Below w.heap.size w w') : RqAt w' p s k := (hb.block p h.lt).trans h

/-- What is read of the world, laid before the reader was. -/
def PcP (a : Addr) (p : Nat) (w : World) : Prop := ∃ W0, PcX a W0 ∧ W0.heap.size ≤ p ∧ Below W0.heap.size W0 w
theorem PcP.x {a : Addr} {p : Nat} {w : World} (h : PcP a p w) : PcX a w := by obtain ⟨W0, h1, _, h3⟩ := h; exact h1.below h3
theorem PcP.fr {a : Addr} {p : Nat} {w w' : World} (h : PcP a p w) (hf : Fr p w w') : PcP a p w' := by
  obtain ⟨W0, h1, h2, h3⟩ := h
  exact ⟨W0, h1, h2, h3.trans (hf.below h2 h3.size)⟩
/-- The reader as it stands at a place. -/
def Rq (a : Addr) (p : Nat) (s : ByteArray) (k : Int) (w : World) : Prop := RqAt w p s k ∧ PcP a p w
theorem Rq.keep {a : Addr} {p : Nat} {s : ByteArray} {k : Int} {w w' : World} (h : Rq a p s k w) (hb : Below w.heap.size w w') : Rq a p s k w' := ⟨h.1.keep hb, h.2.fr (Fr.of_below hb)⟩
theorem Rq.set {a : Addr} {p : Nat} {s : ByteArray} {k : Int} {w : World} (h : Rq a p s k w) (k' : Int) : Rq a p s k' (w.setCell ⟨p, 1, none⟩ (.int .i64 k')) := ⟨h.1.set1 k', h.2.fr (Fr.set _ _ _)⟩
theorem Rq.facts {a : Addr} {p : Nat} {s : ByteArray} {k : Int} {w : World} (h : Rq a p s k w) : w.cell? ⟨p, 0, none⟩ = some (.string s) ∧ w.cell? ⟨p, 1, none⟩ = some (.int .i64 k) ∧ (∀ i, w.frozen? ⟨p, i, none⟩ = false) ∧ p < w.heap.size := ⟨h.1.c0, h.1.c1, h.1.fz, h.1.lt⟩

/-- What is refused is a panic with that error. -/
abbrev PanE (a : Addr) : Ending := .panicked [{ v := errV a, recovered := false }]

theorem ElOwn.low {S S' : List ElB → Value → Foot → Prop} {w : World} {B B' : Nat} {e : ElB} {v : Value} {F : Foot} (h : ElOwn S w B e v F) (hB : B' ≤ B) (hS : ∀ l v F', S l v F' → S' l v F') : ElOwn S' w B' e v F := by
  obtain ⟨kd, sp, nm, ats, tx, ks⟩ := e
  obtain ⟨av, kv, Fk, rfl, ha, hab, hk, hkf⟩ := h
  exact ⟨av, kv, Fk, rfl, own_mono ha hB, hab, hS _ _ _ hk, hkf⟩
theorem OwnS.low {B B' : Nat} (hB : B' ≤ B) : ∀ (n : Nat) {w : World} {l : List ElB} {v : Value} {F : Foot}, OwnS w B n l v F → OwnS w B' n l v F
  | 0, _, _, _, _, ⟨h1, h2, h3⟩ => ⟨h1, own_mono h2 hB, h3⟩
  | n + 1, _, _, _, _, ⟨C, Fs, h1, h2, h3, h4, h5⟩ => ⟨C, Fs, own_mono h1 hB, h2, h3, h4, fun i hi => (h5 i hi).low hB (fun _ _ _ hs => OwnS.low hB n hs)⟩
theorem ElOwn.wideF {S : List ElB → Value → Foot → Prop} {w : World} {B : Nat} {e : ElB} {v : Value} {F F' : Foot} (h : ElOwn S w B e v F) (hF : ∀ b, F b → F' b) : ElOwn S w B e v F' := by
  obtain ⟨kd, sp, nm, ats, tx, ks⟩ := e
  obtain ⟨av, kv, Fk, rfl, ha, hab, hk, hkf⟩ := h
  exact ⟨av, kv, Fk, rfl, ha, fun b hb => ⟨hF b (hab b hb).1, (hab b hb).2⟩, hk, fun b hb => hF b (hkf b hb)⟩

/-- All blocks from some block on that are there. -/
abbrev Since (N : Nat) (w : World) : Foot := fun b => N ≤ b ∧ b < w.heap.size
/-- An element that was made since N. -/
def ElNew (w : World) (N n : Nat) (e : ElB) (v : Value) : Prop := ElOwn (OwnS w N n) w N e v (Since N w)
/-- A row of elements that was made since N: in its cells, and in blocks of its own. -/
def RowO (w : World) (N n : Nat) (v : Value) (l : List ElB) (C : List Value) (Fs : Nat → Foot) : Prop :=
  w.ownsRow N 25 6 v l.length C ∧ (∀ i, i < l.length → ∀ b, Fs i b → Since N w b ∧ v.ownBlock ≠ some b) ∧ (∀ i j, i < l.length → j < l.length → i ≠ j → ∀ b, Fs i b → ¬ Fs j b) ∧ ∀ i (hi : i < l.length), ElOwn (OwnS w N n) w N (l[i]'hi) (sixV C i) (Fs i)
theorem own_since {w : World} {base : Nat} {e : TypeId} {size : Nat} {v : Value} {n : Nat} {xs : List Value} (ho : w.ownsRow base e size v n xs) {b : Nat} (hb : v.ownBlock = some b) : Since base w b := by
  rcases ho.2 with ⟨rfl, h0⟩ | ⟨g', cap', cur, rfl, h3, h4, h5⟩
  · cases hb
  · cases hb
    exact ⟨h3, (Array.getElem?_eq_some_iff.1 h4).1⟩
theorem RowO.own {w : World} {N n : Nat} {v : Value} {l : List ElB} {C : List Value} {Fs : Nat → Foot} (h : RowO w N n v l C Fs) : OwnS w N (n + 1) l v (Since N w) :=
  ⟨C, Fs, h.1, fun _ hb => own_since h.1 hb, h.2.1, h.2.2.1, h.2.2.2⟩
theorem RowO.nil (w : World) (N n : Nat) : RowO w N n (.slice none 0 0) [] [] (fun _ _ => False) :=
  ⟨⟨rfl, .inl ⟨rfl, rfl⟩⟩, fun _ hi => absurd hi (Nat.not_lt_zero _), fun _ _ hi => absurd hi (Nat.not_lt_zero _), fun _ hi => absurd hi (Nat.not_lt_zero _)⟩
theorem RowO.keep {w w' : World} {N n : Nat} {v : Value} {l : List ElB} {C : List Value} {Fs : Nat → Foot} (h : RowO w N n v l C Fs) (hs : w.heap.size ≤ w'.heap.size) (hb : ∀ b, Since N w b → w'.heap[b]? = w.heap[b]?) : RowO w' N n v l C Fs := by
  obtain ⟨h1, h2, h3, h4⟩ := h
  refine ⟨owns_stay h1 (fun b h5 _ => hb b (own_since h1 h5)), fun i hi b hF => ⟨⟨(h2 i hi b hF).1.1, Nat.lt_of_lt_of_le (h2 i hi b hF).1.2 hs⟩, (h2 i hi b hF).2⟩, h3, fun i hi => ?_⟩
  exact (h4 i hi).stay (fun _ _ _ hF hS => OwnS.stay n hS (fun b hb1 _ => hb b (h2 i hi b (hF b hb1)).1)) (fun b hF _ => hb b (h2 i hi b hF).1)
theorem RowO.below {w w' : World} {N n : Nat} {v : Value} {l : List ElB} {C : List Value} {Fs : Nat → Foot} (h : RowO w N n v l C Fs) (hb : Below w.heap.size w w') : RowO w' N n v l C Fs := h.keep hb.size (fun b h1 => hb.block b h1.2)
theorem RowO.fr {p : Nat} {w w' : World} {N n : Nat} {v : Value} {l : List ElB} {C : List Value} {Fs : Nat → Foot} (h : RowO w N n v l C Fs) (hf : Fr p w w') (hp : p < N) : RowO w' N n v l C Fs := h.keep hf.size (fun b h1 => hf.block b h1.2 (by have := h1.1; omega))
theorem ElNew.keep {w w' : World} {N n : Nat} {e : ElB} {v : Value} (h : ElNew w N n e v) (hs : w.heap.size ≤ w'.heap.size) (hb : ∀ b, Since N w b → w'.heap[b]? = w.heap[b]?) : ElNew w' N n e v := by
  have h1 : ElOwn (OwnS w' N n) w' N e v (Since N w) := ElOwn.stay h (fun _ _ _ hF hS => OwnS.stay n hS (fun b hb1 _ => hb b (hF b hb1))) (fun b hF _ => hb b hF)
  exact h1.wideF (fun b hb => ⟨hb.1, Nat.lt_of_lt_of_le hb.2 hs⟩)
theorem ElNew.below {w w' : World} {N n : Nat} {e : ElB} {v : Value} (h : ElNew w N n e v) (hb : Below w.heap.size w w') : ElNew w' N n e v := h.keep hb.size (fun b h1 => hb.block b h1.2)
theorem ElNew.low {w : World} {N N' n : Nat} {e : ElB} {v : Value} (h : ElNew w N n e v) (hN : N' ≤ N) : ElNew w N' n e v :=
  (ElOwn.low h hN (fun _ _ _ hS => OwnS.low hN n hS)).wideF (fun _ hb => ⟨Nat.le_trans hN hb.1, hb.2⟩)
/-- An element of a text alone. -/
theorem ElNew.bare (w : World) (N n : Nat) (k : Int) (t : ByteArray) : ElNew w N n (.mk k 0 ⟨#[]⟩ [] t []) (.agg #[.int .i64 k, .int .i64 0, .string ⟨#[]⟩, .slice none 0 0, .string t, .slice none 0 0]) :=
  ⟨.slice none 0 0, .slice none 0 0, fun _ => False, rfl, ⟨rfl, .inl ⟨rfl, rfl⟩⟩, fun _ hb => by (cases hb), OwnS.nil _ _ _ _, fun _ h => h.elim⟩
/-- What an element that was made is as a value. -/
theorem ElNew.form {w : World} {N n : Nat} {kd sp : Int} {nm tx : ByteArray} {ats : List AttrB} {ks : List ElB} {v : Value} (h : ElNew w N n (.mk kd sp nm ats tx ks) v) : ∃ xa xc ka kc, v = .agg #[.int .i64 kd, .int .i64 sp, .string nm, .slice xa ats.length xc, .string tx, .slice ka ks.length kc] := by
  obtain ⟨av, kv, _, rfl, hat, _, hks, _⟩ := h
  obtain ⟨xa, xc, eav, _⟩ := attrs_of_own hat
  obtain ⟨ka, kc, ekv, _⟩ := OwnS.kids n hks
  exact ⟨xa, xc, ka, kc, by rw [eav, ekv]⟩

/-- One more is appended, that was made since. -/
theorem RowO.more {w w' : World} {lo N n : Nat} {v v' : Value} {l : List ElB} {C : List Value} {Fs : Nat → Foot} {a0 a1 a2 a3 a4 a5 : Value} {e : ElB}
    (h : RowO w lo n v l C Fs) (hv : ∀ b, v.ownBlock = some b → b < N) (hFs : ∀ i, i < l.length → ∀ b, Fs i b → b < N) (hlo : lo ≤ N) (he : ElNew w N n e (.agg #[a0, a1, a2, a3, a4, a5]))
    (ho : w'.ownsRow lo 25 6 v' (l.length + 1) (C ++ [a0, a1, a2, a3, a4, a5])) (hg : w.grownBy w' v.ownBlock) (hb : ∀ b, v'.ownBlock = some b → v.ownBlock = some b ∨ w.heap.size ≤ b) :
    RowO w' lo n v' (l ++ [e]) (C ++ [a0, a1, a2, a3, a4, a5]) (fun i => if i = l.length then Since N w else Fs i) := by
  obtain ⟨h1, h2, h3, h4⟩ := h
  have hC : C.length = l.length * 6 := h1.1
  have hlen : (l ++ [e]).length = l.length + 1 := by simp
  have kept : ∀ b, b < w.heap.size → v.ownBlock ≠ some b → w'.heap[b]? = w.heap[b]? := fun b h5 h6 => hg.block b h5 (Ne.symm h6)
  have newV : ∀ b, v.ownBlock ≠ some b → b < w.heap.size → v'.ownBlock ≠ some b := fun b h5 h6 e => by
    rcases hb b e with h | h
    · exact h5 h
    · omega
  have hvN : ∀ b, N ≤ b → v.ownBlock ≠ some b := fun b h5 e => by have := hv b e; omega
  have e1 : ∀ j, j < C.length → (C ++ [a0, a1, a2, a3, a4, a5]).getD j undef = C.getD j undef := fun j hj => getD_old hj
  refine ⟨by rw [hlen]; exact ho, ?_, ?_, ?_⟩
  · intro i hi b hF
    rw [hlen] at hi
    by_cases hie : i = l.length
    · rw [if_pos hie] at hF
      exact ⟨⟨Nat.le_trans hlo hF.1, Nat.lt_of_lt_of_le hF.2 hg.size⟩, newV b (hvN b hF.1) hF.2⟩
    · rw [if_neg hie] at hF
      have := h2 i (by omega) b hF
      exact ⟨⟨this.1.1, Nat.lt_of_lt_of_le this.1.2 hg.size⟩, newV b this.2 this.1.2⟩
  · intro i j hi hj hij b hF hG
    rw [hlen] at hi hj
    by_cases hie : i = l.length
    · rw [if_pos hie] at hF
      rw [if_neg (by omega)] at hG
      have := hFs j (by omega) b hG
      have := hF.1
      omega
    · rw [if_neg hie] at hF
      by_cases hje : j = l.length
      · rw [if_pos hje] at hG
        have := hFs i (by omega) b hF
        have := hG.1
        omega
      · rw [if_neg hje] at hG
        exact h3 i j (by omega) (by omega) hij b hF hG
  · intro i hi
    by_cases hil : i < l.length
    · have eS : sixV (C ++ [a0, a1, a2, a3, a4, a5]) i = sixV C i := by
        unfold sixV
        rw [e1 _ (by omega), e1 _ (by omega), e1 _ (by omega), e1 _ (by omega), e1 _ (by omega), e1 _ (by omega)]
      have eL : (l ++ [e])[i]'hi = l[i]'hil := List.getElem_append_left hil
      rw [eS, eL]
      show ElOwn _ _ _ _ _ (if i = l.length then _ else _)
      rw [if_neg (by omega)]
      exact (h4 i hil).stay (fun _ _ _ hF hS => OwnS.stay n hS (fun b hb1 hb2 => kept b hb2 (h2 i hil b (hF b hb1)).2)) (fun b hF hb2 => kept b hb2 (h2 i hil b hF).2)
    · have hie : i = l.length := by rw [hlen] at hi; omega
      subst hie
      have e2 : ∀ j, (C ++ [a0, a1, a2, a3, a4, a5]).getD (l.length * 6 + j) undef = [a0, a1, a2, a3, a4, a5].getD j undef := fun j => by rw [← hC]; exact getD_new
      have eS : sixV (C ++ [a0, a1, a2, a3, a4, a5]) l.length = .agg #[a0, a1, a2, a3, a4, a5] := by
        have e20 := e2 0
        rw [Nat.add_zero] at e20
        unfold sixV
        rw [e20, e2 1, e2 2, e2 3, e2 4, e2 5]
        rfl
      have eL : (l ++ [e])[l.length]'hi = e := by simp
      rw [eS, eL]
      show ElOwn _ _ _ _ _ (if l.length = l.length then _ else _)
      rw [if_pos rfl]
      have hk : ElOwn (OwnS w' N n) w' N e (.agg #[a0, a1, a2, a3, a4, a5]) (Since N w) := ElOwn.stay he (fun _ _ _ hF hS => OwnS.stay n hS (fun b hb1 hb2 => kept b hb2 (hvN b (hF b hb1).1))) (fun b hF hb2 => kept b hb2 (hvN b hF.1))
      exact hk.low hlo (fun _ _ _ hS => OwnS.low hlo n hS)

end Go.Proofs.YtbmmghkieolpkaaGreatDoor.Sg

namespace Go.Proofs.YtbmmghkieolpkaaGreatDoor.Sg
open Go.ChangeShapes Go.WideShapes Go.ChangeAt Go.RowKit

theorem stands_tailT {s : ByteArray} (t : ByteArray) {k : Nat} (h : k ≤ s.size) : standsB s k t = Lib.hasPrefix (tailL s k) t.data.toList := by
  obtain ⟨e, hl⟩ := ptail_all s k h
  have h1 := stands_pre (s.data.toList.take k) (tailL s k) t.data.toList
  have e2 : strB t.data.toList = t := by unfold strB; simp
  rw [hl, ← e, e2] at h1
  exact h1
theorem prefixAt (s t : ByteArray) (k : Nat) (h : k ≤ s.size) (W : World) : Calls Tryz.prog 55 #[.string (s.extract k s.size), .string t] W fun e w' => e = .returned (.bool (standsB s k t)) ∧ w' = W := by
  have := Tryz.strings_HasPrefix (s.extract k s.size) t W
  rw [tail_bytes, ← stands_tailT t h] at this
  exact this

theorem must_yes (w : World) : Calls Tryz.prog 21 #[.bool true] w fun e w' => e = .returned (.tuple #[]) ∧ w' = w := by
  go_enter Tryz.func21, Tryz.ntmps21
  go_wp2_with fail
  exact bodyPost_end (results_none rfl _ _ _) rfl ⟨rfl, rfl⟩
theorem must_no (a : Addr) (w : World) (h : ErrA a w) : Calls Tryz.prog 21 #[.bool false] w fun e w' => e = PanE a ∧ w' = w := by
  unfold ErrA at h
  go_enter Tryz.func21, Tryz.ntmps21
  go_wp2_with fail
  exact ⟨rfl, rfl, rfl⟩

theorem pass_yes (a : Addr) (p : Nat) (s : ByteArray) (k j : Int) (w : World) (h : Rq a p s k w) :
    Calls Tryz.prog 84 #[.pointer (some ⟨p, 0, none⟩), .int .i64 j, .nilIface] w fun e w' => e = .returned (.tuple #[]) ∧ Rq a p s j w' ∧ Fr p w w' := by
  obtain ⟨c0, c1, z, hp⟩ := h.facts
  have z1 := z 1
  have H : Hid (Rq a p s j (w.setCell ⟨p, 1, none⟩ (.int .i64 j)) ∧ Fr p w (w.setCell ⟨p, 1, none⟩ (.int .i64 j))) := ⟨h.set j, Fr.set _ _ _⟩
  clear h
  go_enter Tryz.func84, Tryz.ntmps84
  go_wp2_with fail
  exact bodyPost_end (results_none rfl _ _ _) rfl ⟨rfl, H.out⟩
theorem pass_no (a : Addr) (p : Nat) (j : Int) (w : World) :
    Calls Tryz.prog 84 #[.pointer (some ⟨p, 0, none⟩), .int .i64 j, errV a] w fun e w' => e = PanE a ∧ w' = w := by
  go_enter Tryz.func84, Tryz.ntmps84
  go_wp2_with fail
  exact ⟨rfl, rfl, rfl⟩

set_option maxHeartbeats 1000000 in
theorem takes_yes (a : Addr) (p : Nat) (s t : ByteArray) (k : Nat) (w : World) (h : Rq a p s (k : Int) w) (hk : k ≤ s.size) (hs : s.size ≤ 1073741824) (ht : t.size ≤ 1073741824) (hst : standsB s k t = true) :
    Calls Tryz.prog 46 #[.pointer (some ⟨p, 0, none⟩), .string t] w fun e w' => e = .returned (.bool true) ∧ Rq a p s ((k + t.size : Nat) : Int) w' ∧ Fr p w w' := by
  have HP := fun W => prefixAt s t k hk W
  rw [hst] at HP
  have H : Hid (Rq a p s (k : Int) w) := h
  obtain ⟨c0, c1, z, hp⟩ := h.facts
  clear h hst
  have q1 : (k : Int) ≤ (s.size : Int) := by omega
  have q2 : IntKind.i64.wrap ((k : Int) + (t.size : Int)) = (k : Int) + (t.size : Int) := IntWalk.i64_in _ (by omega)
  go_enter Tryz.func46, Tryz.ntmps46
  go_upto_region 1 with fail
  go_quiet ((go_at_call 55; exact Calls.quiet_of_same (HP _)))
  have bn := drew_kd (Below.refl w.heap.size w) nq
  have H1 : Hid (Rq a p s (k : Int) (w.drewN nq)) := H.out.keep bn
  have HF : Hid (Fr p w (w.drewN nq)) := Fr.of_below bn
  clear bn c0 c1 z H HP
  generalize w.drewN nq = w1 at *
  obtain ⟨c0, c1, z, hp1⟩ := H1.out.facts
  have z1 := z 1
  have H2 : Hid (Rq a p s ((k : Int) + (t.size : Int)) (w1.setCell ⟨p, 1, none⟩ (.int .i64 ((k : Int) + (t.size : Int)))) ∧ Fr p w (w1.setCell ⟨p, 1, none⟩ (.int .i64 ((k : Int) + (t.size : Int))))) := ⟨H1.out.set _, HF.out.trans (Fr.set _ _ _)⟩
  go_wp2_with fail
  go_ret
  exact ⟨rfl, by rw [Int.natCast_add]; exact H2.out.1, H2.out.2⟩
set_option maxHeartbeats 1000000 in
theorem takes_no (a : Addr) (p : Nat) (s t : ByteArray) (k : Nat) (w : World) (h : Rq a p s (k : Int) w) (hk : k ≤ s.size) (hst : standsB s k t = false) :
    Calls Tryz.prog 46 #[.pointer (some ⟨p, 0, none⟩), .string t] w fun e w' => e = .returned (.bool false) ∧ Rq a p s (k : Int) w' ∧ Fr p w w' := by
  have HP := fun W => prefixAt s t k hk W
  rw [hst] at HP
  have H : Hid (Rq a p s (k : Int) w) := h
  obtain ⟨c0, c1, z, hp⟩ := h.facts
  clear h hst
  have q1 : (k : Int) ≤ (s.size : Int) := by omega
  go_enter Tryz.func46, Tryz.ntmps46
  go_upto_region 1 with fail
  go_quiet ((go_at_call 55; exact Calls.quiet_of_same (HP _)))
  have bn := drew_kd (Below.refl w.heap.size w) nq
  have H1 : Hid (Rq a p s (k : Int) (w.drewN nq)) := H.out.keep bn
  have HF : Hid (Fr p w (w.drewN nq)) := Fr.of_below bn
  clear bn c0 c1 z H HP
  generalize w.drewN nq = w1 at *
  go_wp2_with fail
  go_ret
  exact ⟨rfl, H1.out, HF.out⟩

set_option maxHeartbeats 1000000 in
theorem want_yes (a : Addr) (p : Nat) (s t : ByteArray) (k : Nat) (w : World) (h : Rq a p s (k : Int) w) (hk : k ≤ s.size) (hs : s.size ≤ 1073741824) (ht : t.size ≤ 1073741824) (hst : standsB s k t = true) :
    Calls Tryz.prog 33 #[.pointer (some ⟨p, 0, none⟩), .string t] w fun e w' => e = .returned (.tuple #[]) ∧ Rq a p s ((k + t.size : Nat) : Int) w' ∧ Fr p w w' := by
  have HT := takes_yes a p s t k w h hk hs ht hst
  clear h hst
  go_enter Tryz.func33, Tryz.ntmps33
  go_wp2_with fail
  refine HT.mono ?_
  rintro e w1 ⟨rfl, H1, F1⟩
  have HH : Hid (Rq a p s ((k + t.size : Nat) : Int) w1 ∧ Fr p w w1) := ⟨H1, F1⟩
  clear HT H1 F1
  go_wp2_with fail
  refine (must_yes _).mono ?_
  rintro e w2 ⟨rfl, rfl⟩
  go_wp2_with fail
  exact bodyPost_end (results_none rfl _ _ _) rfl ⟨rfl, HH.out⟩
set_option maxHeartbeats 1000000 in
theorem want_no (a : Addr) (p : Nat) (s t : ByteArray) (k : Nat) (w : World) (h : Rq a p s (k : Int) w) (hk : k ≤ s.size) (hst : standsB s k t = false) :
    Calls Tryz.prog 33 #[.pointer (some ⟨p, 0, none⟩), .string t] w fun e w' => e = PanE a ∧ Fr p w w' := by
  have HT := takes_no a p s t k w h hk hst
  clear h hst
  go_enter Tryz.func33, Tryz.ntmps33
  go_wp2_with fail
  refine HT.mono ?_
  rintro e w1 ⟨rfl, H1, F1⟩
  have hE := H1.2.x.1.2
  have HH : Hid (Fr p w w1) := F1
  clear HT H1 F1
  go_wp2_with fail
  refine (must_no a _ hE).mono ?_
  rintro e w2 ⟨rfl, rfl⟩
  go_wp2_with fail
  exact ⟨rfl, rfl, HH.out⟩

end Go.Proofs.YtbmmghkieolpkaaGreatDoor.Sg

namespace Go.Proofs.YtbmmghkieolpkaaGreatDoor.Sg
open Go.ChangeShapes Go.WideShapes Go.ChangeAt Go.RowKit

end Go.Proofs.YtbmmghkieolpkaaGreatDoor.Sg

namespace Go.Proofs.YtbmmghkieolpkaaGreatDoor.Sg
open Go.ChangeShapes Go.WideShapes Go.ChangeAt Go.RowKit

/-- What the model's XmlText hands back. -/
def textV : Option (List UInt8 × Nat) → Value
  | none => .tuple #[.string ⟨#[]⟩, .int .i64 (-1)]
  | some r => .tuple #[.string (strB r.1), .int .i64 (r.2 : Int)]
theorem findL_in (b : UInt8) (l : List UInt8) : l.contains b = (findL b l).isSome := by
  induction l with
  | nil => rfl
  | cons x l ih =>
    rw [List.contains_cons, ih]
    show _ = (if x = b then some 0 else Option.map (· + 1) (findL b l)).isSome
    by_cases h : x = b
    · rw [if_pos h, h]
      simp
    · rw [if_neg h]
      have : (b == x) = false := by rw [beq_eq_false_iff_ne]; exact fun e => h e.symm
      rw [this]
      cases findL b l <;> rfl

set_option maxHeartbeats 1000000 in
theorem specXmlText_out (s : ByteArray) (at' : Int) (e0 : ByteArray) (w : World) (h : at' < 0 ∨ (s.size : Int) < at') :
    Calls Tryz.prog 70 #[.string s, .int .i64 at', .string e0] w fun e w' => e = .returned (.tuple #[.string ⟨#[]⟩, .int .i64 (-1)]) ∧ w' = w := by
  by_cases h0 : at' < 0
  · have g0 : decide (at' < 0) = true := decide_eq_true h0
    clear h
    go_enter Tryz.func70, Tryz.ntmps70
    go_wp2_with fail
    go_ret2
    exact ⟨rfl, rfl⟩
  · have g0 : decide (at' < 0) = false := decide_eq_false h0
    have g1 : decide ((s.size : Int) < at') = true := decide_eq_true (by omega)
    clear h
    go_enter Tryz.func70, Tryz.ntmps70
    go_wp2_with fail
    go_ret2
    exact ⟨rfl, rfl⟩

theorem map_none {acc : List UInt8} {x : Option (List UInt8 × Nat)} (h : x = none) : x.map (fun r => (acc ++ r.1, r.2)) = none := by rw [h]; rfl
theorem map_more {acc t : List UInt8} {x y : Option (List UInt8 × Nat)} (h : x = y.map (fun r => (t ++ r.1, r.2))) : x.map (fun r => (acc ++ r.1, r.2)) = y.map (fun r => ((acc ++ t) ++ r.1, r.2)) := by
  rw [h]
  cases y with
  | none => rfl
  | some r => simp

set_option maxRecDepth 20000 in
set_option maxHeartbeats 8000000 in
theorem specXmlText_in (s : ByteArray) (a : Nat) (e0 : ByteArray) (w : World) (ha : a ≤ s.size) (hs : s.size ≤ 1099511627776) (he : e0.size ≤ 1099511627776) :
    Calls Tryz.prog 70 #[.string s, .int .i64 (a : Int), .string e0] w fun e w' => e = .returned (textV (xtextR s e0.data.toList a)) ∧ Below w.heap.size w w' := by
  obtain ⟨R, HR⟩ : ∃ R, Hid (xtextR s e0.data.toList a = R) := ⟨_, rfl⟩
  rw [HR.out]
  obtain ⟨i0, hi0, hz0, hz1, hz2⟩ := info_parts info_byte
  have Hi : Hid (Tryz.prog.info? 5 = some i0) := hi0
  have Hz0 : Hid (i0.zero = some (.int .u8 0)) := hz0
  have Hz1 : Hid (i0.size = 1) := hz1
  have Hz2 : Hid (i0.bytes = 1) := hz2
  clear hi0 hz0 hz1 hz2
  have g0 : decide ((a : Int) < 0) = false := decide_eq_false (by omega)
  have g1 : decide ((s.size : Int) < (a : Int)) = false := decide_eq_false (by omega)
  have g2 : decide (s.size < a) = false := decide_eq_false (by omega)
  go_enter Tryz.func70, Tryz.ntmps70
  go_wp2_with fail
  go_loopw [8, 9] (fun v i wr => ∃ (k : Nat) (acc : List UInt8), a ≤ k ∧ k ≤ s.size ∧ acc.length ≤ 4 * (k - a) ∧ i = .int .i64 (k : Int) ∧ wr.ownsRow w.heap.size 5 1 v acc.length (Lib.byteCells acc) ∧ Below w.heap.size w wr ∧ Hid ((xtextR s e0.data.toList k).map (fun r => (acc ++ r.1, r.2)) = R)) (fun _ i _ => s.size - (intOf i).toNat)
  case atStart =>
    refine ⟨a, [], Nat.le_refl _, ha, Nat.zero_le _, rfl, ⟨rfl, .inr ⟨w.heap.size, 0, #[], rfl, Nat.le_refl _, ?_, Nat.le_refl _, Nat.zero_le _, rfl, rfl⟩⟩, (Below.refl _ _).alloc (Nat.le_refl _) _, ?_⟩
    · show (w.heap.push _)[w.heap.size]? = _
      simp
    · show _ = _
      rw [HR.out]
      cases R <;> simp
  case round =>
    obtain ⟨k, acc, hak, hk, hal, rfl, hown, hbel, HK⟩ := hrel
    clear g0 g1 g2 HR
    have q0 : (0 : Int) ≤ (k : Int) := by omega
    by_cases hlt : k < s.size
    · have Hf := fun W => specFind e0 0 (s[k]'hlt) W (Nat.zero_le _) (by omega)
      rw [findE_zero] at Hf
      have gl : (k : Int) < (s.size : Int) := by omega
      cases hr : findL (s[k]'hlt) e0.data.toList with
      | some q =>
        have HX := xtextR_stop hlt (by rw [findL_in, hr]; rfl)
        obtain rfl : some (acc, k) = R := by
          rw [← HK.out, HX]
          simp
        have hbk := own_back hown
        clear HX HK hown
        rw [hr] at Hf
        clear hr
        go_wp2_with fail
        refine (Hf _).mono ?_
        rintro e w1 ⟨rfl, rfl⟩
        simp only [findV]
        have gq : decide ((q : Int) < 0) = false := decide_eq_false (by omega)
        go_wp2_with fail
        go_ret2
        exact ⟨rfl, hbel⟩
      | none =>
        rw [hr] at Hf
        go_wp2_with fail
        refine (Hf _).mono ?_
        rintro e w0 ⟨rfl, rfl⟩
        simp only [findV]
        clear Hf
        by_cases h38 : (s[k]'hlt).toNat = 38
        · have g38 : (((s[k]'hlt).toNat : Int) == 38) = true := by rw [h38]; rfl
          have Hr := fun W => specXmlRef_in s k W hlt (by omega)
          have hno : e0.data.toList.contains (s[k]'hlt) = false := by rw [findL_in, hr]; rfl
          have h38' : s[k]'hlt = 38 := UInt8.toNat_inj.1 h38
          clear hr
          cases hx : xrefR s k with
          | none =>
            have HX := xtextR_none hlt hno h38' hx
            rw [hx] at Hr
            obtain rfl : none = R := (map_none HX).symm.trans HK.out
            clear HX HK
            clear hx h38 h38' hno
            go_wp2_with fail
            refine (Hr _).mono ?_
            rintro e w1 ⟨rfl, b1⟩
            simp only [xrefV]
            go_wp2_with fail
            go_ret2
            exact ⟨rfl, below_from hbel b1⟩
          | some tj =>
            obtain ⟨t, j⟩ := tj
            have HX := xtextR_ref hlt hno h38' hx
            have hl := xrefR_le hx
            rw [hx] at Hr
            clear hx h38 h38' hno
            go_wp2_with fail
            refine (Hr _).mono ?_
            rintro e w1 ⟨rfl, b1⟩
            simp only [xrefV]
            have gj : decide ((j : Int) < 0) = false := decide_eq_false (by omega)
            replace hown := owns_below hown (Nat.le_refl _) b1
            replace hbel := below_from hbel b1
            clear b1
            have HX2 : Hid ((xtextR s e0.data.toList j).map (fun r => ((acc ++ t.data.toList) ++ r.1, r.2)) = R) := (map_more HX).symm.trans HK.out
            clear HX HK
            generalize hts : t.data.toList = tl at *
            have Hts : Hid ((t).size = tl.length) := by show _ = _; rw [← hts, Array.length_toList]; rfl
            have Htd : Hid ((t).data.toList = tl) := hts
            clear hts
            obtain ⟨cap', W, hrun, hbW, hszW, hcW⟩ := conv_bytes w1 (t)
            have hownW : W.ownsRow w.heap.size 5 1 _ acc.length (Lib.byteCells acc) := owns_below hown (Nat.le_refl _) hbW
            have hbelW : Below w.heap.size w W := below_from hbel hbW
            rw [Htd.out] at hcW
            have HcW : Hid (∀ j u, (Lib.byteCells tl)[j]? = some u → W.cell? ((⟨w1.heap.size, 0, none⟩ : Addr).add j) = some u) := hcW
            clear hcW hbW hown hbel
            go_wp2_with (at_builtin; refine wpList_append_own _ rfl (.tmp 48) (.tmp 50) 78 rfl w.heap.size 5 i0 (.int .u8 0) 1 1 Tryz.underlying78 Hi.out Hz0.out Hz1.out Hz2.out rfl (by decide) _ acc.length (Lib.byteCells acc) rfl hownW ⟨w1.heap.size, 0, none⟩ t.size cap' (Lib.byteCells tl) rfl ?c1 HcW.out byteCells_one ?c3 ?c4 hbelW.size ?_)
            case c1 => rw [Lib.byteCells_length, Nat.mul_one]; exact Hts.out.symm
            case c3 => unfold maxLen; omega
            case c4 => omega
            intro v' w2 hown' hgrow _
            have hbel2 : Below w.heap.size w w2 := own_grown hownW hbelW (Nat.le_refl _) hgrow hbelW.size
            have hown2 : w2.ownsRow w.heap.size 5 1 v' (acc ++ tl).length (Lib.byteCells (acc ++ tl)) := by
              have e1 : (acc ++ tl).length = acc.length + t.size := by rw [List.length_append, ← Hts.out]
              have e2 : Lib.byteCells (acc ++ tl) = Lib.byteCells acc ++ Lib.byteCells tl := by simp [Lib.byteCells]
              rw [e1, e2]
              exact hown'
            clear hown' hgrow hownW hbelW hrun
            go_wp2_with fail
            go_roundw
            case rel => exact ⟨j, acc ++ tl, by omega, by omega, by rw [List.length_append, ← Hts.out]; omega, by go_num, hown2, hbel2, HX2⟩
            case measure => simp [intOf]; omega
        · have g38 : (((s[k]'hlt).toNat : Int) == 38) = false := by rw [beq_eq_false_iff_ne]; omega
          have hno : e0.data.toList.contains (s[k]'hlt) = false := by rw [findL_in, hr]; rfl
          have h38' : ¬ s[k]'hlt = 38 := fun h => h38 (by rw [h]; rfl)
          clear hr h38
          have hm := getS_many s k hlt
          have hsg : xsignB s k = (textB ((getS s k).1 : Int) && (decide ((getS s k).1 ≠ 13) && (decide ((getS s k).1 ≠ 60) && (asRead s k && !standsB s k closeB)))) := rfl
          have har : asRead s k = ((putS ((getS s k).1 : Int)).toList == (s.extract k (k + (getS s k).2)).toList) := rfl
          have Hg := fun W => specGet_in s k W hlt (by omega)
          generalize hn : (getS s k).1 = n at *
          generalize hmm : (getS s k).2 = m at *
          have q3 : IntKind.i64.wrap ((k : Int) + (m : Int)) = (k : Int) + (m : Int) := IntWalk.i64_in _ (by omega)
          have q4 : (k : Int) ≤ (k : Int) + (m : Int) := by omega
          have q5 : (k : Int) + (m : Int) ≤ (s.size : Int) := by omega
          have q6 : (0 : Int) ≤ (k : Int) + (m : Int) := by omega
          have q7 : ((k : Int) + (m : Int)).toNat = k + m := by omega
          have q8 : (0 : Int) ≤ (k : Int) := by omega
          go_wp2_with fail
          refine (Hg _).mono ?_
          rintro e w1 ⟨rfl, rfl⟩
          clear Hg
          go_upto_region 13 with fail
          have HT : ∀ W, Calls Tryz.prog 94 #[.int .i64 (n : Int)] W fun e w' => e = .returned (.bool (textB (n : Int))) ∧ Below W.heap.size W w' := fun W => (specIsText (n : Int) W).mono fun e w' h => ⟨h.1, h.2 ▸ Below.refl _ _⟩
          have HP := fun W => specPutSign (n : Int) W
          have HS : ∀ W, Calls Tryz.prog 28 #[.string s, .int .i64 (k : Int), .string ⟨#[93, 93, 62]⟩] W fun e w' => e = .returned (.bool (standsB s k closeB)) ∧ Below W.heap.size W w' := fun W => (specStands s k closeB W (by omega) (by omega) (by decide)).mono fun e w' h => ⟨h.1, h.2 ▸ Below.refl _ _⟩
          cases ht : textB (n : Int)
          · rw [ht] at HT
            have HX := xtextR_bad hlt hno h38' (by rw [hsg]; rw [ht]; rfl)
            obtain rfl : none = R := (map_none HX).symm.trans HK.out
            clear HX HK
            clear hsg hno h38' har
            have cT := fun d os => Calls.regrown_of (w := w1) (HT (Sort.grow (redrawn w1 d) os))
            clear HT HP HS
            refine wp_region_quiet_below (by kernel_rfl) (by kernel_rfl) ?_
            repeat (go_big_quiet_step (first | exact cT _ _))
            refine wpQuiet_nil ?_
            intro _ hw'
            obtain ⟨⟨dq, osq⟩, hw''⟩ := hw'
            subst hw''
            have bfin := below_regrown w1 dq osq
            generalize Sort.grow (redrawn w1 dq) osq = W1 at *
            go_wp2_with fail
            go_ret2
            exact ⟨rfl, below_from hbel bfin⟩
          · rw [ht] at HT
            by_cases h13 : n = 13
            · have g13 : ((n : Int) == 13) = true := by rw [h13]; rfl
              have HX := xtextR_bad hlt hno h38' (by rw [hsg]; rw [show decide (n ≠ 13) = false from decide_eq_false (fun h => h h13)]; simp)
              obtain rfl : none = R := (map_none HX).symm.trans HK.out
              clear HX HK
              clear hsg hno h38' har h13
              have cT := fun d os => Calls.regrown_of (w := w1) (HT (Sort.grow (redrawn w1 d) os))
              clear HT HP HS
              refine wp_region_quiet_below (by kernel_rfl) (by kernel_rfl) ?_
              repeat (go_big_quiet_step (first | exact cT _ _))
              refine wpQuiet_nil ?_
              intro _ hw'
              obtain ⟨⟨dq, osq⟩, hw''⟩ := hw'
              subst hw''
              have bfin := below_regrown w1 dq osq
              generalize Sort.grow (redrawn w1 dq) osq = W1 at *
              go_wp2_with fail
              go_ret2
              exact ⟨rfl, below_from hbel bfin⟩
            · have g13 : ((n : Int) == 13) = false := by rw [beq_eq_false_iff_ne]; omega
              by_cases h60 : n = 60
              · have g60 : ((n : Int) == 60) = true := by rw [h60]; rfl
                have HX := xtextR_bad hlt hno h38' (by rw [hsg]; rw [show decide (n ≠ 60) = false from decide_eq_false (fun h => h h60)]; simp)
                obtain rfl : none = R := (map_none HX).symm.trans HK.out
                clear HX HK
                clear hsg hno h38' har h60
                have cT := fun d os => Calls.regrown_of (w := w1) (HT (Sort.grow (redrawn w1 d) os))
                clear HT HP HS
                refine wp_region_quiet_below (by kernel_rfl) (by kernel_rfl) ?_
                repeat (go_big_quiet_step (first | exact cT _ _))
                refine wpQuiet_nil ?_
                intro _ hw'
                obtain ⟨⟨dq, osq⟩, hw''⟩ := hw'
                subst hw''
                have bfin := below_regrown w1 dq osq
                generalize Sort.grow (redrawn w1 dq) osq = W1 at *
                go_wp2_with fail
                go_ret2
                exact ⟨rfl, below_from hbel bfin⟩
              · have g60 : ((n : Int) == 60) = false := by rw [beq_eq_false_iff_ne]; omega
                cases hc : ((putS (n : Int)).toList == (s.extract k (k + m)).toList)
                · have HX := xtextR_bad hlt hno h38' (by rw [hsg]; rw [har, hc]; simp)
                  obtain rfl : none = R := (map_none HX).symm.trans HK.out
                  clear HX HK
                  clear hsg hno h38' har
                  have cT := fun d os => Calls.regrown_of (w := w1) (HT (Sort.grow (redrawn w1 d) os))
                  have cP := fun d os => Calls.regrown_of (w := w1) (HP (Sort.grow (redrawn w1 d) os))
                  clear HT HP HS
                  refine wp_region_quiet_below (by kernel_rfl) (by kernel_rfl) ?_
                  repeat (go_big_quiet_step (first | exact cT _ _ | exact cP _ _))
                  refine wpQuiet_nil ?_
                  intro _ hw'
                  obtain ⟨⟨dq, osq⟩, hw''⟩ := hw'
                  subst hw''
                  have bfin := below_regrown w1 dq osq
                  generalize Sort.grow (redrawn w1 dq) osq = W1 at *
                  go_wp2_with fail
                  go_ret2
                  exact ⟨rfl, below_from hbel bfin⟩
                · cases hb : standsB s k closeB
                  · rw [hb] at HS
                    have HX := xtextR_sign hlt hno h38' (by rw [hsg, har, ht, hc, hb, decide_eq_true h13, decide_eq_true h60]; rfl)
                    rw [hmm] at HX
                    clear hsg hno h38' har
                    have cT := fun d os => Calls.regrown_of (w := w1) (HT (Sort.grow (redrawn w1 d) os))
                    have cP := fun d os => Calls.regrown_of (w := w1) (HP (Sort.grow (redrawn w1 d) os))
                    have cS := fun d os => Calls.regrown_of (w := w1) (HS (Sort.grow (redrawn w1 d) os))
                    clear HT HP HS
                    refine wp_region_quiet_below (by kernel_rfl) (by kernel_rfl) ?_
                    repeat (go_big_quiet_step (first | exact cT _ _ | exact cP _ _ | exact cS _ _))
                    refine wpQuiet_nil ?_
                    intro _ hw'
                    obtain ⟨⟨dq, osq⟩, hw''⟩ := hw'
                    subst hw''
                    have bfin := below_regrown w1 dq osq
                    generalize Sort.grow (redrawn w1 dq) osq = W1 at *
                    replace hown := owns_below hown (Nat.le_refl _) bfin
                    replace hbel := below_from hbel bfin
                    clear bfin
                    have hsz : (s.extract k (k + m)).size = m := by rw [ByteArray.size_extract]; omega
                    have HX2 : Hid ((xtextR s e0.data.toList (k + m)).map (fun r => ((acc ++ (s.extract k (k + m)).data.toList) ++ r.1, r.2)) = R) := (map_more HX).symm.trans HK.out
                    clear HX HK
                    generalize hts : (s.extract k (k + m)).data.toList = tl at *
                    have Hts : Hid ((s.extract k (k + m)).size = tl.length) := by show _ = _; rw [← hts, Array.length_toList]; rfl
                    have Htd : Hid ((s.extract k (k + m)).data.toList = tl) := hts
                    clear hts
                    obtain ⟨cap', W, hrun, hbW, hszW, hcW⟩ := conv_bytes W1 (s.extract k (k + m))
                    rw [hsz] at hrun
                    have hownW : W.ownsRow w.heap.size 5 1 _ acc.length (Lib.byteCells acc) := owns_below hown (Nat.le_refl _) hbW
                    have hbelW : Below w.heap.size w W := below_from hbel hbW
                    rw [Htd.out] at hcW
                    have HcW : Hid (∀ j u, (Lib.byteCells tl)[j]? = some u → W.cell? ((⟨W1.heap.size, 0, none⟩ : Addr).add j) = some u) := hcW
                    clear hcW hbW hown hbel
                    go_wp2_with (at_builtin; refine wpList_append_own _ rfl (.tmp 86) (.tmp 93) 78 rfl w.heap.size 5 i0 (.int .u8 0) 1 1 Tryz.underlying78 Hi.out Hz0.out Hz1.out Hz2.out rfl (by decide) _ acc.length (Lib.byteCells acc) rfl hownW ⟨W1.heap.size, 0, none⟩ m cap' (Lib.byteCells tl) rfl ?c1 HcW.out byteCells_one ?c3 ?c4 hbelW.size ?_)
                    case c1 => rw [Lib.byteCells_length, Nat.mul_one]; rw [← Hts.out]; exact hsz
                    case c3 => unfold maxLen; omega
                    case c4 => omega
                    intro v' w2 hown' hgrow _
                    have hbel2 : Below w.heap.size w w2 := own_grown hownW hbelW (Nat.le_refl _) hgrow hbelW.size
                    have hown2 : w2.ownsRow w.heap.size 5 1 v' (acc ++ tl).length (Lib.byteCells (acc ++ tl)) := by
                      have e1 : (acc ++ tl).length = acc.length + m := by rw [List.length_append, ← Hts.out]; rw [hsz]
                      have e2 : Lib.byteCells (acc ++ tl) = Lib.byteCells acc ++ Lib.byteCells tl := by simp [Lib.byteCells]
                      rw [e1, e2]
                      exact hown'
                    clear hown' hgrow hownW hbelW hrun
                    go_wp2_with fail
                    go_roundw
                    case rel => exact ⟨(k + m), acc ++ tl, by omega, by omega, by rw [List.length_append, ← Hts.out]; omega, by go_num, hown2, hbel2, HX2⟩
                    case measure => simp [intOf]; omega
                  · rw [hb] at HS
                    have HX := xtextR_bad hlt hno h38' (by rw [hsg]; rw [hb]; simp)
                    obtain rfl : none = R := (map_none HX).symm.trans HK.out
                    clear HX HK
                    clear hsg hno h38' har
                    have cT := fun d os => Calls.regrown_of (w := w1) (HT (Sort.grow (redrawn w1 d) os))
                    have cP := fun d os => Calls.regrown_of (w := w1) (HP (Sort.grow (redrawn w1 d) os))
                    have cS := fun d os => Calls.regrown_of (w := w1) (HS (Sort.grow (redrawn w1 d) os))
                    clear HT HP HS
                    refine wp_region_quiet_below (by kernel_rfl) (by kernel_rfl) ?_
                    repeat (go_big_quiet_step (first | exact cT _ _ | exact cP _ _ | exact cS _ _))
                    refine wpQuiet_nil ?_
                    intro _ hw'
                    obtain ⟨⟨dq, osq⟩, hw''⟩ := hw'
                    subst hw''
                    have bfin := below_regrown w1 dq osq
                    generalize Sort.grow (redrawn w1 dq) osq = W1 at *
                    go_wp2_with fail
                    go_ret2
                    exact ⟨rfl, below_from hbel bfin⟩
    · have HX := xtextR_end (e := e0.data.toList) hlt
      obtain rfl : some (acc, k) = R := by
        rw [← HK.out, HX]
        simp
      have hbk := own_back hown
      clear HX HK hown
      have gl : decide ((k : Int) < (s.size : Int)) = false := decide_eq_false (by omega)
      have gl' : decide (k < s.size) = false := decide_eq_false hlt
      go_wp2_with fail
      go_ret2
      exact ⟨rfl, hbel⟩

end Go.Proofs.YtbmmghkieolpkaaGreatDoor.Sg
