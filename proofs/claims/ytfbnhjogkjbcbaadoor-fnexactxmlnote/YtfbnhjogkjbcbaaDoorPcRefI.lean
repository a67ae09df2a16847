/- The program's refAt and XmlRef. -/
import Derived.Test.YtfbnhjogkjbcbaaDoorPcNum
import Derived.Test.YtfbnhjogkjbcbaaDoorMN12
import Derived.Test.YtfbnhjogkjbcbaaDoorXmValR
namespace Go.Proofs.YtfbnhjogkjbcbaaDoor.Sg
open Go.ChangeShapes Go.WideShapes Go.ChangeAt Go.RowKit

/-- What refAt tells. -/
def prefV (a : Addr) (k : Int) : Option (ByteArray × Nat) → Value
  | some r => .tuple #[.string r.1, .int .i64 (r.2 : Int), .nilIface]
  | none => .tuple #[.string ⟨#[]⟩, .int .i64 k, errV a]
theorem ret_pref {a : Addr} {k : Int} {o : Option (ByteArray × Nat)} {t : ByteArray} {j : Nat} {v : Value} (h : o = some (t, j)) (hv : v = .tuple #[.string t, .int .i64 (j : Int), .nilIface]) : Ending.returned v = .returned (prefV a k o) := by rw [h, hv]; rfl
theorem ret_pref0 {a : Addr} {k : Int} {o : Option (ByteArray × Nat)} (h : o = none) : Ending.returned (.tuple #[.string ⟨#[]⟩, .int .i64 k, errV a]) = .returned (prefV a k o) := by rw [h]; rfl

set_option maxHeartbeats 2000000 in
theorem refAt_out (s : ByteArray) (i : Int) (a : Addr) (w : World) (h : i < 0 ∨ (s.size : Int) ≤ i) (hE : ErrA a w) :
    Calls Tryd.prog 29 #[.string s, .int .i64 i] w fun e w' => e = .returned (prefV a i none) ∧ Below w.heap.size w w' := by
  have hv : w.cell? ⟨0, 0, none⟩ = some (errV a) := hE
  clear hE
  by_cases h0 : i < 0
  · clear h
    go_enter Tryd.func29, Tryd.ntmps29
    go_wp2_with fail
    go_quiet (fail)
    have bf := drew_kd (Below.refl w.heap.size w) nq
    go_wp2_with fail
    go_ret3
    exact ⟨rfl, bf⟩
  · have g0 : decide (i < 0) = false := decide_eq_false h0
    have g1 : (s.size : Int) ≤ i := by omega
    clear h
    go_enter Tryd.func29, Tryd.ntmps29
    go_wp2_with fail
    go_quiet (fail)
    have bf := drew_kd (Below.refl w.heap.size w) nq
    go_wp2_with fail
    go_ret3
    exact ⟨rfl, bf⟩
set_option maxHeartbeats 2000000 in
theorem refAt_not (s : ByteArray) (k : Nat) (a : Addr) (w : World) (hk : k < s.size) (h38 : s[k]'hk ≠ 38) (hE : ErrA a w) :
    Calls Tryd.prog 29 #[.string s, .int .i64 (k : Int)] w fun e w' => e = .returned (prefV a k none) ∧ Below w.heap.size w w' := by
  have hv : w.cell? ⟨0, 0, none⟩ = some (errV a) := hE
  have g38 : (((s[k]'hk).toNat : Int) == 38) = false := by
    rw [beq_eq_false_iff_ne]
    intro h
    exact h38 (UInt8.toNat_inj.1 (show (s[k]'hk).toNat = 38 by omega))
  have g38' : (((s[k]'hk).toNat : Int) != 38) = true := by rw [bne, g38]; rfl
  clear hE h38
  go_enter Tryd.func29, Tryd.ntmps29
  go_wp2_with fail
  go_quiet (fail)
  have bf := drew_kd (Below.refl w.heap.size w) nq
  go_wp2_with fail
  go_ret3
  exact ⟨rfl, bf⟩
theorem tail_bytes (s : ByteArray) (k : Nat) : (s.extract k s.size).data.toList = tailL s k := by
  rw [Lib.extract_data]
  exact List.take_of_length_le (by rw [List.length_drop, ← Lib.size_eq]; exact Nat.le_refl _)
theorem cut_hit {l : List UInt8} {i : Nat} (h : Lib.index l [59] = i) : Lib.cut l [59] = (l.take i, l.drop (i + 1), true) := by
  unfold Lib.cut
  rw [h, if_pos (by omega)]
  rfl
theorem cut_miss {l : List UInt8} (h : Lib.index l [59] = -1) : Lib.cut l [59] = (l, [], false) := by
  unfold Lib.cut
  rw [h, if_neg (by omega)]

set_option maxHeartbeats 4000000 in
theorem refAt_in (s : ByteArray) (k : Nat) (a : Addr) (w : World) (hk : k < s.size) (h38 : s[k]'hk = 38) (hs : s.size ≤ 1073741824) (hE : ErrA a w) (hM : MaxLen w) :
    Calls Tryd.prog 29 #[.string s, .int .i64 (k : Int)] w fun e w' => e = .returned (prefV a k (xrefR s k)) ∧ Below w.heap.size w w' := by
  have HR : Hid (xrefR s k = (refP (tailL s (k + 1))).map fun r => (putS r.1, k + 2 + r.2)) := refP_eq hk h38
  have g38 : (((s[k]'hk).toNat : Int) == 38) = true := by rw [h38]; rfl
  have g38' : (((s[k]'hk).toNat : Int) != 38) = false := by rw [bne, g38]; rfl
  have hlt := tailL_length s (k + 1)
  have q1 : IntKind.i64.wrap ((k : Int) + 1) = (k : Int) + 1 := IntWalk.i64_in _ (by omega)
  have q2 : ((k : Int) + 1).toNat = k + 1 := by omega
  have q3 : (0 : Int) ≤ (k : Int) + 1 := by omega
  have q4 : (k : Int) + 1 ≤ (s.size : Int) := by omega
  have HE : Hid (ErrA a w) := hE
  obtain ⟨m, hm⟩ := hM
  have HC := Tryd.strings_Cut (s.extract (k + 1) s.size) ⟨#[59]⟩ m w (by rw [ByteArray.size_extract]; omega) hm
  rw [tail_bytes, show (⟨#[59]⟩ : ByteArray).data.toList = [59] from rfl] at HC
  clear h38 hE hm
  rcases Lib.index_spec (tailL s (k + 1)) [59] with ⟨h1, _⟩ | ⟨i, h1, h2, _, _⟩
  · have Hn : Hid (xrefR s k = none) := by
      show _ = _
      rw [HR.out]
      unfold refP
      rw [if_neg (by omega)]
      rfl
    rw [cut_miss h1] at HC
    have HS := implRefSign (tailL s (k + 1)) a
    rw [show strB (tailL s (k + 1)) = (⟨(tailL s (k + 1)).toArray⟩ : ByteArray) from rfl] at HS
    clear HR h1
    generalize (⟨(tailL s (k + 1)).toArray⟩ : ByteArray) = nm at *
    generalize refSignL (tailL s (k + 1)) = R at *
    go_enter Tryd.func29, Tryd.ntmps29
    go_wp2_with fail
    refine HC.mono ?_
    rintro e w1 ⟨rfl, n, hw1⟩
    have b1 : Below w.heap.size w w1 := hw1 ▸ drew_kd (Below.refl _ _) n
    clear hw1 HC
    have HE1 := HE.out.below b1
    go_wp2_with fail
    refine (HS w1 (by omega) HE1).mono ?_
    rintro e w2 ⟨rfl, b2⟩
    have b3 := below_from b1 b2
    have hv2 : w2.cell? ⟨0, 0, none⟩ = some (errV a) := HE.out.below b3
    cases R with
    | none =>
      rw [show pnumV a none = .tuple #[.int .i64 0, errV a] from rfl]
      go_wp2_with fail
      go_quiet (fail)
      have bf := drew_kd b3 nq
      go_wp2_with fail
      go_ret3
      exact ⟨ret_pref0 Hn.out, bf⟩
    | some z =>
      rw [show pnumV a (some z) = .tuple #[.int .i64 z, .nilIface] from rfl]
      go_wp2_with fail
      go_quiet (fail)
      have bf := drew_kd b3 nq
      go_wp2_with fail
      go_ret3
      exact ⟨ret_pref0 Hn.out, bf⟩
  · have hil : i < (tailL s (k + 1)).length := by
      have := Lib.index_room (tailL s (k + 1)) [59] (by omega)
      rw [h1] at this
      simp at this
      omega
    have HR2 : Hid (xrefR s k = (refSignL ((tailL s (k + 1)).take i)).map fun z => (putS z, k + 2 + i)) := by
      show _ = _
      rw [HR.out]
      unfold refP
      rw [h1, if_pos (by omega), show ((i : Nat) : Int).toNat = i from rfl, Option.map_map]
      rfl
    rw [cut_hit h1] at HC
    have htl : ((tailL s (k + 1)).take i).length = i := by rw [List.length_take]; omega
    have HS := implRefSign ((tailL s (k + 1)).take i) a
    have hsz : (strB ((tailL s (k + 1)).take i)).size = i := by rw [strB_size, htl]
    rw [show strB ((tailL s (k + 1)).take i) = (⟨((tailL s (k + 1)).take i).toArray⟩ : ByteArray) from rfl] at HS hsz
    clear HR h1
    generalize (⟨((tailL s (k + 1)).take i).toArray⟩ : ByteArray) = nm at *
    generalize (⟨((tailL s (k + 1)).drop (i + 1)).toArray⟩ : ByteArray) = rs at *
    rw [htl] at HS
    generalize refSignL ((tailL s (k + 1)).take i) = R at *
    have Hsz : Hid (nm.size = i) := hsz
    clear hsz htl h2
    have q5 : IntKind.i64.wrap ((k : Int) + 1 + (nm.size : Int)) = (k : Int) + 1 + (nm.size : Int) := IntWalk.i64_in _ (by have := Hsz.out; omega)
    have q6 : IntKind.i64.wrap ((k : Int) + 1 + (nm.size : Int) + 1) = (k : Int) + 1 + (nm.size : Int) + 1 := IntWalk.i64_in _ (by have := Hsz.out; omega)
    have Hj : Hid (((k + 2 + i : Nat) : Int) = (k : Int) + 1 + (nm.size : Int) + 1) := by show _ = _; have := Hsz.out; omega
    go_enter Tryd.func29, Tryd.ntmps29
    go_wp2_with fail
    refine HC.mono ?_
    rintro e w1 ⟨rfl, n, hw1⟩
    have b1 : Below w.heap.size w w1 := hw1 ▸ drew_kd (Below.refl _ _) n
    clear hw1 HC
    have HE1 := HE.out.below b1
    go_wp2_with fail
    refine (HS w1 (by omega) HE1).mono ?_
    rintro e w2 ⟨rfl, b2⟩
    have b3 := below_from b1 b2
    have hv2 : w2.cell? ⟨0, 0, none⟩ = some (errV a) := HE.out.below b3
    cases R with
    | none =>
      have Hn : Hid (xrefR s k = none) := HR2.out
      rw [show pnumV a none = .tuple #[.int .i64 0, errV a] from rfl]
      go_wp2_with fail
      go_quiet (fail)
      have bf := drew_kd b3 nq
      go_wp2_with fail
      go_ret3
      exact ⟨ret_pref0 Hn.out, bf⟩
    | some z =>
      have Hn : Hid (xrefR s k = some (putS z, k + 2 + i)) := HR2.out
      have HP := implPutSign z
      generalize putS z = P at *
      rw [show pnumV a (some z) = .tuple #[.int .i64 z, .nilIface] from rfl]
      go_wp2_with fail
      refine (HP _).mono ?_
      rintro e w3 ⟨rfl, rfl⟩
      go_wp2_with fail
      go_ret3
      exact ⟨ret_pref Hn.out (by rw [Hj.out]; rfl), b3⟩

theorem xref_not {s : ByteArray} {k : Nat} (h : k < s.size) (h38 : s[k]'h ≠ 38) : xrefR s k = none := by
  have S : ∀ y : List UInt8, standsB s k (strB (38 :: y)) = false := by
    intro y
    cases hc : standsB s k (strB (38 :: y)) with
    | false => rfl
    | true =>
      exfalso
      obtain ⟨e, hl⟩ := parted s k h
      generalize s.data.toList.take k = pre at *
      subst hl
      rw [e, stands_pre, List.isPrefixOf_iff_prefix] at hc
      obtain ⟨r, hr⟩ := hc
      injection hr with h1 _
      exact h38 h1.symm
  unfold xrefR
  rw [show standsB s k ampB = false from S _, show standsB s k ltB = false from S _, show standsB s k gtB = false from S _, show standsB s k quotB = false from S _, show standsB s k aposB = false from S _, show standsB s k hashB = false from S _]
  rfl

set_option maxHeartbeats 1000000 in
theorem implXmlRef (s : ByteArray) (i : Int) (a : Addr) (w : World) (hs : s.size ≤ 1073741824) (hE : ErrA a w) (hM : MaxLen w) :
    Calls Tryd.prog 11 #[.string s, .int .i64 i] w fun e w' => e = .returned (.tuple #[.string (xrS s i), .int .i64 (xrI s i)]) ∧ Below w.heap.size w w' := by
  have HR : Hid (Calls Tryd.prog 29 #[.string s, .int .i64 i] w fun e w' => e = .returned (prefV a i (xrO s i)) ∧ Below w.heap.size w w') := by
    unfold xrO
    by_cases h : 0 ≤ i ∧ i < s.size
    · rw [if_pos h]
      have hk : i.toNat < s.size := by omega
      have e : ((i.toNat : Nat) : Int) = i := by omega
      by_cases h38 : s[i.toNat]'hk = 38
      · have C := refAt_in s i.toNat a w hk h38 hs hE hM
        rw [e] at C
        exact C
      · have C := refAt_not s i.toNat a w hk h38 hE
        rw [e] at C
        rw [xref_not hk h38]
        exact C
    · rw [if_neg h]
      exact refAt_out s i a w (by omega) hE
  have Hs : Hid (xrS s i = ((xrO s i).map (·.1)).getD ⟨#[]⟩) := rfl
  have Hi : Hid (xrI s i = ((xrO s i).map fun r => (r.2 : Int)).getD (-1)) := rfl
  have HE : Hid (ErrA a w) := hE
  clear hE
  go_enter Tryd.func11, Tryd.ntmps11
  go_wp2_with fail
  refine HR.out.mono ?_
  rintro e w1 ⟨rfl, b1⟩
  have HE1 := HE.out.below b1
  clear HR
  cases ho : xrO s i with
  | none =>
    have Hs2 : Hid (xrS s i = ⟨#[]⟩) := by show _ = _; rw [Hs.out, ho]; rfl
    have Hi2 : Hid (xrI s i = -1) := by show _ = _; rw [Hi.out, ho]; rfl
    rw [show prefV a i none = .tuple #[.string ⟨#[]⟩, .int .i64 i, errV a] from rfl]
    go_wp2_with fail
    refine (told_no _ _ a _ HE1).mono ?_
    rintro e w2 ⟨rfl, b2⟩
    have b3 := below_from b1 b2
    go_wp2_with fail
    go_ret2
    exact ⟨by rw [Hs2.out, Hi2.out]; rfl, b3⟩
  | some r =>
    obtain ⟨t, j⟩ := r
    have Hs2 : Hid (xrS s i = t) := by show _ = _; rw [Hs.out, ho]; rfl
    have Hi2 : Hid (xrI s i = (j : Int)) := by show _ = _; rw [Hi.out, ho]; rfl
    rw [show prefV a i (some (t, j)) = .tuple #[.string t, .int .i64 (j : Int), .nilIface] from rfl]
    go_wp2_with fail
    refine (told_yes _ _ a _ HE1).mono ?_
    rintro e w2 ⟨rfl, b2⟩
    have b3 := below_from b1 b2
    go_wp2_with fail
    go_ret2
    exact ⟨by rw [Hs2.out, Hi2.out]; rfl, b3⟩

end Go.Proofs.YtfbnhjogkjbcbaaDoor.Sg
