/- A note, by what stands up to the next two bytes 45. Plain. The program's textSignAt. What the model's XmlName hands back, at any place; its contract. -/
import Derived.Test.YtfbnhjogkjbcbaaDoorMN08
import Derived.Test.YtfbnhjogkjbcbaaDoorPcRefI
import Derived.Test.YtfbnhjogkjbcbaaDoorMN13
import Derived.Test.YtfbnhjogkjbcbaaDoorPcSign
import Derived.Test.YtfbnhjogkjbcbaaDoorXmName
namespace Go.Proofs.YtfbnhjogkjbcbaaDoor.Sg

theorem stands_gen {s : ByteArray} {p : Nat} (t : List UInt8) (h : p ≤ s.size) : standsB s p (strB t) = t.isPrefixOf (tailL s p) := by
  obtain ⟨e, hl⟩ := ptail_all s p h
  have h1 := stands_pre (s.data.toList.take p) (tailL s p) t
  rw [hl, ← e] at h1
  exact h1
theorem search_none {s t : ByteArray} : ∀ (d k : Nat), s.size + 1 - k ≤ d → (∀ p, k ≤ p → standsB s p t = false) → searchE s k t = none := by
  intro d
  induction d with
  | zero =>
    intro k hd _
    exact searchE_end (by omega)
  | succ d ih =>
    intro k hd h
    by_cases h1 : k + t.size ≤ s.size
    · rw [searchE_no h1 (h k (Nat.le_refl _))]
      exact ih (k + 1) (by omega) fun p hp => h p (by omega)
    · exact searchE_end h1
theorem search_hit {s t : ByteArray} {m : Nat} (hm : standsB s m t = true) : ∀ (d k : Nat), m - k ≤ d → k ≤ m → (∀ p, k ≤ p → p < m → standsB s p t = false) → searchE s k t = some m := by
  have hle := stands_le hm
  intro d
  induction d with
  | zero =>
    intro k hd hk _
    obtain rfl : k = m := by omega
    exact searchE_yes hm
  | succ d ih =>
    intro k hd hk h
    by_cases hkm : k = m
    · subst hkm
      exact searchE_yes hm
    · rw [searchE_no (by omega) (h k (Nat.le_refl _) (by omega))]
      exact ih (k + 1) (by omega) (by omega) fun p h1 h2 => h p (by omega) h2
theorem search_two {s : ByteArray} {k : Nat} (hk : k ≤ s.size) : searchE s k twoB = if 0 ≤ Lib.index (tailL s k) [45, 45] then some (k + (Lib.index (tailL s k) [45, 45]).toNat) else none := by
  have hlen := tailL_length s k
  have hocc : ∀ j, k + j ≤ s.size → Lib.occAt (tailL s k) [45, 45] j = standsB s (k + j) twoB := by
    intro j hj
    unfold Lib.occAt
    rw [tailL_drop]
    exact (stands_gen [45, 45] hj).symm
  rcases Lib.index_spec (tailL s k) [45, 45] with ⟨e1, e2⟩ | ⟨i, e1, e2, e3, e4⟩
  · rw [e1, if_neg (by decide)]
    refine search_none (s.size + 1) k (by omega) fun p hp => ?_
    by_cases hps : p ≤ s.size
    · have h1 := hocc (p - k) (by omega)
      rw [show k + (p - k) = p by omega, e2 (p - k) (by omega)] at h1
      exact h1.symm
    · unfold standsB
      rw [decide_eq_false (by omega), Bool.false_and]
  · rw [e1, if_pos (by omega), show ((i : Nat) : Int).toNat = i from rfl]
    have h3 := hocc i (by omega)
    rw [e3] at h3
    refine search_hit h3.symm i k (by omega) (by omega) fun p h1 h2 => ?_
    have h4 := hocc (p - k) (by omega)
    rw [show k + (p - k) = p by omega, e4 (p - k) (by omega)] at h4
    exact h4.symm
/-- What the program tells of a note: where it ends. -/
def noteP (s : ByteArray) (k : Nat) : Option Nat :=
  if Lib.hasPrefix (tailL s k) [60, 33, 45, 45] then
    if 0 ≤ Lib.index (tailL s (k + 4)) [45, 45] then
      let m := k + 4 + (Lib.index (tailL s (k + 4)) [45, 45]).toNat
      if stNoteB (s.extract (k + 4) m) && Lib.hasPrefix (tailL s (m + 2)) [62] then some m else none
    else none
  else none
theorem noteP_eq {s : ByteArray} {k : Nat} (hk : k ≤ s.size) : xnoteR s k = noteP s k := by
  have ho : standsB s k openNoteB = Lib.hasPrefix (tailL s k) [60, 33, 45, 45] := stands_gen [60, 33, 45, 45] hk
  unfold xnoteR noteP
  rw [ho]
  cases hp : Lib.hasPrefix (tailL s k) [60, 33, 45, 45]
  · rfl
  · rw [hp] at ho
    have h4 : k + 4 ≤ s.size := stands_le ho
    rw [if_pos rfl, if_pos rfl, search_two h4]
    rcases Lib.index_spec (tailL s (k + 4)) [45, 45] with ⟨e1, e2⟩ | ⟨i, e1, e2, e3, e4⟩
    · rw [e1, if_neg (by decide), if_neg (by decide)]
    · rw [e1, if_pos (by omega), if_pos (by omega), show ((i : Nat) : Int).toNat = i from rfl]
      have hroom := Lib.index_room (tailL s (k + 4)) [45, 45] (by omega)
      have hlen := tailL_length s (k + 4)
      rw [e1] at hroom
      simp only [List.length_cons, List.length_nil] at hroom
      have hs : standsB s (k + 4 + i) shutNoteB = Lib.hasPrefix (tailL s (k + 4 + i + 2)) [62] := by
        rw [show shutNoteB = strB [45, 45, 62] from rfl, stands_gen [45, 45, 62] (by omega)]
        unfold Lib.occAt at e3
        rw [tailL_drop, List.isPrefixOf_iff_prefix] at e3
        obtain ⟨r, hr⟩ := e3
        have hr2 : tailL s (k + 4 + i + 2) = r := by
          rw [← tailL_drop s (k + 4 + i) 2, ← hr]
          rfl
        rw [hr2, ← hr]
        rfl
      simp only
      rw [hs, Bool.and_comm]

end Go.Proofs.YtfbnhjogkjbcbaaDoor.Sg

namespace Go.Proofs.YtfbnhjogkjbcbaaDoor.Sg
open Go.ChangeShapes Go.WideShapes Go.ChangeAt Go.RowKit

/-- What the world holds, and how long the library's own number is. -/
def PcX (a : Addr) (w : World) : Prop := PcT a w ∧ MaxLen w
theorem PcX.below {a : Addr} {w w' : World} (h : PcX a w) (hb : Below w.heap.size w w') : PcX a w' := ⟨h.1.below hb, h.2.below hb⟩

/-- A text's sign, as it is or as a reference: its bytes, and the place behind it. -/
def tsO (s : ByteArray) (k : Nat) (h : k < s.size) : Option (ByteArray × Nat) := if s[k]'h = 38 then xrefR s k else if psignB s k then some (s.extract k (k + (getS s k).2), k + (getS s k).2) else none

set_option maxHeartbeats 4000000 in
theorem implTextSign (s : ByteArray) (k : Nat) (a : Addr) (w : World) (hk : k < s.size) (hs : s.size ≤ 1073741824) (hX : PcX a w) :
    Calls Tryd.prog 55 #[.string s, .int .i64 (k : Int)] w fun e w' => e = .returned (prefV a k (tsO s k hk)) ∧ Below w.heap.size w w' := by
  have HX : Hid (PcX a w) := hX
  clear hX
  by_cases h38 : s[k]'hk = 38
  · have g38 : (((s[k]'hk).toNat : Int) == 38) = true := by rw [h38]; rfl
    have Ho : Hid (tsO s k hk = xrefR s k) := if_pos h38
    have HC := refAt_in s k a w hk h38 hs HX.out.1.2 HX.out.2
    clear h38
    generalize xrefR s k = R at *
    go_enter Tryd.func55, Tryd.ntmps55
    go_wp2_with fail
    refine HC.mono ?_
    rintro e w1 ⟨rfl, b1⟩
    cases R with
    | none =>
      rw [show prefV a k none = .tuple #[.string ⟨#[]⟩, .int .i64 k, errV a] from rfl]
      go_wp2_with fail
      go_ret3
      exact ⟨ret_pref0 Ho.out, b1⟩
    | some r =>
      obtain ⟨t, j⟩ := r
      rw [show prefV a k (some (t, j)) = .tuple #[.string t, .int .i64 (j : Int), .nilIface] from rfl]
      go_wp2_with fail
      go_ret3
      exact ⟨ret_pref Ho.out rfl, b1⟩
  · have g38 : (((s[k]'hk).toNat : Int) == 38) = false := by
      rw [beq_eq_false_iff_ne]
      intro h
      exact h38 (UInt8.toNat_inj.1 (show (s[k]'hk).toNat = 38 by omega))
    have Ho : Hid (tsO s k hk = if psignB s k then some (s.extract k (k + (getS s k).2), k + (getS s k).2) else none) := if_neg h38
    have Hp : Hid (psignB s k = (textB ((getS s k).1 : Int) && (decide ((getS s k).1 ≠ 13) && (decide ((getS s k).1 ≠ 60) && asRead s k)))) := rfl
    clear h38
    cases hr : asRead s k
    · have HG := signAt_no s k a w hk (by omega) HX.out.1 hr
      have Hn : Hid (tsO s k hk = none) := by show _ = _; rw [Ho.out, Hp.out, hr]; simp
      clear hr Hp Ho
      go_enter Tryd.func55, Tryd.ntmps55
      go_wp2_with fail
      refine HG.mono ?_
      rintro e w1 ⟨rfl, b1⟩
      have hv1 : w1.cell? ⟨0, 0, none⟩ = some (errV a) := HX.out.1.2.below b1
      clear HG
      go_wp2_with fail
      go_quiet (fail)
      have bf := drew_kd b1 nq
      go_wp2_with fail
      go_ret3
      exact ⟨ret_pref0 Hn.out, bf⟩
    · have HG := signAt_yes s k a w hk (by omega) HX.out.1 hr
      have hm := getS_many s k hk
      rw [hr] at Hp
      clear hr
      have HI := implIsText ((getS s k).1 : Int)
      generalize psignB s k = ps at *
      generalize (getS s k).1 = n at *
      generalize (getS s k).2 = m at *
      cases ht : textB (n : Int)
      · have Hn : Hid (tsO s k hk = none) := by show _ = _; rw [Ho.out, Hp.out, ht]; simp
        rw [ht] at HI
        clear ht Hp Ho
        go_enter Tryd.func55, Tryd.ntmps55
        go_wp2_with fail
        refine HG.mono ?_
        rintro e w1 ⟨rfl, b1⟩
        have hv1 : w1.cell? ⟨0, 0, none⟩ = some (errV a) := HX.out.1.2.below b1
        clear HG
        go_wp2_with fail
        refine (HI _).mono ?_
        rintro e w2 ⟨rfl, rfl⟩
        clear HI
        go_wp2_with fail
        go_quiet (fail)
        have bf := drew_kd b1 nq
        go_wp2_with fail
        go_ret3
        exact ⟨ret_pref0 Hn.out, bf⟩
      · rw [ht] at HI Hp
        clear ht
        by_cases h13 : n = 13
        · have Hn : Hid (tsO s k hk = none) := by show _ = _; rw [Ho.out, Hp.out, h13]; simp
          have g13 : ((n : Int) == 13) = true := by rw [h13]; rfl
          clear h13 Hp Ho
          go_enter Tryd.func55, Tryd.ntmps55
          go_wp2_with fail
          refine HG.mono ?_
          rintro e w1 ⟨rfl, b1⟩
          have hv1 : w1.cell? ⟨0, 0, none⟩ = some (errV a) := HX.out.1.2.below b1
          clear HG
          go_wp2_with fail
          refine (HI _).mono ?_
          rintro e w2 ⟨rfl, rfl⟩
          clear HI
          go_wp2_with fail
          go_quiet (fail)
          have bf := drew_kd b1 nq
          go_wp2_with fail
          go_ret3
          exact ⟨ret_pref0 Hn.out, bf⟩
        · have g13 : ((n : Int) == 13) = false := by rw [beq_eq_false_iff_ne]; omega
          by_cases h60 : n = 60
          · have Hn : Hid (tsO s k hk = none) := by show _ = _; rw [Ho.out, Hp.out, h60]; simp
            have g60 : ((n : Int) == 60) = true := by rw [h60]; rfl
            clear h60 h13 Hp Ho
            go_enter Tryd.func55, Tryd.ntmps55
            go_wp2_with fail
            refine HG.mono ?_
            rintro e w1 ⟨rfl, b1⟩
            have hv1 : w1.cell? ⟨0, 0, none⟩ = some (errV a) := HX.out.1.2.below b1
            clear HG
            go_wp2_with fail
            refine (HI _).mono ?_
            rintro e w2 ⟨rfl, rfl⟩
            clear HI
            go_wp2_with fail
            go_quiet (fail)
            have bf := drew_kd b1 nq
            go_wp2_with fail
            go_ret3
            exact ⟨ret_pref0 Hn.out, bf⟩
          · have g60 : ((n : Int) == 60) = false := by rw [beq_eq_false_iff_ne]; omega
            have Hn : Hid (tsO s k hk = some (s.extract k (k + m), k + m)) := by show _ = _; rw [Ho.out, Hp.out]; simp [h13, h60]
            have q1 : (k : Int) ≤ (k : Int) + (m : Int) := by omega
            have q2 : (k : Int) + (m : Int) ≤ (s.size : Int) := by omega
            have q3 : ((k : Int) + (m : Int)).toNat = k + m := by omega
            clear h60 h13 Hp Ho
            go_enter Tryd.func55, Tryd.ntmps55
            go_wp2_with fail
            refine HG.mono ?_
            rintro e w1 ⟨rfl, b1⟩
            clear HG
            go_wp2_with fail
            refine (HI _).mono ?_
            rintro e w2 ⟨rfl, rfl⟩
            clear HI
            go_wp2_with fail
            go_ret3
            exact ⟨ret_pref Hn.out (by rfl), b1⟩

end Go.Proofs.YtfbnhjogkjbcbaaDoor.Sg

namespace Go.Proofs.YtfbnhjogkjbcbaaDoor.Sg
open Go.ChangeShapes Go.WideShapes Go.ChangeAt Go.RowKit

def xnS (s : ByteArray) (i : Int) : ByteArray := if 0 ≤ i ∧ i ≤ s.size then s.extract i.toNat (xnameE s true i.toNat) else ⟨#[]⟩
def xnI (s : ByteArray) (i : Int) : Int := if 0 ≤ i ∧ i ≤ s.size then (xnameE s true i.toNat : Int) else i

theorem specXmlName (s : ByteArray) (i : Int) (w : World) (hs : s.size ≤ 1073741824) :
    Calls Tryd.prog 8 #[.string s, .int .i64 i] w fun e w' => e = .returned (.tuple #[.string (xnS s i), .int .i64 (xnI s i)]) ∧ Below w.heap.size w w' := by
  by_cases h : 0 ≤ i ∧ i ≤ s.size
  · unfold xnS xnI
    rw [if_pos h, if_pos h]
    have C := specXmlName_in s i.toNat w (by omega) (by omega)
    rw [show ((i.toNat : Nat) : Int) = i by omega] at C
    exact C
  · unfold xnS xnI
    rw [if_neg h, if_neg h]
    exact (specXmlName_out s i w (by omega)).mono fun e w' h => ⟨h.1, h.2 ▸ Below.refl _ _⟩

end Go.Proofs.YtfbnhjogkjbcbaaDoor.Sg
