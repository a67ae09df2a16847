/- Contracts of the model's loops over bytes. Contracts of the program's isOne, past and upTo. What the program reads of a text up to a byte of some, in the model's words. Plain. -/
import Derived.Test.YtfbnhjogkjbcbaaDoorMN02
import Derived.Test.YtfbnhjogkjbcbaaDoorMN06
import Derived.Test.YtfbnhjogkjbcbaaDoorSgOk
import Derived.Test.YtfbnhjogkjbcbaaDoorShelf
import Derived.Test.YtfbnhjogkjbcbaaDoorPcText2
namespace Go.Proofs.YtfbnhjogkjbcbaaDoor.Sg
open Go.ChangeShapes Go.WideShapes Go.ChangeAt Go.RowKit

theorem ret_i64' {a b : Int} (h : a = b) : Ending.returned (.int .i64 a) = .returned (.int .i64 b) := by rw [h]






set_option maxHeartbeats 2000000 in
theorem specFind (s : ByteArray) (i : Nat) (b : UInt8) (w : World) (hi : i ≤ s.size) (hs : s.size ≤ 17592186044416) :
    Calls Tryd.prog 30 #[.string s, .int .i64 (i : Int), .int .u8 (b.toNat : Int)] w fun e w' => e = .returned (.int .i64 (findV (findE s i b))) ∧ w' = w := by
  go_enter Tryd.func30, Tryd.ntmps30
  go_wp2
  go_loopw [1] (fun v wr => ∃ k : Nat, k ≤ s.size ∧ v = .int .i64 (k : Int) ∧ Hid (findE s i b = findE s k b) ∧ wr = w) (fun v _ => s.size - (intOf v).toNat)
  case atStart => exact ⟨i, hi, rfl, rfl, rfl⟩
  case round =>
    obtain ⟨k, hk, rfl, Hsp, rfl⟩ := hrel
    by_cases hlt : k < s.size
    · by_cases he : s[k]'hlt = b
      · have Hn : Hid (findE s i b = some k) := Hsp.out.trans (findE_yes hlt he)
        have g1 : (((s[k]'hlt).toNat : Int) == (b.toNat : Int)) = true := by simp [he]
        clear he Hsp
        go_wp2
        go_ret
        exact ⟨ret_i64' (by rw [Hn.out]; rfl), rfl⟩
      · have Hn : Hid (findE s i b = findE s (k + 1) b) := Hsp.out.trans (findE_no hlt he)
        have g1 : (((s[k]'hlt).toNat : Int) == (b.toNat : Int)) = false := by
          simp only [beq_eq_false_iff_ne]
          intro h
          exact he (UInt8.toNat_inj.1 (by omega))
        have g2 : ((s[k]'hlt).toNat == b.toNat) = false := by
          simp only [beq_eq_false_iff_ne]
          exact fun h => he (UInt8.toNat_inj.1 h)
        clear he Hsp
        go_wp2
        go_roundw
        case rel => exact ⟨k + 1, by omega, by go_num, Hn, by first | trivial | rfl⟩
        case measure => simp [intOf]; omega
    · have Hn : Hid (findE s i b = none) := Hsp.out.trans (findE_end hlt)
      have g0 : decide ((k : Int) < (s.size : Int)) = false := decide_eq_false (by omega)
      clear Hsp
      go_wp2
      go_ret
      exact ⟨ret_i64' (by rw [Hn.out]; rfl), rfl⟩

end Go.Proofs.YtfbnhjogkjbcbaaDoor.Sg

namespace Go.Proofs.YtfbnhjogkjbcbaaDoor.Sg
open Go.ChangeShapes Go.WideShapes Go.ChangeAt Go.RowKit

/-- A byte is one of those. -/
def oneU (t : ByteArray) (b : UInt8) : Bool := t.data.toList.contains b

theorem indexByte_ge (l : List UInt8) (b : UInt8) : (0 : Int) ≤ Lib.indexByte l b ∨ Lib.indexByte l b = -1 := by
  induction l with
  | nil => exact .inr rfl
  | cons x l ih =>
    unfold Lib.indexByte
    by_cases h : (x == b) = true
    · rw [if_pos h]; exact .inl (Int.le_refl _)
    · rw [if_neg h]
      by_cases h2 : (Lib.indexByte l b == -1) = true
      · rw [if_pos h2]; exact .inr rfl
      · rw [if_neg h2]
        rcases ih with h3 | h3
        · exact .inl (by omega)
        · exact absurd (beq_iff_eq.2 h3) h2
theorem indexByte_one (l : List UInt8) (b : UInt8) : decide ((0 : Int) ≤ Lib.indexByte l b) = l.contains b := by
  induction l with
  | nil => rfl
  | cons x l ih =>
    unfold Lib.indexByte
    rw [List.contains_cons]
    by_cases h : (x == b) = true
    · rw [if_pos h]
      have e : x = b := beq_iff_eq.1 h
      subst e
      simp
    · rw [if_neg h]
      have e : (b == x) = false := by
        apply Bool.eq_false_iff.2
        intro h2
        exact h (beq_iff_eq.2 (beq_iff_eq.1 h2).symm)
      rw [e, ← ih, Bool.false_or]
      by_cases h2 : (Lib.indexByte l b == -1) = true
      · rw [if_pos h2]
        have e2 : Lib.indexByte l b = -1 := beq_iff_eq.1 h2
        rw [e2]
      · rw [if_neg h2]
        have e2 : Lib.indexByte l b ≠ -1 := fun e3 => h2 (beq_iff_eq.2 e3)
        have := indexByte_ge l b
        rw [decide_eq_decide]
        omega

set_option maxHeartbeats 1000000 in
theorem implIsOne (b : UInt8) (t : ByteArray) (w : World) :
    Calls Tryd.prog 71 #[.int .u8 (b.toNat : Int), .string t] w fun e w' => e = .returned (.bool (oneU t b)) ∧ w' = w := by
  have Hi := Tryd.strings_IndexByte t (b.toNat : Int)
  rw [show ((b.toNat : Int)).toNat.toUInt8 = b by simp] at Hi
  have Hn : Hid (decide ((0 : Int) ≤ Lib.indexByte t.data.toList b) = oneU t b) := indexByte_one _ _
  generalize Lib.indexByte t.data.toList b = z at *
  go_enter Tryd.func71, Tryd.ntmps71
  go_wp2_with fail
  refine (Hi _).mono ?_
  rintro e w1 ⟨rfl, rfl⟩
  go_wp2
  go_ret
  exact ⟨ret_bool Hn.out, rfl⟩

/-- A byte is none of those. -/
def notU (t : ByteArray) (b : UInt8) : Bool := !oneU t b

set_option maxHeartbeats 1000000 in
theorem implUpTo (s : ByteArray) (k0 : Nat) (t : ByteArray) (w : World) (hs : s.size ≤ 17592186044416) :
    Calls Tryd.prog 53 #[.string s, .int .i64 (k0 : Int), .string t] w fun e w' => e = .returned (.int .i64 (runE (notU t) s k0 : Int)) ∧ w' = w := by
  go_enter Tryd.func53, Tryd.ntmps53
  go_wp2
  go_loopw [1] (fun v wr => ∃ k : Nat, v = .int .i64 (k : Int) ∧ Hid (runE (notU t) s k0 = runE (notU t) s k) ∧ wr = w) (fun v _ => s.size - (intOf v).toNat)
  case atStart => exact ⟨k0, rfl, rfl, rfl⟩
  case round =>
    obtain ⟨k, rfl, Hsp, rfl⟩ := hrel
    by_cases hlt : k < s.size
    · have Hv := implIsOne (s[k]'hlt) t
      cases hp : oneU t (s[k]'hlt)
      · have Hn : Hid (runE (notU t) s k0 = runE (notU t) s (k + 1)) := Hsp.out.trans (runE_yes hlt (by unfold notU; rw [hp]; rfl))
        rw [hp] at Hv
        clear Hsp hp
        go_wp2_with fail
        refine (Hv _).mono ?_
        rintro e w1 ⟨rfl, rfl⟩
        go_wp2
        go_roundw
        case rel => exact ⟨k + 1, by go_num, Hn, by first | trivial | rfl⟩
        case measure => simp [intOf]; omega
      · have Hn : Hid (runE (notU t) s k0 = k) := Hsp.out.trans (runE_no hlt (by unfold notU; rw [hp]; rfl))
        rw [hp] at Hv
        clear Hsp hp
        go_wp2_with fail
        refine (Hv _).mono ?_
        rintro e w1 ⟨rfl, rfl⟩
        go_wp2
        go_ret
        exact ⟨ret_i64' (by rw [Hn.out]), rfl⟩
    · have Hn : Hid (runE (notU t) s k0 = k) := Hsp.out.trans (runE_end hlt)
      have g0 : decide ((k : Int) < (s.size : Int)) = false := decide_eq_false (by omega)
      clear Hsp
      go_wp2
      go_ret
      exact ⟨ret_i64' (by rw [Hn.out]), rfl⟩

end Go.Proofs.YtfbnhjogkjbcbaaDoor.Sg

namespace Go.Proofs.YtfbnhjogkjbcbaaDoor.Sg

theorem runE_all {p : UInt8 → Bool} {s : ByteArray} : ∀ (d k : Nat), s.size - k ≤ d → k ≤ s.size → (∀ j, k ≤ j → j < runE p s k → ∀ hs : j < s.size, p (s[j]'hs) = true) ∧ (∀ h : runE p s k < s.size, p (s[runE p s k]'h) = false) := by
  intro d
  induction d with
  | zero =>
    intro k hd hk
    have e := runE_end (p := p) (s := s) (k := k) (by omega)
    exact ⟨fun j h1 h2 hs => by omega, fun h => by omega⟩
  | succ d ih =>
    intro k hd hk
    by_cases h : k < s.size
    · cases hp : p (s[k]'h)
      · have e := runE_no h hp
        refine ⟨fun j h1 h2 hs => by omega, fun h2 => ?_⟩
        rw [← hp]
        congr 2
      · have e := runE_yes h hp
        have hi := ih (k + 1) (by omega) (by omega)
        rw [e]
        refine ⟨fun j h1 h2 hs => ?_, hi.2⟩
        by_cases hj : j = k
        · subst hj
          exact hp
        · exact hi.1 j (by omega) h2 hs
    · have e := runE_end (p := p) (s := s) (k := k) h
      exact ⟨fun j h1 h2 hs => by omega, fun h => by omega⟩

theorem stands_tail {s : ByteArray} {p : Nat} (h : p ≤ s.size) : standsB s p closeB = List.isPrefixOf [93, 93, 62] (tailL s p) := by
  obtain ⟨e, hl⟩ := ptail_all s p h
  have h1 := stands_pre (s.data.toList.take p) (tailL s p) [93, 93, 62]
  rw [hl, ← e] at h1
  exact h1
theorem stands_cut {s : ByteArray} {e : List UInt8} {p q : Nat} (he : EndOk e) (hp : p < q) (hq : q ≤ s.size) (hend : ∀ h : q < s.size, s[q]'h ∈ e) : standsB s p closeB = List.isPrefixOf [93, 93, 62] (tailL (s.extract 0 q) p) := by
  rw [cut_tail]
  cases hc : standsB s p closeB
  · cases h2 : List.isPrefixOf [93, 93, 62] ((tailL s p).take (q - p)) with
    | false => rfl
    | true =>
      rw [stands_tail (by omega)] at hc
      rw [List.isPrefixOf_iff_prefix] at h2
      have h3 := List.isPrefixOf_iff_prefix.2 (h2.trans (List.take_prefix _ _))
      rw [hc] at h3
      cases h3
  · have h4 := stands_close hc
    rw [stands_tail (by omega)] at hc
    have hq3 : p + 3 ≤ q := by
      apply Classical.byContradiction
      intro h
      have hqs : q < s.size := by omega
      have h5 := he.no (hend hqs)
      rw [← get_bang hqs] at h5
      by_cases h6 : q = p + 1
      · rw [h6] at h5
        exact h5.2.2.2.1 h4.2.2.1
      · rw [show q = p + 2 by omega] at h5
        exact h5.2.2.2.2.1 h4.2.2.2
    rw [List.isPrefixOf_iff_prefix] at hc
    have h6 : ([93, 93, 62] : List UInt8) <+: (tailL s p).take (q - p) := by
      obtain ⟨r, hr⟩ := hc
      rw [← hr, List.take_append, List.take_of_length_le (by show 3 ≤ q - p; omega)]
      exact ⟨_, rfl⟩
    exact (List.isPrefixOf_iff_prefix.2 h6).symm
/-- What the program tells of a text up to a byte of some. -/
def textP (s : ByteArray) (k q : Nat) : Option (List UInt8 × Nat) := if Lib.contains (tailL (s.extract 0 q) k) [93, 93, 62] then none else (ptextR (s.extract 0 q) k).map fun r => (r, q)
theorem textP_eq {s e : ByteArray} {k : Nat} (he : EndOk e.data.toList) (hk : k ≤ s.size) : xtextR s e.data.toList k = textP s k (runE (notU e) s k) := by
  have hr := runE_all (p := notU e) (s := s) s.size k (by omega) hk
  have hle := runE_le (p := notU e) (s := s) hk
  generalize runE (notU e) s k = q at *
  have hend : ∀ h : q < s.size, s[q]'h ∈ e.data.toList := by
    intro h
    have h1 := hr.2 h
    unfold notU oneU at h1
    rw [Bool.not_eq_false', List.contains_iff_mem] at h1
    exact h1
  have hno : ∀ j, k ≤ j → ∀ h : j < q, e.data.toList.contains (s[j]'(by omega)) = false := by
    intro j h1 h2
    have h3 := hr.1 j h1 h2 (by omega)
    unfold notU oneU at h3
    rw [Bool.not_eq_true'] at h3
    exact h3
  have hT := text_cut he hle.2 hend (q - k) k (Nat.le_refl _) hle.1 hno
  have hs' := cut_size s q hle.2
  have hlen := tailL_length (s.extract 0 q) k
  rw [hs'] at hlen
  have hd : ∀ j, (tailL (s.extract 0 q) k).drop j = tailL (s.extract 0 q) (k + j) := fun j => tailL_drop _ _ _
  unfold textP Lib.contains
  rcases Lib.index_spec (tailL (s.extract 0 q) k) [93, 93, 62] with ⟨e1, e2⟩ | ⟨i, e1, e2, e3, e4⟩
  · rw [e1, if_neg (by decide)]
    apply hT.2
    intro p h1 h2
    have := e2 (p - k) (by omega)
    unfold Lib.occAt at this
    rw [hd, show k + (p - k) = p by omega] at this
    rw [stands_cut he h2 hle.2 hend, this]
  · rw [e1, if_pos (decide_eq_true (by omega))]
    apply hT.1
    have hroom := Lib.index_room (tailL (s.extract 0 q) k) [93, 93, 62] (by omega)
    rw [e1] at hroom
    simp only [List.length_cons, List.length_nil] at hroom
    refine ⟨k + i, by omega, by omega, ?_⟩
    rw [stands_cut he (by omega) hle.2 hend]
    unfold Lib.occAt at e3
    rw [hd] at e3
    exact e3

end Go.Proofs.YtfbnhjogkjbcbaaDoor.Sg
