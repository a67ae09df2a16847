/- What the program reads of a text up to a byte of some, in the model's words. Plain. The program's textSignAt. What stays of a builder where nothing that was there has turned. -/
import Derived.Test.YthikgkhnhbaccaaGreatDoorMP23
import Derived.Test.YthikgkhnhbaccaaGreatDoorPcRefI
import Derived.Test.YthikgkhnhbaccaaGreatDoorMP21
import Derived.Test.YthikgkhnhbaccaaGreatDoorMP14
namespace Go.Proofs.YthikgkhnhbaccaaGreatDoor.Sg

theorem runE_all {p : UInt8 → Bool} {s : ByteArray} : ∀ (d k : Nat), s.size - k ≤ d → k ≤ s.size → (∀ j, k ≤ j → j < runE p s k → ∀ hs : j < s.size, p (s[j]'hs) = true) ∧ (∀ h : runE p s k < s.size, p (s[runE p s k]'h) = false) := by
  intro d
  induction d with
  | zero =>
    intro k hd hk
    have e := runE_end (p := p) (s := s) (k := k) (by omega)
    exact ⟨fun j h1 h2 hs => by omega, fun h => by omega⟩
  | succ d ih =>
    intro k hd hk
    by_cases h : k < s.size
    · cases hp : p (s[k]'h)
      · have e := runE_no h hp
        refine ⟨fun j h1 h2 hs => by omega, fun h2 => ?_⟩
        rw [← hp]
        congr 2
      · have e := runE_yes h hp
        have hi := ih (k + 1) (by omega) (by omega)
        rw [e]
        refine ⟨fun j h1 h2 hs => ?_, hi.2⟩
        by_cases hj : j = k
        · subst hj
          exact hp
        · exact hi.1 j (by omega) h2 hs
    · have e := runE_end (p := p) (s := s) (k := k) h
      exact ⟨fun j h1 h2 hs => by omega, fun h => by omega⟩

theorem stands_tail {s : ByteArray} {p : Nat} (h : p ≤ s.size) : standsB s p closeB = List.isPrefixOf [93, 93, 62] (tailL s p) := by
  obtain ⟨e, hl⟩ := ptail_all s p h
  have h1 := stands_pre (s.data.toList.take p) (tailL s p) [93, 93, 62]
  rw [hl, ← e] at h1
  exact h1
theorem stands_cut {s : ByteArray} {e : List UInt8} {p q : Nat} (he : EndOk e) (hp : p < q) (hq : q ≤ s.size) (hend : ∀ h : q < s.size, s[q]'h ∈ e) : standsB s p closeB = List.isPrefixOf [93, 93, 62] (tailL (s.extract 0 q) p) := by
  rw [cut_tail]
  cases hc : standsB s p closeB
  · cases h2 : List.isPrefixOf [93, 93, 62] ((tailL s p).take (q - p)) with
    | false => rfl
    | true =>
      rw [stands_tail (by omega)] at hc
      rw [List.isPrefixOf_iff_prefix] at h2
      have h3 := List.isPrefixOf_iff_prefix.2 (h2.trans (List.take_prefix _ _))
      rw [hc] at h3
      cases h3
  · have h4 := stands_close hc
    rw [stands_tail (by omega)] at hc
    have hq3 : p + 3 ≤ q := by
      apply Classical.byContradiction
      intro h
      have hqs : q < s.size := by omega
      have h5 := he.no (hend hqs)
      rw [← get_bang hqs] at h5
      by_cases h6 : q = p + 1
      · rw [h6] at h5
        exact h5.2.2.2.1 h4.2.2.1
      · rw [show q = p + 2 by omega] at h5
        exact h5.2.2.2.2.1 h4.2.2.2
    rw [List.isPrefixOf_iff_prefix] at hc
    have h6 : ([93, 93, 62] : List UInt8) <+: (tailL s p).take (q - p) := by
      obtain ⟨r, hr⟩ := hc
      rw [← hr, List.take_append, List.take_of_length_le (by show 3 ≤ q - p; omega)]
      exact ⟨_, rfl⟩
    exact (List.isPrefixOf_iff_prefix.2 h6).symm
/-- What the program tells of a text up to a byte of some. -/
def textP (s : ByteArray) (k q : Nat) : Option (List UInt8 × Nat) := if Lib.contains (tailL (s.extract 0 q) k) [93, 93, 62] then none else (ptextR (s.extract 0 q) k).map fun r => (r, q)
theorem textP_eq {s e : ByteArray} {k : Nat} (he : EndOk e.data.toList) (hk : k ≤ s.size) : xtextR s e.data.toList k = textP s k (runE (notU e) s k) := by
  have hr := runE_all (p := notU e) (s := s) s.size k (by omega) hk
  have hle := runE_le (p := notU e) (s := s) hk
  generalize runE (notU e) s k = q at *
  have hend : ∀ h : q < s.size, s[q]'h ∈ e.data.toList := by
    intro h
    have h1 := hr.2 h
    unfold notU oneU at h1
    rw [Bool.not_eq_false', List.contains_iff_mem] at h1
    exact h1
  have hno : ∀ j, k ≤ j → ∀ h : j < q, e.data.toList.contains (s[j]'(by omega)) = false := by
    intro j h1 h2
    have h3 := hr.1 j h1 h2 (by omega)
    unfold notU oneU at h3
    rw [Bool.not_eq_true'] at h3
    exact h3
  have hT := text_cut he hle.2 hend (q - k) k (Nat.le_refl _) hle.1 hno
  have hs' := cut_size s q hle.2
  have hlen := tailL_length (s.extract 0 q) k
  rw [hs'] at hlen
  have hd : ∀ j, (tailL (s.extract 0 q) k).drop j = tailL (s.extract 0 q) (k + j) := fun j => tailL_drop _ _ _
  unfold textP Lib.contains
  rcases Lib.index_spec (tailL (s.extract 0 q) k) [93, 93, 62] with ⟨e1, e2⟩ | ⟨i, e1, e2, e3, e4⟩
  · rw [e1, if_neg (by decide)]
    apply hT.2
    intro p h1 h2
    have := e2 (p - k) (by omega)
    unfold Lib.occAt at this
    rw [hd, show k + (p - k) = p by omega] at this
    rw [stands_cut he h2 hle.2 hend, this]
  · rw [e1, if_pos (decide_eq_true (by omega))]
    apply hT.1
    have hroom := Lib.index_room (tailL (s.extract 0 q) k) [93, 93, 62] (by omega)
    rw [e1] at hroom
    simp only [List.length_cons, List.length_nil] at hroom
    refine ⟨k + i, by omega, by omega, ?_⟩
    rw [stands_cut he (by omega) hle.2 hend]
    unfold Lib.occAt at e3
    rw [hd] at e3
    exact e3

end Go.Proofs.YthikgkhnhbaccaaGreatDoor.Sg

namespace Go.Proofs.YthikgkhnhbaccaaGreatDoor.Sg
open Go.ChangeShapes Go.WideShapes Go.ChangeAt Go.RowKit

/-- What the world holds, and how long the library's own number is. -/
def PcX (a : Addr) (w : World) : Prop := PcT a w ∧ MaxLen w
theorem PcX.below {a : Addr} {w w' : World} (h : PcX a w) (hb : Below w.heap.size w w') : PcX a w' := ⟨h.1.below hb, h.2.below hb⟩

/-- A text's sign, as it is or as a reference: its bytes, and the place behind it. -/
def tsO (s : ByteArray) (k : Nat) (h : k < s.size) : Option (ByteArray × Nat) := if s[k]'h = 38 then xrefR s k else if psignB s k then some (s.extract k (k + (getS s k).2), k + (getS s k).2) else none

set_option maxHeartbeats 4000000 in
theorem implTextSign (s : ByteArray) (k : Nat) (a : Addr) (w : World) (hk : k < s.size) (hs : s.size ≤ 1073741824) (hX : PcX a w) :
    Calls Tryz.prog 82 #[.string s, .int .i64 (k : Int)] w fun e w' => e = .returned (prefV a k (tsO s k hk)) ∧ Below w.heap.size w w' := by
  have HX : Hid (PcX a w) := hX
  clear hX
  by_cases h38 : s[k]'hk = 38
  · have g38 : (((s[k]'hk).toNat : Int) == 38) = true := by rw [h38]; rfl
    have Ho : Hid (tsO s k hk = xrefR s k) := if_pos h38
    have HC := refAt_in s k a w hk h38 hs HX.out.1.2 HX.out.2
    clear h38
    generalize xrefR s k = R at *
    go_enter Tryz.func82, Tryz.ntmps82
    go_wp2_with fail
    refine HC.mono ?_
    rintro e w1 ⟨rfl, b1⟩
    cases R with
    | none =>
      rw [show prefV a k none = .tuple #[.string ⟨#[]⟩, .int .i64 k, errV a] from rfl]
      go_wp2_with fail
      go_ret3
      exact ⟨ret_pref0 Ho.out, b1⟩
    | some r =>
      obtain ⟨t, j⟩ := r
      rw [show prefV a k (some (t, j)) = .tuple #[.string t, .int .i64 (j : Int), .nilIface] from rfl]
      go_wp2_with fail
      go_ret3
      exact ⟨ret_pref Ho.out rfl, b1⟩
  · have g38 : (((s[k]'hk).toNat : Int) == 38) = false := by
      rw [beq_eq_false_iff_ne]
      intro h
      exact h38 (UInt8.toNat_inj.1 (show (s[k]'hk).toNat = 38 by omega))
    have Ho : Hid (tsO s k hk = if psignB s k then some (s.extract k (k + (getS s k).2), k + (getS s k).2) else none) := if_neg h38
    have Hp : Hid (psignB s k = (textB ((getS s k).1 : Int) && (decide ((getS s k).1 ≠ 13) && (decide ((getS s k).1 ≠ 60) && asRead s k)))) := rfl
    clear h38
    cases hr : asRead s k
    · have HG := signAt_no s k a w hk (by omega) HX.out.1 hr
      have Hn : Hid (tsO s k hk = none) := by show _ = _; rw [Ho.out, Hp.out, hr]; simp
      clear hr Hp Ho
      go_enter Tryz.func82, Tryz.ntmps82
      go_wp2_with fail
      refine HG.mono ?_
      rintro e w1 ⟨rfl, b1⟩
      have hv1 : w1.cell? ⟨0, 0, none⟩ = some (errV a) := HX.out.1.2.below b1
      clear HG
      go_wp2_with fail
      go_quiet (fail)
      have bf := drew_kd b1 nq
      go_wp2_with fail
      go_ret3
      exact ⟨ret_pref0 Hn.out, bf⟩
    · have HG := signAt_yes s k a w hk (by omega) HX.out.1 hr
      have hm := getS_many s k hk
      rw [hr] at Hp
      clear hr
      have HI := implIsText ((getS s k).1 : Int)
      generalize psignB s k = ps at *
      generalize (getS s k).1 = n at *
      generalize (getS s k).2 = m at *
      cases ht : textB (n : Int)
      · have Hn : Hid (tsO s k hk = none) := by show _ = _; rw [Ho.out, Hp.out, ht]; simp
        rw [ht] at HI
        clear ht Hp Ho
        go_enter Tryz.func82, Tryz.ntmps82
        go_wp2_with fail
        refine HG.mono ?_
        rintro e w1 ⟨rfl, b1⟩
        have hv1 : w1.cell? ⟨0, 0, none⟩ = some (errV a) := HX.out.1.2.below b1
        clear HG
        go_wp2_with fail
        refine (HI _).mono ?_
        rintro e w2 ⟨rfl, rfl⟩
        clear HI
        go_wp2_with fail
        go_quiet (fail)
        have bf := drew_kd b1 nq
        go_wp2_with fail
        go_ret3
        exact ⟨ret_pref0 Hn.out, bf⟩
      · rw [ht] at HI Hp
        clear ht
        by_cases h13 : n = 13
        · have Hn : Hid (tsO s k hk = none) := by show _ = _; rw [Ho.out, Hp.out, h13]; simp
          have g13 : ((n : Int) == 13) = true := by rw [h13]; rfl
          clear h13 Hp Ho
          go_enter Tryz.func82, Tryz.ntmps82
          go_wp2_with fail
          refine HG.mono ?_
          rintro e w1 ⟨rfl, b1⟩
          have hv1 : w1.cell? ⟨0, 0, none⟩ = some (errV a) := HX.out.1.2.below b1
          clear HG
          go_wp2_with fail
          refine (HI _).mono ?_
          rintro e w2 ⟨rfl, rfl⟩
          clear HI
          go_wp2_with fail
          go_quiet (fail)
          have bf := drew_kd b1 nq
          go_wp2_with fail
          go_ret3
          exact ⟨ret_pref0 Hn.out, bf⟩
        · have g13 : ((n : Int) == 13) = false := by rw [beq_eq_false_iff_ne]; omega
          by_cases h60 : n = 60
          · have Hn : Hid (tsO s k hk = none) := by show _ = _; rw [Ho.out, Hp.out, h60]; simp
            have g60 : ((n : Int) == 60) = true := by rw [h60]; rfl
            clear h60 h13 Hp Ho
            go_enter Tryz.func82, Tryz.ntmps82
            go_wp2_with fail
            refine HG.mono ?_
            rintro e w1 ⟨rfl, b1⟩
            have hv1 : w1.cell? ⟨0, 0, none⟩ = some (errV a) := HX.out.1.2.below b1
            clear HG
            go_wp2_with fail
            refine (HI _).mono ?_
            rintro e w2 ⟨rfl, rfl⟩
            clear HI
            go_wp2_with fail
            go_quiet (fail)
            have bf := drew_kd b1 nq
            go_wp2_with fail
            go_ret3
            exact ⟨ret_pref0 Hn.out, bf⟩
          · have g60 : ((n : Int) == 60) = false := by rw [beq_eq_false_iff_ne]; omega
            have Hn : Hid (tsO s k hk = some (s.extract k (k + m), k + m)) := by show _ = _; rw [Ho.out, Hp.out]; simp [h13, h60]
            have q1 : (k : Int) ≤ (k : Int) + (m : Int) := by omega
            have q2 : (k : Int) + (m : Int) ≤ (s.size : Int) := by omega
            have q3 : ((k : Int) + (m : Int)).toNat = k + m := by omega
            clear h60 h13 Hp Ho
            go_enter Tryz.func82, Tryz.ntmps82
            go_wp2_with fail
            refine HG.mono ?_
            rintro e w1 ⟨rfl, b1⟩
            clear HG
            go_wp2_with fail
            refine (HI _).mono ?_
            rintro e w2 ⟨rfl, rfl⟩
            clear HI
            go_wp2_with fail
            go_ret3
            exact ⟨ret_pref Hn.out (by rfl), b1⟩

end Go.Proofs.YthikgkhnhbaccaaGreatDoor.Sg

namespace Go.Proofs.YthikgkhnhbaccaaGreatDoor.Sg
open Go.ChangeShapes Go.WideShapes Go.ChangeAt Go.RowKit

theorem ownsF_below {w w' : World} {base : Nat} {e : TypeId} {size : Nat} {v : Value} {n : Nat} {xs : List Value} (h : w.ownsRowF base e size v n xs) (hb : Below w.heap.size w w') : w'.ownsRowF base e size v n xs := by
  obtain ⟨h1, h2⟩ := h
  refine ⟨h1, ?_⟩
  rcases h2 with h2 | ⟨g, cap, cur, fz, h2, h3, h4, h5⟩
  · exact .inl h2
  · have hg : g < w.heap.size := (Array.getElem?_eq_some_iff.1 h4).1
    exact .inr ⟨g, cap, cur, fz, h2, h3, (hb.block g hg).trans h4, h5⟩
theorem at_below {T e : TypeId} {B b : Nat} {p : Value} {bs : List Value} {w w' : World} (h : Lib.BuilderAtF T e B b p bs w) (hb : Below w.heap.size w w') : Lib.BuilderAtF T e B b p bs w' := by
  obtain ⟨hB, v, hk, ho, hn⟩ := h
  exact ⟨hB, v, (hb.block b (Array.getElem?_eq_some_iff.1 hk).1).trans hk, ownsF_below ho hb, hn⟩
theorem isb_below {T e : TypeId} {B b : Nat} {bs : List Value} {w w' : World} (h : Lib.IsBuilderF T e B b bs w) (hb : Below w.heap.size w w') : Lib.IsBuilderF T e B b bs w' := by
  rcases h with h | h
  · exact .inl (at_below h hb)
  · exact .inr (at_below h hb)

end Go.Proofs.YthikgkhnhbaccaaGreatDoor.Sg
