/- A strict text up to a byte of some is what is read of it once it is cut there. Plain. No program in it. Contracts of the model's loops over bytes. Contracts of the program's isOne, past and upTo. What the program reads of a text up to a byte of some, in the model's words. Plain. Contracts of Numbered, of the program and of the model: both answer the same plain number. What a reference tells, in plain lists of bytes. Contracts of what a digit counts, and of the smaller of two numbers. Contract of the model's references by number. -/
import Derived.Test.YtbmmghkieolpkaaGreatDoorPcText
import Derived.Test.YtbmmghkieolpkaaGreatDoorMR2307
import Derived.Test.YtbmmghkieolpkaaGreatDoorMR2306
import Derived.Test.YtbmmghkieolpkaaGreatDoorMR2304
import Derived.Test.YtbmmghkieolpkaaGreatDoorMR2312
import Derived.Lib.LaidTab
import Derived.Deep.Cut
import Derived.Deep.CutRange
namespace Go.Proofs.YtbmmghkieolpkaaGreatDoor.Sg

theorem ptail_all (s : ByteArray) (k : Nat) (hk : k ≤ s.size) : s = strB (s.data.toList.take k ++ tailL s k) ∧ (s.data.toList.take k).length = k := by
  have hl : s.data.toList.length = s.size := Array.length_toList
  refine ⟨?_, by rw [List.length_take]; omega⟩
  unfold tailL strB
  rw [List.take_append_drop]
/-- What is written as it is read is some sign's bytes. -/
theorem read_put {s : ByteArray} {k : Nat} (hk : k < s.size) (hr : asRead s k = true) : ∃ (z : Int) (post : List UInt8), okB z = true ∧ tailL s k = (putS z).data.toList ++ post ∧ getS s k = (z.toNat, (putS z).size) := by
  have hm := getS_many s k hk
  unfold asRead at hr
  rw [ByteArray.toList_eq, ByteArray.toList_eq, beq_iff_eq, Lib.extract_data] at hr
  have hlen := tailL_length s k
  refine ⟨fix ((getS s k).1 : Int), (tailL s k).drop (getS s k).2, fix_ok _, ?_, ?_⟩
  · rw [putS_fix, hr]
    show tailL s k = (tailL s k).take (k + (getS s k).2 - k) ++ _
    rw [show k + (getS s k).2 - k = (getS s k).2 by omega, List.take_append_drop]
  · have ht : tailL s k = (putS (fix ((getS s k).1 : Int))).data.toList ++ (tailL s k).drop (getS s k).2 := by
      rw [putS_fix, hr]
      show tailL s k = (tailL s k).take (k + (getS s k).2 - k) ++ _
      rw [show k + (getS s k).2 - k = (getS s k).2 by omega, List.take_append_drop]
    obtain ⟨e, hl⟩ := ptail_all s k (by omega)
    have hg := getS_put (fix ((getS s k).1 : Int)) (fix_ok _) (s.data.toList.take k) ((tailL s k).drop (getS s k).2)
    rw [← ht, hl] at hg
    have e2 : (⟨(s.data.toList.take k ++ tailL s k).toArray⟩ : ByteArray) = s := e.symm
    rw [e2] at hg
    exact hg
theorem put_asRead {s : ByteArray} {k : Nat} {z : Int} {post : List UInt8} (hk : k < s.size) (hz : okB z = true) (ht : tailL s k = (putS z).data.toList ++ post) : asRead s k = true ∧ getS s k = (z.toNat, (putS z).size) := by
  obtain ⟨e, hl⟩ := ptail_all s k (by omega)
  have hg := getS_put z hz (s.data.toList.take k) post
  rw [← ht, hl] at hg
  have e2 : (⟨(s.data.toList.take k ++ tailL s k).toArray⟩ : ByteArray) = s := e.symm
  rw [e2] at hg
  refine ⟨?_, hg⟩
  have hzn : ((z.toNat : Nat) : Int) = z := by have := okB_of hz; omega
  have hlen : (putS z).data.toList.length = (putS z).size := Array.length_toList
  unfold asRead
  rw [hg, ByteArray.toList_eq, ByteArray.toList_eq, beq_iff_eq, Lib.extract_data]
  show (putS ((z.toNat : Nat) : Int)).data.toList = (tailL s k).take (k + (putS z).size - k)
  rw [hzn, ht, show k + (putS z).size - k = (putS z).data.toList.length by omega, List.take_left]
/-- Behind a sign's first byte there are none below 128. -/
theorem read_high {s : ByteArray} {k j : Nat} (hk : k < s.size) (hr : asRead s k = true) (h1 : k < j) (h2 : j < k + (getS s k).2) : 128 ≤ (s.get! j).toNat := by
  obtain ⟨z, post, hz, ht, hg⟩ := read_put hk hr
  have hm := getS_many s k hk
  rw [hg] at h2 hm
  have hlen : (putS z).data.toList.length = (putS z).size := Array.length_toList
  have h0 := (okB_of hz).1
  have h128 : 128 ≤ z := by
    apply Classical.byContradiction
    intro h
    rw [putS_one h0 (by omega)] at hlen
    simp at hlen
    simp only at h2
    omega
  have hget := tail_of_bN (s := s) (k := k) (j := j - k) (by simp only at hm h2; omega)
  rw [show k + (j - k) = j by omega, ht, List.getElem?_append_left (by simp only at h2; omega)] at hget
  exact putS_high hz h128 _ (List.mem_of_getElem? hget)
theorem get_bang {s : ByteArray} {k : Nat} (h : k < s.size) : s.get! k = s[k]'h := by
  simp [ByteArray.get!, ByteArray.getElem_eq_getElem_data, ByteArray.size_data, h]
/-- A sign ahead of the first byte of an end. -/
theorem sign_in {s : ByteArray} {e : List UInt8} {k q : Nat} (he : EndOk e) (hk : k < q) (hq : q ≤ s.size) (hend : ∀ h : q < s.size, s[q]'h ∈ e) (hr : asRead s k = true) : k + (getS s k).2 ≤ q := by
  apply Classical.byContradiction
  intro h
  have hm := getS_many s k (by omega)
  have hqs : q < s.size := by omega
  have h1 := read_high (j := q) (by omega) hr hk (by omega)
  have h2 := he.no (hend hqs)
  rw [get_bang hqs] at h1
  omega
theorem sign_cut {s : ByteArray} {e : List UInt8} {k q : Nat} (he : EndOk e) (hk : k < q) (hq : q ≤ s.size) (hend : ∀ h : q < s.size, s[q]'h ∈ e) : asRead (s.extract 0 q) k = asRead s k ∧ (asRead s k = true → getS (s.extract 0 q) k = getS s k) := by
  have hs' := cut_size s q hq
  have hct := cut_tail s q k
  cases hr : asRead s k
  · refine ⟨?_, fun h => by cases h⟩
    cases hr' : asRead (s.extract 0 q) k with
    | false => rfl
    | true =>
      exfalso
      obtain ⟨z, post, hz, ht, _⟩ := read_put (by rw [hs']; exact hk) hr'
      rw [hct] at ht
      have h2 : tailL s k = (putS z).data.toList ++ (post ++ (tailL s k).drop (q - k)) := by
        rw [← List.append_assoc, ← ht, List.take_append_drop]
      have := (put_asRead (by omega) hz h2).1
      rw [hr] at this
      cases this
  · have hin := sign_in he hk hq hend hr
    obtain ⟨z, post, hz, ht, hg⟩ := read_put (by omega) hr
    have hlen : (putS z).data.toList.length = (putS z).size := Array.length_toList
    rw [hg] at hin
    have h2 : tailL (s.extract 0 q) k = (putS z).data.toList ++ post.take (q - k - (putS z).size) := by
      rw [hct, ht, List.take_append, List.take_of_length_le (by simp only at hin; omega), hlen]
    have h3 := put_asRead (by rw [hs']; exact hk) hz h2
    exact ⟨h3.1, fun _ => by rw [h3.2, hg]⟩

theorem stands_close {s : ByteArray} {p : Nat} (h : standsB s p closeB = true) : p + 3 ≤ s.size ∧ s.get! p = 93 ∧ s.get! (p + 1) = 93 ∧ s.get! (p + 2) = 62 := by
  have hle := stands_le h
  have h3 : p + 3 ≤ s.size := hle
  obtain ⟨e, hl⟩ := ptail_all s p (by omega)
  rw [e, show closeB = strB [93, 93, 62] from rfl] at h
  have h4 := h
  conv at h4 => lhs; arg 2; rw [← hl]
  rw [stands_pre, List.isPrefixOf_iff_prefix] at h4
  obtain ⟨r, hr⟩ := h4
  have g : ∀ j, j < 3 → (tailL s p)[j]? = some (s.get! (p + j)) := fun j hj => tail_of_bN (by omega)
  have g0 := g 0 (by omega)
  have g1 := g 1 (by omega)
  have g2 := g 2 (by omega)
  rw [← hr] at g0 g1 g2
  refine ⟨h3, ?_, ?_, ?_⟩
  · exact (Option.some.inj g0).symm
  · exact (Option.some.inj g1).symm
  · exact (Option.some.inj g2).symm
theorem xsign_split (s : ByteArray) (k : Nat) : xsignB s k = (psignB s k && !standsB s k closeB) := by
  unfold xsignB psignB
  cases textB ((getS s k).1 : Int) <;> cases decide ((getS s k).1 ≠ 13) <;> cases decide ((getS s k).1 ≠ 60) <;> cases asRead s k <;> rfl
theorem cut_bytes {s : ByteArray} {q a b : Nat} (hb : b ≤ q) : ((s.extract 0 q).extract a b).data.toList = (s.extract a b).data.toList := by
  rw [Lib.extract_data, Lib.extract_data, Lib.extract_data, List.drop_zero, Nat.sub_zero, List.drop_take, List.take_take, Nat.min_eq_left (by omega)]

theorem text_cut {s : ByteArray} {e : List UInt8} {q : Nat} (he : EndOk e) (hq : q ≤ s.size) (hend : ∀ h : q < s.size, s[q]'h ∈ e) : ∀ (d k : Nat), q - k ≤ d → k ≤ q → (∀ j, k ≤ j → ∀ h : j < q, e.contains (s[j]'(by omega)) = false) →
    ((∃ p, k ≤ p ∧ p < q ∧ standsB s p closeB = true) → xtextR s e k = none) ∧
    ((∀ p, k ≤ p → p < q → standsB s p closeB = false) → xtextR s e k = (ptextR (s.extract 0 q) k).map fun r => (r, q)) := by
  have hs' := cut_size s q hq
  have stop : xtextR s e q = (ptextR (s.extract 0 q) q).map fun r => (r, q) := by
    rw [ptextR_end (by rw [hs']; omega)]
    by_cases h : q < s.size
    · rw [xtextR_stop h (List.contains_iff_mem.2 (hend h))]
      rfl
    · rw [xtextR_end h]
      rfl
  intro d
  induction d with
  | zero =>
    intro k hd hk hno
    obtain rfl : k = q := by omega
    refine ⟨?_, fun _ => stop⟩
    rintro ⟨p, h1, h2, _⟩
    omega
  | succ d ih =>
    intro k hd hk hno
    by_cases hkq : k = q
    · subst hkq
      refine ⟨?_, fun _ => stop⟩
      rintro ⟨p, h1, h2, _⟩
      omega
    · have hlt : k < q := by omega
      have hks : k < s.size := by omega
      have hnk := hno k (Nat.le_refl _) hlt
      have hkg := cut_get (s := s) hq hlt
      have hk' : k < (s.extract 0 q).size := by rw [hs']; exact hlt
      by_cases h38 : s[k]'hks = 38
      · have h38' : (s.extract 0 q)[k]'hk' = 38 := hkg.trans h38
        have hrc := ref_cut he hlt hq hend h38
        cases hx : xrefR s k with
        | none =>
          rw [hx] at hrc
          exact ⟨fun _ => xtextR_none hks hnk h38 hx, fun _ => by rw [xtextR_none hks hnk h38 hx, ptextR_none hk' h38' hrc]; rfl⟩
        | some tj =>
          obtain ⟨t, j⟩ := tj
          rw [hx] at hrc
          have hle := xrefR_le hrc
          rw [hs'] at hle
          have hi := ih j (by omega) (by omega) fun p h1 h2 => hno p (by omega) h2
          refine ⟨?_, ?_⟩
          · rintro ⟨p, h1, h2, h3⟩
            have h4 := stands_close h3
            have hpj : j ≤ p := by
              apply Classical.byContradiction
              intro h
              have hpk : p ≠ k := by
                rintro rfl
                rw [get_bang hks, h38] at h4
                exact absurd h4.2.1 (by decide)
              rcases xref_inner hx hks h38 (p := p) (by omega) (by omega) with h5 | h5
              · rw [h4.2.1] at h5
                exact absurd h5 (by decide)
              · rw [h4.2.1] at h5
                exact absurd h5 (by decide)
            rw [xtextR_ref hks hnk h38 hx, hi.1 ⟨p, hpj, h2, h3⟩]
            rfl
          · intro hcl
            rw [xtextR_ref hks hnk h38 hx, ptextR_ref hk' h38' hrc, hi.2 fun p h1 h2 => hcl p (by omega) h2, Option.map_map, Option.map_map]
            rfl
      · have h38' : ¬ (s.extract 0 q)[k]'hk' = 38 := fun h => h38 (hkg.symm.trans h)
        have hsc := sign_cut he hlt hq hend
        have hps : psignB (s.extract 0 q) k = psignB s k := by
          unfold psignB
          rw [hsc.1]
          cases hr : asRead s k with
          | false => simp
          | true => rw [hsc.2 hr]
        refine ⟨?_, ?_⟩
        · rintro ⟨p, h1, h2, h3⟩
          have h4 := stands_close h3
          cases hx : xsignB s k with
          | false => exact xtextR_bad hks hnk h38 hx
          | true =>
            have hx2 := hx
            rw [xsign_split, Bool.and_eq_true] at hx2
            have hr : asRead s k = true := by
              have := hx2.1
              unfold psignB at this
              simp only [Bool.and_eq_true] at this
              exact this.2.2.2
            have hin := sign_in he hlt hq hend hr
            have hm := getS_many s k hks
            have hpj : k + (getS s k).2 ≤ p := by
              apply Classical.byContradiction
              intro h
              have hpk : p ≠ k := by
                rintro rfl
                rw [h3] at hx2
                exact absurd hx2.2 (by decide)
              have := read_high (j := p) hks hr (by omega) (by omega)
              rw [h4.2.1] at this
              exact absurd this (by decide)
            have hi := ih (k + (getS s k).2) (by omega) (by omega) fun p h1 h2 => hno p (by omega) h2
            rw [xtextR_sign hks hnk h38 hx, hi.1 ⟨p, hpj, h2, h3⟩]
            rfl
        · intro hcl
          have hxs : xsignB s k = psignB s k := by rw [xsign_split, hcl k (Nat.le_refl _) hlt]; simp
          cases hx : psignB s k with
          | false =>
            rw [xtextR_bad hks hnk h38 (hxs.trans hx), ptextR_bad hk' h38' (hps.trans hx)]
            rfl
          | true =>
            have hr : asRead s k = true := by
              have := hx
              unfold psignB at this
              simp only [Bool.and_eq_true] at this
              exact this.2.2.2
            have hin := sign_in he hlt hq hend hr
            have hm := getS_many s k hks
            have hi := ih (k + (getS s k).2) (by omega) (by omega) fun p h1 h2 => hno p (by omega) h2
            rw [xtextR_sign hks hnk h38 (hxs.trans hx), ptextR_sign hk' h38' (hps.trans hx), hi.2 fun p h1 h2 => hcl p (by omega) h2, hsc.2 hr, cut_bytes hin, Option.map_map, Option.map_map]
            rfl

end Go.Proofs.YtbmmghkieolpkaaGreatDoor.Sg

namespace Go.Proofs.YtbmmghkieolpkaaGreatDoor.Sg
open Go.ChangeShapes Go.WideShapes Go.ChangeAt Go.RowKit

theorem ret_i64' {a b : Int} (h : a = b) : Ending.returned (.int .i64 a) = .returned (.int .i64 b) := by rw [h]






set_option maxHeartbeats 2000000 in
theorem specFind (s : ByteArray) (i : Nat) (b : UInt8) (w : World) (hi : i ≤ s.size) (hs : s.size ≤ 17592186044416) :
    Calls Tryz.prog 81 #[.string s, .int .i64 (i : Int), .int .u8 (b.toNat : Int)] w fun e w' => e = .returned (.int .i64 (findV (findE s i b))) ∧ w' = w := by
  go_enter Tryz.func81, Tryz.ntmps81
  go_wp2
  go_loopw [1] (fun v wr => ∃ k : Nat, k ≤ s.size ∧ v = .int .i64 (k : Int) ∧ Hid (findE s i b = findE s k b) ∧ wr = w) (fun v _ => s.size - (intOf v).toNat)
  case atStart => exact ⟨i, hi, rfl, rfl, rfl⟩
  case round =>
    obtain ⟨k, hk, rfl, Hsp, rfl⟩ := hrel
    by_cases hlt : k < s.size
    · by_cases he : s[k]'hlt = b
      · have Hn : Hid (findE s i b = some k) := Hsp.out.trans (findE_yes hlt he)
        have g1 : (((s[k]'hlt).toNat : Int) == (b.toNat : Int)) = true := by simp [he]
        clear he Hsp
        go_wp2
        go_ret
        exact ⟨ret_i64' (by rw [Hn.out]; rfl), rfl⟩
      · have Hn : Hid (findE s i b = findE s (k + 1) b) := Hsp.out.trans (findE_no hlt he)
        have g1 : (((s[k]'hlt).toNat : Int) == (b.toNat : Int)) = false := by
          simp only [beq_eq_false_iff_ne]
          intro h
          exact he (UInt8.toNat_inj.1 (by omega))
        have g2 : ((s[k]'hlt).toNat == b.toNat) = false := by
          simp only [beq_eq_false_iff_ne]
          exact fun h => he (UInt8.toNat_inj.1 h)
        clear he Hsp
        go_wp2
        go_roundw
        case rel => exact ⟨k + 1, by omega, by go_num, Hn, by first | trivial | rfl⟩
        case measure => simp [intOf]; omega
    · have Hn : Hid (findE s i b = none) := Hsp.out.trans (findE_end hlt)
      have g0 : decide ((k : Int) < (s.size : Int)) = false := decide_eq_false (by omega)
      clear Hsp
      go_wp2
      go_ret
      exact ⟨ret_i64' (by rw [Hn.out]; rfl), rfl⟩

end Go.Proofs.YtbmmghkieolpkaaGreatDoor.Sg

namespace Go.Proofs.YtbmmghkieolpkaaGreatDoor.Sg
open Go.ChangeShapes Go.WideShapes Go.ChangeAt Go.RowKit

/-- A byte is one of those. -/
def oneU (t : ByteArray) (b : UInt8) : Bool := t.data.toList.contains b

theorem indexByte_ge (l : List UInt8) (b : UInt8) : (0 : Int) ≤ Lib.indexByte l b ∨ Lib.indexByte l b = -1 := by
  induction l with
  | nil => exact .inr rfl
  | cons x l ih =>
    unfold Lib.indexByte
    by_cases h : (x == b) = true
    · rw [if_pos h]; exact .inl (Int.le_refl _)
    · rw [if_neg h]
      by_cases h2 : (Lib.indexByte l b == -1) = true
      · rw [if_pos h2]; exact .inr rfl
      · rw [if_neg h2]
        rcases ih with h3 | h3
        · exact .inl (by omega)
        · exact absurd (beq_iff_eq.2 h3) h2
theorem indexByte_one (l : List UInt8) (b : UInt8) : decide ((0 : Int) ≤ Lib.indexByte l b) = l.contains b := by
  induction l with
  | nil => rfl
  | cons x l ih =>
    unfold Lib.indexByte
    rw [List.contains_cons]
    by_cases h : (x == b) = true
    · rw [if_pos h]
      have e : x = b := beq_iff_eq.1 h
      subst e
      simp
    · rw [if_neg h]
      have e : (b == x) = false := by
        apply Bool.eq_false_iff.2
        intro h2
        exact h (beq_iff_eq.2 (beq_iff_eq.1 h2).symm)
      rw [e, ← ih, Bool.false_or]
      by_cases h2 : (Lib.indexByte l b == -1) = true
      · rw [if_pos h2]
        have e2 : Lib.indexByte l b = -1 := beq_iff_eq.1 h2
        rw [e2]
      · rw [if_neg h2]
        have e2 : Lib.indexByte l b ≠ -1 := fun e3 => h2 (beq_iff_eq.2 e3)
        have := indexByte_ge l b
        rw [decide_eq_decide]
        omega

set_option maxHeartbeats 1000000 in
theorem implIsOne (b : UInt8) (t : ByteArray) (w : World) :
    Calls Tryz.prog 126 #[.int .u8 (b.toNat : Int), .string t] w fun e w' => e = .returned (.bool (oneU t b)) ∧ w' = w := by
  have Hi := Tryz.strings_IndexByte t (b.toNat : Int)
  rw [show ((b.toNat : Int)).toNat.toUInt8 = b by simp] at Hi
  have Hn : Hid (decide ((0 : Int) ≤ Lib.indexByte t.data.toList b) = oneU t b) := indexByte_one _ _
  generalize Lib.indexByte t.data.toList b = z at *
  go_enter Tryz.func126, Tryz.ntmps126
  go_wp2_with fail
  refine (Hi _).mono ?_
  rintro e w1 ⟨rfl, rfl⟩
  go_wp2
  go_ret
  exact ⟨ret_bool Hn.out, rfl⟩

/-- A byte is none of those. -/
def notU (t : ByteArray) (b : UInt8) : Bool := !oneU t b

set_option maxHeartbeats 1000000 in
theorem implUpTo (s : ByteArray) (k0 : Nat) (t : ByteArray) (w : World) (hs : s.size ≤ 17592186044416) :
    Calls Tryz.prog 106 #[.string s, .int .i64 (k0 : Int), .string t] w fun e w' => e = .returned (.int .i64 (runE (notU t) s k0 : Int)) ∧ w' = w := by
  go_enter Tryz.func106, Tryz.ntmps106
  go_wp2
  go_loopw [1] (fun v wr => ∃ k : Nat, v = .int .i64 (k : Int) ∧ Hid (runE (notU t) s k0 = runE (notU t) s k) ∧ wr = w) (fun v _ => s.size - (intOf v).toNat)
  case atStart => exact ⟨k0, rfl, rfl, rfl⟩
  case round =>
    obtain ⟨k, rfl, Hsp, rfl⟩ := hrel
    by_cases hlt : k < s.size
    · have Hv := implIsOne (s[k]'hlt) t
      cases hp : oneU t (s[k]'hlt)
      · have Hn : Hid (runE (notU t) s k0 = runE (notU t) s (k + 1)) := Hsp.out.trans (runE_yes hlt (by unfold notU; rw [hp]; rfl))
        rw [hp] at Hv
        clear Hsp hp
        go_wp2_with fail
        refine (Hv _).mono ?_
        rintro e w1 ⟨rfl, rfl⟩
        go_wp2
        go_roundw
        case rel => exact ⟨k + 1, by go_num, Hn, by first | trivial | rfl⟩
        case measure => simp [intOf]; omega
      · have Hn : Hid (runE (notU t) s k0 = k) := Hsp.out.trans (runE_no hlt (by unfold notU; rw [hp]; rfl))
        rw [hp] at Hv
        clear Hsp hp
        go_wp2_with fail
        refine (Hv _).mono ?_
        rintro e w1 ⟨rfl, rfl⟩
        go_wp2
        go_ret
        exact ⟨ret_i64' (by rw [Hn.out]), rfl⟩
    · have Hn : Hid (runE (notU t) s k0 = k) := Hsp.out.trans (runE_end hlt)
      have g0 : decide ((k : Int) < (s.size : Int)) = false := decide_eq_false (by omega)
      clear Hsp
      go_wp2
      go_ret
      exact ⟨ret_i64' (by rw [Hn.out]), rfl⟩

end Go.Proofs.YtbmmghkieolpkaaGreatDoor.Sg

namespace Go.Proofs.YtbmmghkieolpkaaGreatDoor.Sg

theorem runE_all {p : UInt8 → Bool} {s : ByteArray} : ∀ (d k : Nat), s.size - k ≤ d → k ≤ s.size → (∀ j, k ≤ j → j < runE p s k → ∀ hs : j < s.size, p (s[j]'hs) = true) ∧ (∀ h : runE p s k < s.size, p (s[runE p s k]'h) = false) := by
  intro d
  induction d with
  | zero =>
    intro k hd hk
    have e := runE_end (p := p) (s := s) (k := k) (by omega)
    exact ⟨fun j h1 h2 hs => by omega, fun h => by omega⟩
  | succ d ih =>
    intro k hd hk
    by_cases h : k < s.size
    · cases hp : p (s[k]'h)
      · have e := runE_no h hp
        refine ⟨fun j h1 h2 hs => by omega, fun h2 => ?_⟩
        rw [← hp]
        congr 2
      · have e := runE_yes h hp
        have hi := ih (k + 1) (by omega) (by omega)
        rw [e]
        refine ⟨fun j h1 h2 hs => ?_, hi.2⟩
        by_cases hj : j = k
        · subst hj
          exact hp
        · exact hi.1 j (by omega) h2 hs
    · have e := runE_end (p := p) (s := s) (k := k) h
      exact ⟨fun j h1 h2 hs => by omega, fun h => by omega⟩

theorem stands_tail {s : ByteArray} {p : Nat} (h : p ≤ s.size) : standsB s p closeB = List.isPrefixOf [93, 93, 62] (tailL s p) := by
  obtain ⟨e, hl⟩ := ptail_all s p h
  have h1 := stands_pre (s.data.toList.take p) (tailL s p) [93, 93, 62]
  rw [hl, ← e] at h1
  exact h1
theorem stands_cut {s : ByteArray} {e : List UInt8} {p q : Nat} (he : EndOk e) (hp : p < q) (hq : q ≤ s.size) (hend : ∀ h : q < s.size, s[q]'h ∈ e) : standsB s p closeB = List.isPrefixOf [93, 93, 62] (tailL (s.extract 0 q) p) := by
  rw [cut_tail]
  cases hc : standsB s p closeB
  · cases h2 : List.isPrefixOf [93, 93, 62] ((tailL s p).take (q - p)) with
    | false => rfl
    | true =>
      rw [stands_tail (by omega)] at hc
      rw [List.isPrefixOf_iff_prefix] at h2
      have h3 := List.isPrefixOf_iff_prefix.2 (h2.trans (List.take_prefix _ _))
      rw [hc] at h3
      cases h3
  · have h4 := stands_close hc
    rw [stands_tail (by omega)] at hc
    have hq3 : p + 3 ≤ q := by
      apply Classical.byContradiction
      intro h
      have hqs : q < s.size := by omega
      have h5 := he.no (hend hqs)
      rw [← get_bang hqs] at h5
      by_cases h6 : q = p + 1
      · rw [h6] at h5
        exact h5.2.2.2.1 h4.2.2.1
      · rw [show q = p + 2 by omega] at h5
        exact h5.2.2.2.2.1 h4.2.2.2
    rw [List.isPrefixOf_iff_prefix] at hc
    have h6 : ([93, 93, 62] : List UInt8) <+: (tailL s p).take (q - p) := by
      obtain ⟨r, hr⟩ := hc
      rw [← hr, List.take_append, List.take_of_length_le (by show 3 ≤ q - p; omega)]
      exact ⟨_, rfl⟩
    exact (List.isPrefixOf_iff_prefix.2 h6).symm
/-- What the program tells of a text up to a byte of some. -/
def textP (s : ByteArray) (k q : Nat) : Option (List UInt8 × Nat) := if Lib.contains (tailL (s.extract 0 q) k) [93, 93, 62] then none else (ptextR (s.extract 0 q) k).map fun r => (r, q)
theorem textP_eq {s e : ByteArray} {k : Nat} (he : EndOk e.data.toList) (hk : k ≤ s.size) : xtextR s e.data.toList k = textP s k (runE (notU e) s k) := by
  have hr := runE_all (p := notU e) (s := s) s.size k (by omega) hk
  have hle := runE_le (p := notU e) (s := s) hk
  generalize runE (notU e) s k = q at *
  have hend : ∀ h : q < s.size, s[q]'h ∈ e.data.toList := by
    intro h
    have h1 := hr.2 h
    unfold notU oneU at h1
    rw [Bool.not_eq_false', List.contains_iff_mem] at h1
    exact h1
  have hno : ∀ j, k ≤ j → ∀ h : j < q, e.data.toList.contains (s[j]'(by omega)) = false := by
    intro j h1 h2
    have h3 := hr.1 j h1 h2 (by omega)
    unfold notU oneU at h3
    rw [Bool.not_eq_true'] at h3
    exact h3
  have hT := text_cut he hle.2 hend (q - k) k (Nat.le_refl _) hle.1 hno
  have hs' := cut_size s q hle.2
  have hlen := tailL_length (s.extract 0 q) k
  rw [hs'] at hlen
  have hd : ∀ j, (tailL (s.extract 0 q) k).drop j = tailL (s.extract 0 q) (k + j) := fun j => tailL_drop _ _ _
  unfold textP Lib.contains
  rcases Lib.index_spec (tailL (s.extract 0 q) k) [93, 93, 62] with ⟨e1, e2⟩ | ⟨i, e1, e2, e3, e4⟩
  · rw [e1, if_neg (by decide)]
    apply hT.2
    intro p h1 h2
    have := e2 (p - k) (by omega)
    unfold Lib.occAt at this
    rw [hd, show k + (p - k) = p by omega] at this
    rw [stands_cut he h2 hle.2 hend, this]
  · rw [e1, if_pos (decide_eq_true (by omega))]
    apply hT.1
    have hroom := Lib.index_room (tailL (s.extract 0 q) k) [93, 93, 62] (by omega)
    rw [e1] at hroom
    simp only [List.length_cons, List.length_nil] at hroom
    refine ⟨k + i, by omega, by omega, ?_⟩
    rw [stands_cut he (by omega) hle.2 hend]
    unfold Lib.occAt at e3
    rw [hd] at e3
    exact e3

end Go.Proofs.YtbmmghkieolpkaaGreatDoor.Sg

namespace Go.Proofs.YtbmmghkieolpkaaGreatDoor.Sg
open Go.ChangeShapes Go.WideShapes Go.ChangeAt Go.RowKit

/-- What the numbers from 128 up to 159 stand for. -/
def midTab : List Int := [8364, 129, 8218, 402, 8222, 8230, 8224, 8225, 710, 8240, 352, 8249, 338, 141, 381, 143, 144, 8216, 8217, 8220, 8221, 8226, 8211, 8212, 732, 8482, 353, 8250, 339, 157, 382, 376]

/-- The sign that a number tells. -/
def numB (n : Int) : Int := if n = 0 ∨ okB n = false then 65533 else if 128 ≤ n ∧ n ≤ 159 then midTab.getD (n - 128).toNat 0 else n

theorem numB_bad {n : Int} (h : n = 0 ∨ okB n = false) : numB n = 65533 := if_pos h
theorem numB_mid {n : Int} (h : n ≠ 0) (h1 : okB n = true) (h2 : 128 ≤ n ∧ n ≤ 159) : numB n = midTab.getD (n - 128).toNat 0 := by
  unfold numB
  rw [if_neg (by simp [h, h1]), if_pos h2]
theorem numB_self {n : Int} (h : n ≠ 0) (h1 : okB n = true) (h2 : ¬ (128 ≤ n ∧ n ≤ 159)) : numB n = n := by
  unfold numB
  rw [if_neg (by simp [h, h1]), if_neg h2]

theorem ret_i64 {a b : Int} (h : a = b) : Ending.returned (.int .i64 a) = .returned (.int .i64 b) := by rw [h]

theorem mid_cell (w : World) (C : Array Value) (t : TypeId) (hC : C = (midTab.map (Value.int .i64)).toArray) (k : Nat) (hk : k < 32) :
    (w.alloc (.cells C t)).cell? ⟨w.heap.size, k, none⟩ = some (.int .i64 (midTab.getD k 0)) := by
  subst hC
  rw [World.cell?_alloc_new, List.getElem?_toArray, List.getElem?_map]
  have hl : k < midTab.length := hk
  simp [List.getD, hl]



end Go.Proofs.YtbmmghkieolpkaaGreatDoor.Sg

namespace Go.Proofs.YtbmmghkieolpkaaGreatDoor.Sg

def baseG (l : List UInt8) : Nat := if hexG l then 16 else 10
def headG (l : List UInt8) : Nat := if hexG l then 2 else 1

/-- A reference by number, of what stands behind the byte 38. -/
def numR (l : List UInt8) : Option (Int × Nat) :=
  if l.head? = some 35 then
    if (numG (baseG l) 0 0 (l.drop (headG l))).2 = 0 then none
    else some (numB ((numG (baseG l) 0 0 (l.drop (headG l))).1 : Int), endG l (headG l + (numG (baseG l) 0 0 (l.drop (headG l))).2))
  else none

/-- A reference by name. -/
def nameR (value : Bool) (l : List UInt8) : Option (Int × Nat) :=
  if longL l = [] then none else if value = true ∧ barsB (l.drop (longL l).length) = true then none else some (signG nameT (longL l), endG l (longL l).length)

/-- A reference: its sign, and how many bytes it takes behind the byte 38. -/
def refR (value : Bool) (l : List UInt8) : Option (Int × Nat) := if l.head? = some 35 then numR l else nameR value l

theorem nameR_hash (value : Bool) (l : List UInt8) (h : l.head? = some 35) : nameR value l = none := by
  cases l with
  | nil => cases h
  | cons b l =>
    obtain rfl : b = 35 := by simpa using h
    unfold nameR
    rw [if_pos (longL_hash l)]

theorem numR_no (l : List UInt8) (h : l.head? ≠ some 35) : numR l = none := by unfold numR; rw [if_neg h]

/-- The number first, the name where it is none. -/
theorem refR_or (value : Bool) (l : List UInt8) : refR value l = (numR l).or (nameR value l) := by
  unfold refR
  by_cases h : l.head? = some 35
  · rw [if_pos h, nameR_hash value l h]
    exact (Option.or_none).symm
  · rw [if_neg h, numR_no l h]
    exact (Option.none_or).symm

theorem endG_le (l : List UInt8) (m : Nat) (h : m ≤ l.length) : m ≤ endG l m ∧ endG l m ≤ l.length := by
  unfold endG
  split
  · rename_i he
    refine ⟨Nat.le_succ _, ?_⟩
    apply Nat.succ_le_of_lt
    apply Classical.byContradiction
    intro hc
    rw [List.drop_eq_nil_of_le (by omega)] at he
    cases he
  · exact ⟨Nat.le_refl _, h⟩

theorem hexG_len {l : List UInt8} (h : hexG l = true) : 2 ≤ l.length := by
  match l, h with
  | [], h => cases h
  | [_], h => cases h
  | _ :: _ :: _, _ => simp

theorem headG_le (l : List UInt8) (h : l ≠ []) : 1 ≤ headG l ∧ headG l ≤ l.length := by
  unfold headG
  split
  · rename_i hx
    have := hexG_len hx
    omega
  · exact ⟨Nat.le_refl _, by cases l with | nil => exact absurd rfl h | cons => simp⟩

theorem numR_le {l : List UInt8} {z : Int} {m : Nat} (h : numR l = some (z, m)) : 1 ≤ m ∧ m ≤ l.length := by
  unfold numR at h
  split at h
  · rename_i h35
    split at h
    · cases h
    · rename_i h0
      have hne : l ≠ [] := by intro e; rw [e] at h35; cases h35
      have h1 := headG_le l hne
      have h2 := numG_le (baseG l) 0 0 (l.drop (headG l))
      rw [List.length_drop] at h2
      have h3 := endG_le l (headG l + (numG (baseG l) 0 0 (l.drop (headG l))).2) (by omega)
      have h4 := congrArg Prod.snd (Option.some.inj h)
      simp only at h4
      omega
  · cases h

theorem nameR_le {value : Bool} {l : List UInt8} {z : Int} {m : Nat} (h : nameR value l = some (z, m)) : 1 ≤ m ∧ m ≤ l.length := by
  unfold nameR at h
  split at h
  · cases h
  · rename_i h0
    split at h
    · cases h
    · have h1 : (longL l).length ≤ l.length := (longL_prefix l).length_le
      have h2 : 1 ≤ (longL l).length := List.length_pos_iff.2 h0
      have h3 := endG_le l _ h1
      have h4 := congrArg Prod.snd (Option.some.inj h)
      simp only at h4
      omega

theorem refR_le {value : Bool} {l : List UInt8} {z : Int} {m : Nat} (h : refR value l = some (z, m)) : 1 ≤ m ∧ m ≤ l.length := by
  unfold refR at h
  split at h
  · exact numR_le h
  · exact nameR_le h

/-- A reference at a place of a text. -/
def refS (s : ByteArray) (at' : Int) (value : Bool) : ByteArray × Nat :=
  if 0 ≤ at' ∧ (tailL s at'.toNat).head? = some 38 then
    match refR value (tailL s (at'.toNat + 1)) with
    | none => (ByteArray.empty, 0)
    | some (z, m) => (putS z, 1 + m)
  else (ByteArray.empty, 0)

/-- A text with what its references tell in their place. -/
def refsL (value : Bool) : List UInt8 → List UInt8
  | [] => []
  | b :: l =>
    if b = 38 then
      match refR value l with
      | none => b :: refsL value l
      | some (z, m) => (putS z).data.toList ++ refsL value (l.drop m)
    else b :: refsL value l
  termination_by l => l.length
  decreasing_by all_goals (simp only [List.length_cons, List.length_drop]; omega)

end Go.Proofs.YtbmmghkieolpkaaGreatDoor.Sg

namespace Go.Proofs.YtbmmghkieolpkaaGreatDoor.Sg
open Go.ChangeShapes Go.WideShapes Go.ChangeAt Go.RowKit

/-- What a digit of 10 or of 16 counts; -1 of what is none. -/
def dig3 (hex : Bool) (b : Nat) : Int := if digV b < (if hex then 16 else 10) then (digV b : Int) else -1

theorem seven (b : Nat) : b < 48 ∨ (48 ≤ b ∧ b ≤ 57) ∨ (58 ≤ b ∧ b ≤ 64) ∨ (65 ≤ b ∧ b ≤ 70) ∨ (71 ≤ b ∧ b ≤ 96) ∨ (97 ≤ b ∧ b ≤ 102) ∨ 103 ≤ b := by omega

theorem dig3_ten {b : Nat} (h : 48 ≤ b ∧ b ≤ 57) (hex : Bool) : dig3 hex b = (b : Int) - 48 := by
  have : digV b = b - 48 := by rcases digV_cases b with h | h | h | h <;> omega
  unfold dig3
  rw [if_pos (by cases hex <;> simp <;> omega)]
  omega
theorem dig3_low {b : Nat} (h : 97 ≤ b ∧ b ≤ 102) : dig3 true b = (b : Int) - 87 := by
  have : digV b = b - 87 := by rcases digV_cases b with h | h | h | h <;> omega
  unfold dig3
  rw [if_pos (by simp; omega)]
  omega
theorem dig3_big {b : Nat} (h : 65 ≤ b ∧ b ≤ 70) : dig3 true b = (b : Int) - 55 := by
  have : digV b = b - 55 := by rcases digV_cases b with h | h | h | h <;> omega
  unfold dig3
  rw [if_pos (by simp; omega)]
  omega
theorem dig3_not {b : Nat} (h : ¬ (48 ≤ b ∧ b ≤ 57)) : dig3 false b = -1 := by
  have : 10 ≤ digV b := by rcases digV_cases b with h | h | h | h <;> omega
  unfold dig3
  rw [if_neg (by simp; omega)]
theorem dig3_none {b : Nat} (h : ¬ (48 ≤ b ∧ b ≤ 57)) (h1 : ¬ (97 ≤ b ∧ b ≤ 102)) (h2 : ¬ (65 ≤ b ∧ b ≤ 70)) (hex : Bool) : dig3 hex b = -1 := by
  have : digV b = 16 := by rcases digV_cases b with h | h | h | h <;> omega
  unfold dig3
  rw [if_neg (by cases hex <;> simp <;> omega)]

set_option maxHeartbeats 2000000 in
theorem specDigit (b : Nat) (hex : Bool) (w : World) (hb : b < 256) :
    Calls Tryz.prog 131 #[.int .u8 (b : Int), .bool hex] w fun e w' => e = .returned (.int .i64 (dig3 hex b)) ∧ w' = w := by
  cases hex
  · rcases seven b with h | h | h | h | h | h | h
    case inr.inl =>
      have Hn : Hid (dig3 false b = (b : Int) - 48) := dig3_ten h false
      obtain ⟨h1, h2⟩ := h
      go_enter Tryz.func131, Tryz.ntmps131
      go_wp2
      go_ret
      exact ⟨ret_i64 Hn.out.symm, rfl⟩
    all_goals
      have Hn : Hid (dig3 false b = -1) := dig3_not (by omega)
      go_enter Tryz.func131, Tryz.ntmps131
      go_wp2
      all_goals (go_ret; exact ⟨ret_i64 Hn.out.symm, rfl⟩)
  · rcases seven b with h | h | h | h | h | h | h
    case inr.inl =>
      have Hn : Hid (dig3 true b = (b : Int) - 48) := dig3_ten h true
      obtain ⟨h1, h2⟩ := h
      go_enter Tryz.func131, Tryz.ntmps131
      go_wp2
      go_ret
      exact ⟨ret_i64 Hn.out.symm, rfl⟩
    case inr.inr.inr.inl =>
      have Hn : Hid (dig3 true b = (b : Int) - 55) := dig3_big h
      obtain ⟨h1, h2⟩ := h
      go_enter Tryz.func131, Tryz.ntmps131
      go_wp2
      go_ret
      exact ⟨ret_i64 Hn.out.symm, rfl⟩
    case inr.inr.inr.inr.inr.inl =>
      have Hn : Hid (dig3 true b = (b : Int) - 87) := dig3_low h
      obtain ⟨h1, h2⟩ := h
      go_enter Tryz.func131, Tryz.ntmps131
      go_wp2
      go_ret
      exact ⟨ret_i64 Hn.out.symm, rfl⟩
    all_goals
      have Hn : Hid (dig3 true b = -1) := dig3_none (by omega) (by omega) (by omega) true
      go_enter Tryz.func131, Tryz.ntmps131
      go_wp2
      all_goals (go_ret; exact ⟨ret_i64 Hn.out.symm, rfl⟩)


end Go.Proofs.YtbmmghkieolpkaaGreatDoor.Sg

namespace Go.Proofs.YtbmmghkieolpkaaGreatDoor.Sg
open Go.ChangeShapes Go.WideShapes Go.ChangeAt Go.RowKit

/-- What a reference tells, as a call hands it back. -/
def refV : Option (Int × Nat) → Value
  | none => .tuple #[.string ⟨#[]⟩, .int .i64 0]
  | some (z, m) => .tuple #[.string (putS z), .int .i64 ((m : Int) + 1)]

theorem ret_ref {x y : ByteArray} {a b : Int} (h : x = y) (h2 : a = b) : Ending.returned (.tuple #[.string x, .int .i64 a]) = .returned (.tuple #[.string y, .int .i64 b]) := by rw [h, h2]

theorem numG_yes (base n m : Nat) (b : UInt8) (l : List UInt8) (h : digV b.toNat < base) : numG base n m (b :: l) = numG base (min (n * base + digV b.toNat) 1114112) (m + 1) l := by
  rw [numG, if_pos h]
theorem numG_no (base n m : Nat) (b : UInt8) (l : List UInt8) (h : ¬ digV b.toNat < base) : numG base n m (b :: l) = (n, m) := by
  rw [numG, if_neg h]

theorem numR_none {l : List UInt8} (h : l.head? = some 35) {n : Nat} (hn : numG (baseG l) 0 0 (l.drop (headG l)) = (n, 0)) : numR l = none := by
  unfold numR
  rw [if_pos h, hn]
  rfl
theorem numR_some {l : List UInt8} (h : l.head? = some 35) {n m : Nat} (hn : numG (baseG l) 0 0 (l.drop (headG l)) = (n, m)) (hm : m ≠ 0) : numR l = some (numB (n : Int), endG l (headG l + m)) := by
  unfold numR
  rw [if_pos h, hn]
  simp [hm]

theorem endG_yes {l : List UInt8} {m : Nat} (h : (l.drop m).head? = some 59) : endG l m = m + 1 := if_pos h
theorem endG_no {l : List UInt8} {m : Nat} (h : (l.drop m).head? ≠ some 59) : endG l m = m := if_neg h

theorem hexG_at (s : ByteArray) (i : Nat) (h : i + 1 < s.size) (h2 : i + 2 < s.size) : hexG (tailL s (i + 1)) = (decide ((s[i + 2]'h2).toNat = 120) || decide ((s[i + 2]'h2).toNat = 88)) := by
  rw [tailL_step s (i + 1) h, tailL_step s (i + 1 + 1) h2]
  show ((s[i + 2]'h2) == 120 || (s[i + 2]'h2) == 88) = _
  have e (b : UInt8) (c : Nat) (hc : c < 256) : (b == UInt8.ofNat c) = decide (b.toNat = c) := by
    by_cases hb : b.toNat = c
    · rw [decide_eq_true hb]
      simp only [beq_iff_eq]
      apply UInt8.toNat_inj.1
      rw [hb, UInt8.toNat_ofNat']
      exact (Nat.mod_eq_of_lt hc).symm
    · rw [decide_eq_false hb]
      simp only [beq_eq_false_iff_ne]
      intro e
      apply hb
      rw [e, UInt8.toNat_ofNat']
      exact Nat.mod_eq_of_lt hc
  rw [show (120 : UInt8) = UInt8.ofNat 120 from rfl, show (88 : UInt8) = UInt8.ofNat 88 from rfl, e _ 120 (by decide), e _ 88 (by decide)]
theorem hexG_end (s : ByteArray) (i : Nat) (h : i + 1 < s.size) (h2 : ¬ i + 2 < s.size) : hexG (tailL s (i + 1)) = false := by
  rw [tailL_step s (i + 1) h, tailL_end s (i + 1 + 1) h2]
  rfl

theorem dig3_pos {hex : Bool} {base b : Nat} (hb : base = if hex then 16 else 10) (h : digV b < base) : dig3 hex b = (digV b : Int) := by
  unfold dig3
  rw [if_pos (hb ▸ h)]
theorem dig3_neg {hex : Bool} {base b : Nat} (hb : base = if hex then 16 else 10) (h : ¬ digV b < base) : dig3 hex b = -1 := by
  unfold dig3
  rw [if_neg (hb ▸ h)]

end Go.Proofs.YtbmmghkieolpkaaGreatDoor.Sg
