/- References of a strict text, by what stands up to the first byte 59. Plain. No program in it. -/
import Derived.Test.YthipdkagkdnaiaaGreatDoorMRD02
import Derived.Test.YthipdkagkdnaiaaGreatDoorMRD03
import Derived.Lib.IndexMore
namespace Go.Proofs.YthipdkagkdnaiaaGreatDoor.Sg

def digB (b : UInt8) : Bool := decide (48 ≤ b.toNat ∧ b.toNat ≤ 57)
theorem digB_of {b : UInt8} (h : digB b = true) : 48 ≤ b.toNat ∧ b.toNat ≤ 57 := of_decide_eq_true h
def foldD (n : Nat) (d : List UInt8) : Nat := d.foldl (fun n d => 10 * n + (d.toNat - 48)) n
theorem numG_all : ∀ (d : List UInt8) (a m : Nat), d.all digB = true → numG 10 (min a 1114112) m d = (min (foldD a d) 1114112, m + d.length)
  | [], a, m, _ => rfl
  | b :: d, a, m, h => by
    rw [List.all_cons, Bool.and_eq_true] at h
    have hb := digB_of h.1
    have hd : digV b.toNat = b.toNat - 48 := by rcases digV_cases b.toNat with h | h | h | h <;> omega
    unfold numG
    rw [if_pos (by omega), hd, show min (min a 1114112 * 10 + (b.toNat - 48)) 1114112 = min (10 * a + (b.toNat - 48)) 1114112 by omega, numG_all d _ _ h.2]
    show (min (foldD (10 * a + (b.toNat - 48)) d) 1114112, m + 1 + d.length) = (min (foldD a (b :: d)) 1114112, m + (d.length + 1))
    rw [show m + 1 + d.length = m + (d.length + 1) by omega]
    rfl
theorem numG_full : ∀ (d : List UInt8) (a m : Nat), (numG 10 a m d).2 = m + d.length → d.all digB = true
  | [], _, _, _ => rfl
  | b :: d, a, m, h => by
    unfold numG at h
    by_cases hv : digV b.toNat < 10
    · rw [if_pos hv] at h
      have hb : digB b = true := by
        apply decide_eq_true
        rcases digV_cases b.toNat with h | h | h | h <;> omega
      rw [List.all_cons, hb, Bool.true_and]
      exact numG_full d _ (m + 1) (by rw [h]; simp; omega)
    · rw [if_neg hv] at h
      simp at h

/-- The number for some digits. -/
def numL (d : List UInt8) : Option Int := if (numG 10 0 0 d).2 = d.length ∧ d.length ≤ 7 ∧ d.head? ≠ some 48 ∧ textB ((numG 10 0 0 d).1 : Int) = true then some ((numG 10 0 0 d).1 : Int) else none
/-- The sign for what stands between a reference's first and last byte. -/
def refSignL (x : List UInt8) : Option Int :=
  if x = [97, 109, 112] then some 38
  else if x = [108, 116] then some 60
  else if x = [103, 116] then some 62
  else if x = [113, 117, 111, 116] then some 34
  else if x = [97, 112, 111, 115] then some 39
  else if x.head? = some 35 then numL x.tail
  else none

theorem pre_semi : ∀ (y x r : List UInt8), (59 : UInt8) ∉ y → (59 : UInt8) ∉ x → ((y ++ [59]).isPrefixOf (x ++ 59 :: r) = decide (x = y))
  | [], [], r, _, _ => by simp [List.isPrefixOf]
  | [], a :: x, r, _, h => by
    have ha : (59 : UInt8) ≠ a := fun e => h (e ▸ List.mem_cons_self)
    simp [List.isPrefixOf, ha]
  | b :: y, [], r, h, _ => by
    have hb : b ≠ (59 : UInt8) := fun e => h (e ▸ List.mem_cons_self)
    simp [List.isPrefixOf, hb]
  | b :: y, a :: x, r, h, h2 => by
    have ih := pre_semi y x r (fun hm => h (List.mem_cons_of_mem _ hm)) (fun hm => h2 (List.mem_cons_of_mem _ hm))
    show ((b == a) && (y ++ [59]).isPrefixOf (x ++ 59 :: r)) = _
    rw [ih]
    by_cases e : b = a
    · subst e
      simp
    · have e2 : ¬ a = b := fun h => e h.symm
      simp [e, e2]
/-- What was read as digits are digits. -/
theorem xdig_digits (s : ByteArray) : ∀ (f k n j : Nat), k ≤ j → j < (xdigR s f k n).2 → 48 ≤ bN s j ∧ bN s j ≤ 57
  | 0, k, n, j, h, h2 => by
    have : (xdigR s 0 k n).2 = k := rfl
    omega
  | f + 1, k, n, j, h, h2 => by
    by_cases hk : k < s.size
    · by_cases h1 : 48 ≤ (s[k]'hk).toNat ∧ (s[k]'hk).toNat ≤ 57
      · rw [xdigR_go hk h1] at h2
        by_cases e : j = k
        · subst e
          rw [← bN_eq s j hk]
          exact h1
        · exact xdig_digits s f (k + 1) _ j (by omega) h2
      · rw [xdigR_stop hk h1] at h2
        simp only at h2
        omega
    · rw [xdigR_end hk] at h2
      simp only at h2
      omega
theorem tail_of_bN {s : ByteArray} {k j : Nat} (h : k + j < s.size) : (tailL s k)[j]? = some (s.get! (k + j)) := by
  unfold tailL
  rw [List.getElem?_drop, Array.getElem?_toList]
  show s.data[k + j]? = some (s.data[k + j]!)
  have h' : k + j < s.data.size := h
  rw [getElem!_def, Array.getElem?_eq_getElem h']
/-- A reference by number, by what stands up to the first byte 59. -/
theorem xnum_semi (pre d r : List UInt8) (hd : (59 : UInt8) ∉ d) : (xnumR (strB (pre ++ (38 :: 35 :: (d ++ 59 :: r)))) pre.length).map (fun q => (putS (q.1 : Int), q.2 + 1)) = (numL d).map fun z => (putS z, pre.length + 3 + d.length) := by
  have e0 : pre ++ (38 :: 35 :: (d ++ 59 :: r)) = (pre ++ [38, 35]) ++ (d ++ 59 :: r) := by simp
  have hl2 : (pre ++ [38, 35]).length = pre.length + 2 := by simp
  have hsz : (strB (pre ++ (38 :: 35 :: (d ++ 59 :: r)))).size = pre.length + 3 + d.length + r.length := by rw [strB_size]; simp; omega
  have h59 : bN (strB (pre ++ (38 :: 35 :: (d ++ 59 :: r)))) (pre.length + 2 + d.length) = 59 := by
    have := bN_mid (pre ++ [38, 35] ++ d) [59] r 0 (by simp)
    rw [List.length_append, hl2, List.append_assoc (pre ++ [38, 35])] at this
    rw [e0]
    exact this
  by_cases hA : d.all digB = true ∧ d.length ≤ 7
  · have hx := xdig_list d (pre ++ [38, 35]) r 7 0 hA.2 (fun b hb => digB_of (List.all_eq_true.1 hA.1 b hb))
    rw [hl2, ← e0] at hx
    have hg := numG_all d 0 0 hA.1
    rw [show min 0 1114112 = 0 from rfl, Nat.zero_add] at hg
    have ht : textB ((min (foldD 0 d) 1114112 : Nat) : Int) = textB (foldD 0 d : Int) := by
      by_cases h : foldD 0 d ≤ 1114112
      · rw [Nat.min_eq_left h]
      · rw [Nat.min_eq_right (by omega)]
        have h1 : textB (foldD 0 d : Int) = false := by
          cases hc : textB (foldD 0 d : Int) with
          | false => rfl
          | true =>
            have := okB_of (textB_ok hc)
            omega
        rw [h1]
        decide
    have hh : bN (strB (pre ++ (38 :: 35 :: (d ++ 59 :: r)))) (pre.length + 2) = 48 ↔ d.head? = some 48 := by
      cases d with
      | nil =>
        rw [List.length_nil, Nat.add_zero] at h59
        rw [h59]
        simp
      | cons b d =>
        have h := bN_mid (pre ++ [38, 35]) (b :: d) (59 :: r) 0 (by simp)
        rw [hl2, Nat.add_zero, ← e0] at h
        have h' : bN (strB (pre ++ 38 :: 35 :: (b :: d ++ 59 :: r))) (pre.length + 2) = ((b :: d).getD 0 0).toNat := h
        rw [h']
        simp only [List.getD_cons_zero, List.head?_cons, Option.some.injEq]
        exact ⟨fun h => UInt8.toNat_inj.1 h, fun h => by rw [h]; rfl⟩
    unfold xnumR numL
    simp only
    rw [hx, hg]
    simp only [true_and]
    by_cases hz : d = []
    · subst hz
      rw [if_pos (.inl (by simp))]
      rfl
    · have hl : 0 < d.length := by
        cases d with
        | nil => exact absurd rfl hz
        | cons b d => simp
      by_cases hc : d.head? ≠ some 48 ∧ textB (foldD 0 d : Int) = true
      · rw [if_neg, if_pos ⟨hA.2, hc.1, by rw [ht]; exact hc.2⟩]
        · have h14 : foldD 0 d ≤ 1114111 := by
            have := okB_of (textB_ok hc.2)
            omega
          rw [Nat.min_eq_left (by omega)]
          show some (putS (foldD 0 d : Int), _) = some (putS (foldD 0 d : Int), _)
          congr 2
          omega
        · rintro (h | h | h | h | h)
          · omega
          · exact hc.1 (hh.1 h)
          · apply h
            rw [hsz]
            omega
          · exact h h59
          · have h5 : textB (foldD 0 d : Int) = false := h
            rw [hc.2] at h5
            cases h5
      · have hR : (if d.length ≤ 7 ∧ d.head? ≠ some 48 ∧ textB ((min (foldD 0 d) 1114112 : Nat) : Int) = true then some ((min (foldD 0 d) 1114112 : Nat) : Int) else none) = none := if_neg fun h => hc ⟨h.2.1, by rw [← ht]; exact h.2.2⟩
        rw [hR, if_pos]
        · rfl
        · by_cases h1 : d.head? = some 48
          · exact .inr (.inl (hh.2 h1))
          · refine .inr (.inr (.inr (.inr ?_)))
            show textB (foldD 0 d : Int) = false
            cases h2 : textB (foldD 0 d : Int) with
            | false => rfl
            | true => exact absurd ⟨h1, h2⟩ hc
  · have hn : numL d = none := by
      unfold numL
      rw [if_neg]
      rintro ⟨h1, h2, _⟩
      exact hA ⟨numG_full d 0 0 (by rw [h1]; simp), h2⟩
    rw [hn]
    cases hq : xnumR (strB (pre ++ (38 :: 35 :: (d ++ 59 :: r)))) pre.length with
    | none => rfl
    | some q =>
      exfalso
      have hle := xnumR_le hq
      unfold xnumR at hq
      simp only at hq
      split at hq
      · cases hq
      · rename_i hne
        cases hq
        have hdg := xdig_digits (strB (pre ++ (38 :: 35 :: (d ++ 59 :: r)))) 7 (pre.length + 2) 0
        have hl7 := (xdigR_le (strB (pre ++ (38 :: 35 :: (d ++ 59 :: r)))) 7 (pre.length + 2) 0)
        have hb59 : bN (strB (pre ++ (38 :: 35 :: (d ++ 59 :: r)))) (xdigR (strB (pre ++ (38 :: 35 :: (d ++ 59 :: r)))) 7 (pre.length + 2) 0).2 = 59 := Classical.byContradiction fun h => hne (.inr (.inr (.inr (.inl h))))
        generalize (xdigR (strB (pre ++ (38 :: 35 :: (d ++ 59 :: r)))) 7 (pre.length + 2) 0).2 = e at *
        have hin : ∀ j (hj : j < d.length), bN (strB (pre ++ (38 :: 35 :: (d ++ 59 :: r)))) (pre.length + 2 + j) = (d[j]'hj).toNat := by
          intro j hj
          have h := bN_mid (pre ++ [38, 35]) d (59 :: r) j hj
          rw [hl2, ← e0] at h
          have h' : bN (strB (pre ++ 38 :: 35 :: (d ++ 59 :: r))) (pre.length + 2 + j) = (d.getD j 0).toNat := h
          rw [h', List.getD_eq_getElem?_getD, List.getElem?_eq_getElem hj]
          rfl
        have he : e = pre.length + 2 + d.length := by
          by_cases h1 : e < pre.length + 2 + d.length
          · exfalso
            have h2 := hin (e - (pre.length + 2)) (by omega)
            rw [show pre.length + 2 + (e - (pre.length + 2)) = e by omega, hb59] at h2
            have h3 : (d[e - (pre.length + 2)]'(by omega)) = 59 := UInt8.toNat_inj.1 h2.symm
            exact hd (h3 ▸ List.getElem_mem _)
          · by_cases h2 : pre.length + 2 + d.length < e
            · have := hdg (pre.length + 2 + d.length) (by omega) h2
              rw [h59] at this
              omega
            · omega
        subst he
        apply hA
        refine ⟨List.all_eq_true.2 fun b hb => ?_, by omega⟩
        obtain ⟨j, hj, rfl⟩ := List.getElem_of_mem hb
        have := hdg (pre.length + 2 + j) (by omega) (by omega)
        rw [hin j hj] at this
        exact decide_eq_true this

theorem hash_semi (x r : List UInt8) : List.isPrefixOf [35] (x ++ 59 :: r) = decide (x.head? = some 35) := by
  cases x with
  | nil => rfl
  | cons a x =>
    show ((35 : UInt8) == a && true) = _
    rw [Bool.and_true]
    by_cases h : a = 35
    · subst h
      rfl
    · have h2 : ((35 : UInt8) == a) = false := beq_false_of_ne (Ne.symm h)
      rw [h2]
      simp [h]

/-- A reference, by what stands up to the first byte 59. -/
theorem xref_semi (pre x r : List UInt8) (hx : (59 : UInt8) ∉ x) : xrefR (strB (pre ++ (38 :: (x ++ 59 :: r)))) pre.length = (refSignL x).map fun z => (putS z, pre.length + 2 + x.length) := by
  have S : ∀ y : List UInt8, (59 : UInt8) ∉ y → standsB (strB (pre ++ (38 :: (x ++ 59 :: r)))) pre.length (strB (38 :: (y ++ [59]))) = decide (x = y) := by
    intro y hy
    rw [stands_pre]
    show ((38 : UInt8) == 38 && (y ++ [59]).isPrefixOf (x ++ 59 :: r)) = _
    rw [pre_semi y x r hy hx]
    rfl
  have s1 : standsB (strB (pre ++ (38 :: (x ++ 59 :: r)))) pre.length ampB = decide (x = [97, 109, 112]) := S [97, 109, 112] (by decide)
  have s2 : standsB (strB (pre ++ (38 :: (x ++ 59 :: r)))) pre.length ltB = decide (x = [108, 116]) := S [108, 116] (by decide)
  have s3 : standsB (strB (pre ++ (38 :: (x ++ 59 :: r)))) pre.length gtB = decide (x = [103, 116]) := S [103, 116] (by decide)
  have s4 : standsB (strB (pre ++ (38 :: (x ++ 59 :: r)))) pre.length quotB = decide (x = [113, 117, 111, 116]) := S [113, 117, 111, 116] (by decide)
  have s5 : standsB (strB (pre ++ (38 :: (x ++ 59 :: r)))) pre.length aposB = decide (x = [97, 112, 111, 115]) := S [97, 112, 111, 115] (by decide)
  have s6 : standsB (strB (pre ++ (38 :: (x ++ 59 :: r)))) pre.length hashB = decide (x.head? = some 35) := by
    rw [show hashB = strB [38, 35] from rfl, stands_pre]
    show ((38 : UInt8) == 38 && List.isPrefixOf [35] (x ++ 59 :: r)) = _
    rw [hash_semi]
    rfl
  have P : ∀ z : Int, 0 ≤ z → z ≤ 127 → putS z = ⟨#[UInt8.ofNat z.toNat]⟩ := fun z h0 h1 => putS_z h0 h1
  unfold xrefR refSignL
  rw [s1, s2, s3, s4, s5, s6]
  simp only [decide_eq_true_eq]
  by_cases c1 : x = [97, 109, 112]
  · rw [if_pos c1, if_pos c1, Option.map_some, P 38 (by decide) (by decide), c1]
    rfl
  rw [if_neg c1, if_neg c1]
  by_cases c2 : x = [108, 116]
  · rw [if_pos c2, if_pos c2, Option.map_some, P 60 (by decide) (by decide), c2]
    rfl
  rw [if_neg c2, if_neg c2]
  by_cases c3 : x = [103, 116]
  · rw [if_pos c3, if_pos c3, Option.map_some, P 62 (by decide) (by decide), c3]
    rfl
  rw [if_neg c3, if_neg c3]
  by_cases c4 : x = [113, 117, 111, 116]
  · rw [if_pos c4, if_pos c4, Option.map_some, P 34 (by decide) (by decide), c4]
    rfl
  rw [if_neg c4, if_neg c4]
  by_cases c5 : x = [97, 112, 111, 115]
  · rw [if_pos c5, if_pos c5, Option.map_some, P 39 (by decide) (by decide), c5]
    rfl
  rw [if_neg c5, if_neg c5]
  by_cases c6 : x.head? = some 35
  · rw [if_pos c6, if_pos c6]
    cases x with
    | nil => cases c6
    | cons a d =>
      have : a = 35 := by simpa using c6
      subst this
      have h := xnum_semi pre d r fun hm => hx (List.mem_cons_of_mem _ hm)
      show Option.map _ (xnumR (strB (pre ++ (38 :: 35 :: (d ++ 59 :: r)))) pre.length) = Option.map _ (numL d)
      rw [h]
      congr 1
      funext z
      simp
      omega
  · rw [if_neg c6, if_neg c6]
    rfl
/-- Without a byte 59 there is no reference. -/
theorem xref_none (pre l : List UInt8) (hl : (59 : UInt8) ∉ l) : xrefR (strB (pre ++ (38 :: l))) pre.length = none := by
  have S : ∀ y : List UInt8, standsB (strB (pre ++ (38 :: l))) pre.length (strB (38 :: (y ++ [59]))) = false := by
    intro y
    rw [stands_pre]
    cases hc : List.isPrefixOf (38 :: (y ++ [59])) (38 :: l) with
    | false => rfl
    | true =>
      obtain ⟨r, hr⟩ := List.isPrefixOf_iff_prefix.1 hc
      exfalso
      injection hr with _ hr
      exact hl (hr ▸ by simp)
  unfold xrefR
  rw [show standsB _ _ ampB = false from S [97, 109, 112], show standsB _ _ ltB = false from S [108, 116], show standsB _ _ gtB = false from S [103, 116], show standsB _ _ quotB = false from S [113, 117, 111, 116], show standsB _ _ aposB = false from S [97, 112, 111, 115]]
  simp only [Bool.false_eq_true, if_false]
  split
  · cases hq : xnumR (strB (pre ++ (38 :: l))) pre.length with
    | none => rfl
    | some q =>
      exfalso
      have hle := xnumR_le hq
      unfold xnumR at hq
      simp only at hq
      split at hq
      · cases hq
      · rename_i hne
        cases hq
        have hb59 : bN (strB (pre ++ (38 :: l))) (xdigR (strB (pre ++ (38 :: l))) 7 (pre.length + 2) 0).2 = 59 := Classical.byContradiction fun h => hne (.inr (.inr (.inr (.inl h))))
        generalize (xdigR (strB (pre ++ (38 :: l))) 7 (pre.length + 2) 0).2 = e at *
        rw [strB_size, List.length_append, List.length_cons] at hle
        have h := bN_mid (pre ++ [38]) l [] (e - (pre.length + 1)) (by omega)
        rw [List.length_append, List.length_singleton, List.append_nil, List.append_assoc, List.singleton_append, show pre.length + 1 + (e - (pre.length + 1)) = e by omega] at h
        have h2 : (l.getD (e - (pre.length + 1)) 0).toNat = 59 := h.symm.trans hb59
        rw [List.getD_eq_getElem?_getD, List.getElem?_eq_getElem (by omega)] at h2
        have h3 : (l[e - (pre.length + 1)]'(by omega)) = 59 := UInt8.toNat_inj.1 h2
        exact hl (h3 ▸ List.getElem_mem _)
  · rfl

/-- A text, parted at a place. -/
theorem parted (s : ByteArray) (k : Nat) (h : k < s.size) : s = strB (s.data.toList.take k ++ ((s[k]'h) :: tailL s (k + 1))) ∧ (s.data.toList.take k).length = k := by
  have hl : k < s.data.toList.length := by rw [Array.length_toList]; exact h
  refine ⟨?_, by rw [List.length_take]; omega⟩
  rw [← tailL_step s k h]
  unfold tailL strB
  rw [List.take_append_drop]
/-- What the program reads at a byte 38. -/
def refP (l : List UInt8) : Option (Int × Nat) := if 0 ≤ Lib.index l [59] then (refSignL (l.take (Lib.index l [59]).toNat)).map fun z => (z, (Lib.index l [59]).toNat) else none
theorem occ_semi (l : List UInt8) (i : Nat) : Lib.occAt l [59] i = true ↔ l[i]? = some 59 := by
  unfold Lib.occAt
  rw [List.isPrefixOf_iff_prefix]
  constructor
  · rintro ⟨r, hr⟩
    have := congrArg List.head? hr
    rw [List.head?_drop] at this
    exact this.symm
  · intro h
    have hi : i < l.length := (List.getElem?_eq_some_iff.1 h).1
    rw [List.drop_eq_getElem_cons hi, (List.getElem?_eq_some_iff.1 h).2]
    exact ⟨_, rfl⟩
theorem refP_eq {s : ByteArray} {k : Nat} (h : k < s.size) (h38 : s[k]'h = 38) : xrefR s k = (refP (tailL s (k + 1))).map fun r => (putS r.1, k + 2 + r.2) := by
  obtain ⟨e, hl⟩ := parted s k h
  rw [h38] at e
  generalize s.data.toList.take k = pre at *
  generalize tailL s (k + 1) = l at *
  subst hl
  rw [e]
  rcases Lib.index_spec l [59] with ⟨h1, h2⟩ | ⟨i, h1, h2, h3, h4⟩
  · unfold refP
    rw [if_neg (by omega)]
    exact xref_none pre l fun hm => by
      obtain ⟨j, hj, he⟩ := List.getElem_of_mem hm
      have := h2 j (by omega)
      have h5 := (occ_semi l j).2 (by rw [List.getElem?_eq_getElem hj, he])
      rw [this] at h5
      cases h5
  · have hi := (occ_semi l i).1 h3
    obtain ⟨hi1, hi2⟩ := List.getElem?_eq_some_iff.1 hi
    have hs : l = l.take i ++ 59 :: l.drop (i + 1) := by
      conv => lhs; rw [← List.take_append_drop i l, List.drop_eq_getElem_cons hi1, hi2]
    have hno : (59 : UInt8) ∉ l.take i := fun hm => by
      obtain ⟨j, hj, he⟩ := List.getElem_of_mem hm
      rw [List.length_take] at hj
      have := h4 j (by omega)
      have h5 := (occ_semi l j).2 (by rw [List.getElem?_eq_getElem (by omega)]; rw [List.getElem_take] at he; rw [he])
      rw [this] at h5
      cases h5
    have hx := xref_semi pre (l.take i) (l.drop (i + 1)) hno
    rw [← hs] at hx
    unfold refP
    rw [h1, if_pos (by omega), show ((i : Nat) : Int).toNat = i from rfl, hx, Option.map_map]
    congr 1
    funext z
    show (putS z, _) = (putS z, _)
    rw [List.length_take, Nat.min_eq_left (by omega)]

end Go.Proofs.YthipdkagkdnaiaaGreatDoor.Sg
