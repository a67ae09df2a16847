/- Attributes' places, as the program finds them, in plain steps. No program in it. -/
import Derived.Test.YtmambbknljgjcaaDoorTkOne
import Derived.Test.YtmambbknljgjcaaDoorM12
namespace Go.Proofs.YtmambbknljgjcaaDoor.Sg

theorem byte_all (P : UInt8 → Prop) (h : ∀ n, n < 256 → P (UInt8.ofNat n)) (b : UInt8) : P b := by
  have := h b.toNat (UInt8.toNat_lt b)
  simpa using this
theorem byte_eq (f g : UInt8 → Bool) (h : ∀ n, n < 256 → f (UInt8.ofNat n) = g (UInt8.ofNat n)) : f = g := funext fun b => byte_all (fun b => f b = g b) h b

theorem one_blank : oneU ⟨#[9, 10, 12, 13, 32]⟩ = blankU := byte_eq _ _ (by decide +kernel)
theorem one_skip : oneU ⟨#[9, 10, 12, 13, 32, 47]⟩ = skipU := byte_eq _ _ (by decide +kernel)
theorem not_tag : notU ⟨#[9, 10, 12, 13, 32, 47, 62]⟩ = tagU := byte_eq _ _ (by decide +kernel)
theorem one_quote : oneU ⟨#[34, 39]⟩ = fun b => decide (b.toNat = 34 ∨ b.toNat = 39) := byte_eq _ _ (by decide +kernel)

/-- Those that stop a name, or a value without quotes. -/
def EndOk (en : ByteArray) (angle : Bool) : Prop :=
  en.size ≤ 1 ∧ notU (⟨#[9, 10, 12, 13, 32, 47, 61]⟩ ++ en) = nameU angle ∧ notU (⟨#[9, 10, 12, 13, 32]⟩ ++ en) = plainU angle
theorem endOk_angle : EndOk ⟨#[62]⟩ true := ⟨by decide, byte_eq _ _ (by decide +kernel), byte_eq _ _ (by decide +kernel)⟩
theorem endOk_none : EndOk ⟨#[]⟩ false := ⟨by decide, byte_eq _ _ (by decide +kernel), byte_eq _ _ (by decide +kernel)⟩

/-- Not that byte. -/
def quoteU (c b : UInt8) : Bool := !(b == c)
theorem cut_one {s : ByteArray} {v : Nat} (h : v < s.size) : (s.extract v (v + 1)).data.toList = [s[v]'h] := by
  have e : s.data.toList.drop v = s[v] :: tailL s (v + 1) := tailL_step s v h
  rw [ByteArray.data_extract, Array.toList_extract, List.extract_eq_take_drop, e]
  simp
theorem not_cut {s : ByteArray} {v : Nat} (h : v < s.size) : notU (s.extract v (v + 1)) = quoteU (s[v]'h) := by
  funext b
  unfold notU oneU quoteU
  rw [cut_one h, List.contains_cons, List.contains_nil, Bool.or_false]

theorem runN_find (c : UInt8) (l : List UInt8) : runN (quoteU c) l = (findL c l).getD l.length := by
  induction l with
  | nil => rfl
  | cons x l ih =>
    by_cases h : x = c
    · rw [runN_no (by simp [quoteU, h]), findL, if_pos h]
      rfl
    · rw [runN_yes (by simp [quoteU, h]), findL, if_neg h, ih]
      cases findL c l <;> simp
theorem runE_find {s : ByteArray} {k : Nat} {c : UInt8} (hk : k ≤ s.size) : runE (quoteU c) s k = (findE s k c).getD s.size := by
  unfold runE findE
  rw [runN_find]
  cases findL c (tailL s k) with
  | none =>
    show k + (tailL s k).length = s.size
    rw [tailL_length]
    omega
  | some m => rfl

theorem runN_two (p q : UInt8 → Bool) (h : ∀ b, p b = true → q b = true) (l : List UInt8) : runN q l = runN p l + runN q (l.drop (runN p l)) := by
  induction l with
  | nil => rfl
  | cons x l ih =>
    cases hp : p x
    · rw [runN_no hp]
      simp
    · rw [runN_yes hp, runN_yes (h x hp), List.drop_succ_cons, ih]
      omega
theorem runE_two {p q : UInt8 → Bool} (h : ∀ b, p b = true → q b = true) (s : ByteArray) (k : Nat) : runE q s (runE p s k) = runE q s k := by
  unfold runE
  rw [runN_two p q h (tailL s k), tailL_drop]
  omega
theorem skip_blank (s : ByteArray) (k : Nat) : runE skipU s (runE blankU s k) = runE skipU s k :=
  runE_two (fun b h => by unfold skipU; rw [h]; rfl) s k

/-- Places: where the name ends, where the value begins and ends, and what is behind all. -/
abbrev Pl := Nat × Nat × Nat × Nat
def plV (angle : Bool) (s : ByteArray) (e v : Nat) : Pl :=
  match (tailL s v).head? with
  | none => (e, v, runE (plainU angle) s v, runE (plainU angle) s v)
  | some b => if b.toNat = 34 ∨ b.toNat = 39 then (e, v + 1, runE (quoteU b) s (v + 1), min (runE (quoteU b) s (v + 1) + 1) s.size) else (e, v, runE (plainU angle) s v, runE (plainU angle) s v)
def plQ (angle : Bool) (s : ByteArray) (e q : Nat) : Pl :=
  match (tailL s q).head? with
  | none => (e, e, e, e)
  | some b => if b.toNat = 61 then plV angle s e (runE blankU s (q + 1)) else (e, e, e, e)
def plE (angle : Bool) (s : ByteArray) (m : Nat) : Pl := plQ angle s (runE (nameU angle) s (m + 1)) (runE blankU s (runE (nameU angle) s (m + 1)))

theorem plV_end {angle : Bool} {s : ByteArray} {e v : Nat} (h : ¬ v < s.size) : plV angle s e v = (e, v, runE (plainU angle) s v, runE (plainU angle) s v) := by
  unfold plV
  rw [head_end h]
theorem plV_quote {angle : Bool} {s : ByteArray} {e v : Nat} (h : v < s.size) (hq : (s[v]'h).toNat = 34 ∨ (s[v]'h).toNat = 39) : plV angle s e v = (e, v + 1, runE (quoteU (s[v]'h)) s (v + 1), min (runE (quoteU (s[v]'h)) s (v + 1) + 1) s.size) := by
  unfold plV
  rw [head_at h]
  exact if_pos hq
theorem plV_plain {angle : Bool} {s : ByteArray} {e v : Nat} (h : v < s.size) (hq : ¬ ((s[v]'h).toNat = 34 ∨ (s[v]'h).toNat = 39)) : plV angle s e v = (e, v, runE (plainU angle) s v, runE (plainU angle) s v) := by
  unfold plV
  rw [head_at h]
  exact if_neg hq
theorem plQ_end {angle : Bool} {s : ByteArray} {e q : Nat} (h : ¬ q < s.size) : plQ angle s e q = (e, e, e, e) := by
  unfold plQ
  rw [head_end h]
theorem plQ_no {angle : Bool} {s : ByteArray} {e q : Nat} (h : q < s.size) (h61 : (s[q]'h).toNat ≠ 61) : plQ angle s e q = (e, e, e, e) := by
  unfold plQ
  rw [head_at h]
  exact if_neg h61
theorem plQ_yes {angle : Bool} {s : ByteArray} {e q : Nat} (h : q < s.size) (h61 : (s[q]'h).toNat = 61) : plQ angle s e q = plV angle s e (runE blankU s (q + 1)) := by
  unfold plQ
  rw [head_at h]
  exact if_pos h61

theorem plV_le {angle : Bool} {s : ByteArray} {e v : Nat} (hv : v ≤ s.size) : (plV angle s e v).1 = e ∧ v ≤ (plV angle s e v).2.1 ∧ (plV angle s e v).2.1 ≤ (plV angle s e v).2.2.1 ∧ (plV angle s e v).2.2.1 ≤ s.size ∧ v ≤ (plV angle s e v).2.2.2 ∧ (plV angle s e v).2.2.2 ≤ s.size := by
  have hr := runE_le (p := plainU angle) hv
  by_cases h : v < s.size
  · by_cases hq : (s[v]'h).toNat = 34 ∨ (s[v]'h).toNat = 39
    · rw [plV_quote h hq]
      have h2 := runE_le (p := quoteU (s[v]'h)) (s := s) (k := v + 1) h
      refine ⟨rfl, ?_, ?_, ?_, ?_, ?_⟩ <;> simp only <;> omega
    · rw [plV_plain h hq]
      exact ⟨rfl, Nat.le_refl _, hr.1, hr.2, hr.1, hr.2⟩
  · rw [plV_end h]
    exact ⟨rfl, Nat.le_refl _, hr.1, hr.2, hr.1, hr.2⟩
theorem plE_le {angle : Bool} {s : ByteArray} {m : Nat} (h : m < s.size) : m + 1 ≤ (plE angle s m).1 ∧ (plE angle s m).1 ≤ s.size ∧ m + 1 ≤ (plE angle s m).2.1 ∧ (plE angle s m).2.1 ≤ (plE angle s m).2.2.1 ∧ (plE angle s m).2.2.1 ≤ s.size ∧ m + 1 ≤ (plE angle s m).2.2.2 ∧ (plE angle s m).2.2.2 ≤ s.size := by
  have h1 := runE_le (p := nameU angle) (s := s) (k := m + 1) h
  have h2 := runE_le (p := blankU) h1.2
  unfold plE
  generalize runE (nameU angle) s (m + 1) = e at *
  generalize runE blankU s e = q at *
  by_cases hq : q < s.size
  · by_cases h61 : (s[q]'hq).toNat = 61
    · rw [plQ_yes hq h61]
      have h3 := runE_le (p := blankU) (s := s) (k := q + 1) hq
      have h4 := plV_le (angle := angle) (e := e) h3.2
      omega
    · rw [plQ_no hq h61]
      simp only
      omega
  · rw [plQ_end hq]
    simp only
    omega

theorem name_first {s : ByteArray} {k m : Nat} (hm : runE skipU s k = m) (h : m < s.size) (h62 : (s[m]'h).toNat ≠ 62) : nameE true s m = runE (nameU true) s (m + 1) := by
  have hp := runE_stop hm h
  unfold skipU at hp
  have h1 : blankU (s[m]'h) = false := by
    cases hb : blankU (s[m]'h)
    · rfl
    · rw [hb] at hp; cases hp
  have h2 : (s[m]'h).toNat ≠ 47 := by
    intro e
    rw [h1, decide_eq_true e] at hp
    cases hp
  apply nameE_yes h
  unfold firstU
  rw [h1, decide_eq_false h2, decide_eq_false h62]
  rfl
theorem name_first2 {s : ByteArray} {k m : Nat} (hm : runE skipU s k = m) (h : m < s.size) : nameE false s m = runE (nameU false) s (m + 1) := by
  have hp := runE_stop hm h
  unfold skipU at hp
  have h1 : blankU (s[m]'h) = false := by
    cases hb : blankU (s[m]'h)
    · rfl
    · rw [hb] at hp; cases hp
  have h2 : (s[m]'h).toNat ≠ 47 := by
    intro e
    rw [h1, decide_eq_true e] at hp
    cases hp
  apply nameE_yes h
  unfold firstU
  rw [h1, decide_eq_false h2]
  rfl

theorem tagVal_pl {s : ByteArray} {e v : Nat} : (tagVal s v = .inl (-1) ∧ (plV true s e v).2.2.2 = s.size) ∨ tagVal s v = .inr (plV true s e v).2.2.2 := by
  by_cases h : v < s.size
  · by_cases hq : (s[v]'h).toNat = 34 ∨ (s[v]'h).toNat = 39
    · rw [plV_quote h hq]
      have ht : tagVal s v = (match findE s (v + 1) (s[v]'h) with | none => .inl (-1) | some e => .inr (e + 1)) := by
        unfold tagVal
        rw [head_at h]
        exact if_pos hq
      rw [ht, runE_find (s := s) (k := v + 1) h]
      cases hf : findE s (v + 1) (s[v]'h) with
      | none =>
        left
        refine ⟨rfl, ?_⟩
        show min (s.size + 1) s.size = s.size
        omega
      | some x =>
        right
        have := findE_le hf
        show Sum.inr (x + 1) = Sum.inr (min (x + 1) s.size)
        congr 1
        omega
    · right
      rw [plV_plain h hq]
      unfold tagVal
      rw [head_at h]
      exact if_neg hq
  · right
    rw [plV_end h]
    unfold tagVal
    rw [head_end h]

theorem tagStep_pl {s : ByteArray} {k m : Nat} (hm : runE skipU s k = m) (h : m < s.size) (h62 : (s[m]'h).toNat ≠ 62) :
    (tagStep s k = .inl (-1) ∧ (plE true s m).2.2.2 = s.size) ∨ ∃ k', tagStep s k = .inr k' ∧ k' ≤ s.size ∧ runE skipU s k' = runE skipU s (plE true s m).2.2.2 := by
  have ht : tagStep s k = tagEq s (runE blankU s (runE (nameU true) s (m + 1))) := by
    unfold tagStep
    rw [hm, head_at h, name_first hm h h62]
    exact if_neg h62
  have h1 := runE_le (p := nameU true) (s := s) (k := m + 1) h
  have h2 := runE_le (p := blankU) h1.2
  rw [ht]
  unfold plE
  have hsk := skip_blank s (runE (nameU true) s (m + 1))
  generalize runE (nameU true) s (m + 1) = e at *
  generalize runE blankU s e = q at *
  unfold tagEq
  by_cases hq : q < s.size
  · rw [head_at hq]
    by_cases h61 : (s[q]'hq).toNat = 61
    · rw [plQ_yes hq h61]
      simp only [h61, if_true]
      have h3 := runE_le (p := blankU) (s := s) (k := q + 1) hq
      rcases tagVal_pl (s := s) (e := e) (v := runE blankU s (q + 1)) with h4 | h4
      · exact .inl h4
      · exact .inr ⟨_, h4, (plV_le (angle := true) (e := e) h3.2).2.2.2.2.2, rfl⟩
    · rw [plQ_no hq h61]
      simp only [h61, if_false]
      exact .inr ⟨q, rfl, h2.2, hsk⟩
  · rw [plQ_end hq, head_end hq]
    exact .inr ⟨q, rfl, h2.2, hsk⟩

/-- The program's place m goes with the answer R. -/
def TagAt (s : ByteArray) (m : Nat) (R : Int) : Prop := (m = s.size ∧ R = -1) ∨ ∃ k, k ≤ s.size ∧ runE skipU s k = m ∧ R = tagE s k

theorem TagAt.le {s : ByteArray} {m : Nat} {R : Int} (h : TagAt s m R) : m ≤ s.size := by
  rcases h with h | ⟨k, h1, h2, _⟩
  · omega
  · have := runE_le (p := skipU) h1
    omega
theorem TagAt.past {s : ByteArray} {m : Nat} {R : Int} (h : TagAt s m R) (hm : ¬ m < s.size) : R = -1 := by
  rcases h with h | ⟨k, _, h2, h3⟩
  · exact h.2
  · rw [h3]
    apply tagE_done
    unfold tagStep
    rw [h2, head_end hm]
theorem TagAt.here {s : ByteArray} {m : Nat} {R : Int} (h : TagAt s m R) (hm : m < s.size) (h62 : (s[m]'hm).toNat = 62) : R = (m : Int) := by
  rcases h with h | ⟨k, _, h2, h3⟩
  · omega
  · rw [h3]
    apply tagE_done
    unfold tagStep
    rw [h2, head_at hm]
    exact if_pos h62
theorem TagAt.next {s : ByteArray} {m : Nat} {R : Int} (h : TagAt s m R) (hm : m < s.size) (h62 : (s[m]'hm).toNat ≠ 62) : TagAt s (runE skipU s (plE true s m).2.2.2) R ∧ m < runE skipU s (plE true s m).2.2.2 := by
  have hp := plE_le (angle := true) hm
  have hr := runE_le (p := skipU) (s := s) (k := (plE true s m).2.2.2) (by omega)
  refine ⟨?_, by omega⟩
  rcases h with h | ⟨k, h1, h2, h3⟩
  · omega
  · rcases tagStep_pl h2 hm h62 with ⟨h4, h5⟩ | ⟨k', h4, h5, h6⟩
    · left
      refine ⟨?_, by rw [h3]; exact tagE_done h4⟩
      rw [h5, runE_end (Nat.lt_irrefl _)]
    · right
      exact ⟨k', h5, h6, by rw [h3]; exact tagE_goes h1 h4⟩

end Go.Proofs.YtmambbknljgjcaaDoor.Sg
