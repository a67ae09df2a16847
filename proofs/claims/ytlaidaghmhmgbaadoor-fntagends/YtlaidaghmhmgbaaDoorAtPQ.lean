/- Attributes as the program gathers them, in plain steps. No program in it. -/
import Derived.Test.YtlaidaghmhmgbaaDoorAtImplAQ
import Derived.Test.YtlaidaghmhmgbaaDoorM06
namespace Go.Proofs.YtlaidaghmhmgbaaDoor.Sg

/-- A text ends with a slash. -/
def sufU (s : ByteArray) : Bool := Lib.hasSuffix s.data.toList [47]
theorem suf_last {s : ByteArray} (h : s.size - 1 < s.size) : sufU s = decide ((s[s.size - 1]'h).toNat = 47) := by
  have hl : s.data.toList = s.data.toList.take (s.size - 1) ++ [s[s.size - 1]'h] := by
    have e : s.data.toList.drop (s.size - 1) = s[s.size - 1] :: tailL s (s.size - 1 + 1) := tailL_step s (s.size - 1) h
    rw [tailL_end s _ (by omega)] at e
    rw [← e, List.take_append_drop]
  unfold sufU Lib.hasSuffix
  rw [hl, List.isSuffixOf]
  simp only [List.reverse_append, List.reverse_cons, List.reverse_nil, List.nil_append, List.cons_append, List.isPrefixOf, Bool.and_true]
  generalize s[s.size - 1]'h = b
  exact byte_all (fun b => (47 == b) = decide (b.toNat = 47)) (by decide +kernel) b

theorem findL_at (c : UInt8) : ∀ (l : List UInt8) (m : Nat), findL c l = some m → l[m]? = some c := by
  intro l
  induction l with
  | nil => intro m h; cases h
  | cons x l ih =>
    intro m h
    unfold findL at h
    by_cases hx : x = c
    · rw [if_pos hx] at h
      cases h
      simp [hx]
    · rw [if_neg hx] at h
      cases hf : findL c l with
      | none => rw [hf] at h; cases h
      | some q =>
        rw [hf] at h
        cases h
        have := ih q hf
        simpa using this
theorem findE_at {s : ByteArray} {k m : Nat} {c : UInt8} (h : findE s k c = some m) (hm : m < s.size) : s[m]'hm = c := by
  unfold findE at h
  cases hf : findL c (tailL s k) with
  | none => rw [hf] at h; cases h
  | some q =>
    rw [hf] at h
    have h2 : k + q = m := Option.some.inj h
    have h3 := findL_at c _ _ hf
    unfold tailL at h3
    rw [List.getElem?_drop, h2] at h3
    have h4 : s.data.toList[m]? = some (s[m]'hm) := by
      rw [Array.getElem?_toList]
      exact Array.getElem?_eq_getElem _
    rw [h4] at h3
    exact Option.some.inj h3

theorem refs_nil : strB (refsL true []) = ⟨#[]⟩ := by
  rw [show refsL true [] = [] by unfold refsL; rfl]
  rfl
theorem cut_nil (s : ByteArray) (e : Nat) : (s.extract e e).data.toList = [] := by
  rw [ByteArray.data_extract]
  simp

/-- An attribute, by its places. -/
def attrPl (s : ByteArray) (m : Nat) (pl : Pl) : AttrB := (smallS (s.extract m pl.1), strB (refsL true (s.extract pl.2.1 pl.2.2.1).data.toList))

theorem val_pl {s : ByteArray} {e v : Nat} :
    ((valE s v).1 = s.extract (plV false s e v).2.1 (plV false s e v).2.2.1 ∧ (valE s v).2 = (plV false s e v).2.2.2 ∧ (plV false s e v).1 = e) ∧ ((sufU s && decide ((plV false s e v).2.2.1 < s.size)) = (sufU s && decide ((plV false s e v).2.2.2 < s.size))) := by
  by_cases h : v < s.size
  · by_cases hq : (s[v]'h).toNat = 34 ∨ (s[v]'h).toNat = 39
    · rw [plV_quote h hq, valE_quote h hq, runE_find (s := s) (k := v + 1) h]
      cases hf : findE s (v + 1) (s[v]'h) with
      | none =>
        refine ⟨⟨rfl, ?_, rfl⟩, ?_⟩
        · show s.size = min (s.size + 1) s.size
          omega
        · show (sufU s && decide (s.size < s.size)) = (sufU s && decide (min (s.size + 1) s.size < s.size))
          rw [show min (s.size + 1) s.size = s.size by omega]
      | some f =>
        have h1 := findE_le hf
        have h2 : min (f + 1) s.size = f + 1 := by omega
        refine ⟨⟨rfl, ?_, rfl⟩, ?_⟩
        · show f + 1 = min (f + 1) s.size
          omega
        · show (sufU s && decide (f < s.size)) = (sufU s && decide (min (f + 1) s.size < s.size))
          rw [h2]
          by_cases h3 : f + 1 < s.size
          · rw [decide_eq_true h1.2, decide_eq_true h3]
          · have hf2 : f = s.size - 1 := by omega
            have h4 : s.size - 1 < s.size := by omega
            have h5 := findE_at hf h1.2
            have h6 : sufU s = false := by
              rw [suf_last h4]
              apply decide_eq_false
              intro h7
              subst hf2
              rw [h5] at h7
              omega
            rw [h6]
            rfl
    · rw [plV_plain h hq, valE_plain h hq]
      exact ⟨⟨rfl, rfl, rfl⟩, rfl⟩
  · rw [plV_end h, valE_end h]
    exact ⟨⟨rfl, rfl, rfl⟩, rfl⟩

theorem attr_pl {s : ByteArray} {k m : Nat} (hm : runE skipU s k = m) (h : m < s.size) :
    attrAt s m = (attrPl s m (plE false s m), (plE false s m).2.2.2) ∧ (sufU s && decide ((plE false s m).2.2.1 < s.size)) = (sufU s && decide ((plE false s m).2.2.2 < s.size)) := by
  have hn := name_first2 hm h
  unfold plE attrPl
  obtain ⟨e, he⟩ : ∃ e, runE (nameU false) s (m + 1) = e := ⟨_, rfl⟩
  obtain ⟨q, hq⟩ : ∃ q, runE blankU s e = q := ⟨_, rfl⟩
  rw [he] at hn
  rw [he, hq]
  by_cases h4 : q < s.size
  · by_cases h61 : (s[q]'h4).toNat = 61
    · rw [plQ_yes h4 h61, attrAt_val hn hq h4 h61 rfl]
      obtain ⟨⟨v1, v2, v3⟩, v4⟩ := val_pl (s := s) (e := e) (v := runE blankU s (q + 1))
      exact ⟨by rw [v1, v2, v3], v4⟩
    · rw [plQ_no h4 h61, attrAt_none hn hq h4 h61]
      refine ⟨?_, rfl⟩
      show _ = ((smallS (s.extract m e), strB (refsL true (s.extract e e).data.toList)), e)
      rw [cut_nil, refs_nil]
  · rw [plQ_end h4, attrAt_last hn hq h4]
    refine ⟨?_, rfl⟩
    show _ = ((smallS (s.extract m e), strB (refsL true (s.extract e e).data.toList)), e)
    rw [cut_nil, refs_nil]

/-- The program's place, what it has gathered and where its last value ended go with the answer R. -/
def AttrsAtR (s : ByteArray) (m : Nat) (l : List AttrB) (ve : Nat) (R : List AttrB × Bool) : Prop :=
  ∃ k, k ≤ s.size ∧ runE skipU s k = m ∧ R = attrsE s k (firstA l) false ∧ (sufU s && decide (ve < s.size)) = (sufU s && decide (k < s.size))

theorem AttrsAtR.start (s : ByteArray) : AttrsAtR s (runE skipU s 0) [] 0 (attrsE s 0 [] false) := ⟨0, Nat.zero_le _, rfl, rfl, rfl⟩
theorem AttrsAtR.le {s : ByteArray} {m ve : Nat} {l : List AttrB} {R : List AttrB × Bool} (h : AttrsAtR s m l ve R) : m ≤ s.size := by
  obtain ⟨k, h1, h2, _, _⟩ := h
  have := runE_le (p := skipU) h1
  omega
theorem AttrsAtR.past {s : ByteArray} {m ve : Nat} {l : List AttrB} {R : List AttrB × Bool} (h : AttrsAtR s m l ve R) (hm : ¬ m < s.size) : R = (firstA l, sufU s && decide (ve < s.size)) := by
  have hle := h.le
  obtain ⟨k, h1, h2, h3, h4⟩ := h
  rw [h3, h4]
  by_cases hk : k < s.size
  · rw [attrsE_last hk h2 hm, decide_eq_true hk, Bool.and_true]
    have hme : m = s.size := by omega
    have hs1 : s.size - 1 < s.size := by omega
    rw [suf_last hs1]
    subst hme
    rw [selfE_at rfl hk hs1]
  · rw [attrsE_end hk, decide_eq_false hk, Bool.and_false]
theorem AttrsAtR.next {s : ByteArray} {m ve : Nat} {l : List AttrB} {R : List AttrB × Bool} (h : AttrsAtR s m l ve R) (hm : m < s.size) :
    AttrsAtR s (runE skipU s (plE false s m).2.2.2) (l ++ [attrPl s m (plE false s m)]) (plE false s m).2.2.1 R ∧ m < runE skipU s (plE false s m).2.2.2 := by
  have hp := plE_le (angle := false) hm
  have hr := runE_le (p := skipU) (s := s) (k := (plE false s m).2.2.2) (by omega)
  refine ⟨?_, by omega⟩
  obtain ⟨k, h1, h2, h3, _⟩ := h
  obtain ⟨h5, h6⟩ := attr_pl h2 hm
  have hk : k < s.size := by
    have := runE_le (p := skipU) h1
    omega
  refine ⟨(plE false s m).2.2.2, by omega, rfl, ?_, h6⟩
  rw [h3, attrsE_goes hk h2 hm, h5]
  unfold firstA
  rw [List.foldl_append]
  rfl
theorem attrPl_name {s : ByteArray} {m : Nat} (hm : m < s.size) : (attrPl s m (plE false s m)).1.toList ≠ [] := by
  have hp := plE_le (angle := false) hm
  intro h
  have h2 := congrArg List.length h
  have h3 : (smallS (s.extract m (plE false s m).1)).toList.length = 0 := h2
  rw [ByteArray.toList_eq, Array.length_toList] at h3
  have h4 : (smallS (s.extract m (plE false s m).1)).size = 0 := h3
  rw [smallS_size, ByteArray.size_extract] at h4
  omega

end Go.Proofs.YtlaidaghmhmgbaaDoor.Sg
