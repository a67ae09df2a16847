/- What is escaped is read as it was, plain. No program in it. -/
import Derived.Test.YtbmmghkieolpkaaGreatDoorMR2306
import Derived.Test.YtbmmghkieolpkaaGreatDoorXmEscP
namespace Go.Proofs.YtbmmghkieolpkaaGreatDoor.Sg

/-- A text's byte, by its bytes. -/
theorem at_list {l : List UInt8} {k : Nat} {b : UInt8} (h : l[k]? = some b) : ∃ hk : k < (strB l).size, (strB l)[k]'hk = b := by
  have hk : k < l.length := (List.getElem?_eq_some_iff.1 h).1
  refine ⟨by rw [strB_size]; exact hk, ?_⟩
  have h2 := (List.getElem?_eq_some_iff.1 h).2
  exact h2
theorem get_mid (pre l : List UInt8) (j : Nat) : (pre ++ l)[pre.length + j]? = l[j]? := by
  rw [List.getElem?_append_right (by omega), show pre.length + j - pre.length = j by omega]
theorem extract_mid (pre m post : List UInt8) : ((strB (pre ++ (m ++ post))).extract pre.length (pre.length + m.length)).data.toList = m := by
  rw [ByteArray.data_extract, Array.toList_extract]
  simp [strB]
/-- A text stands where its bytes come next. -/
theorem stands_pre (pre l t : List UInt8) : standsB (strB (pre ++ l)) pre.length (strB t) = t.isPrefixOf l := by
  unfold standsB
  rw [strB_size, strB_size, List.length_append, ByteArray.toList_eq, ByteArray.toList_eq]
  have e1 : (strB t).data.toList = t := by simp [strB]
  have e2 : ((strB (pre ++ l)).extract pre.length (pre.length + t.length)).data.toList = l.take t.length := by
    rw [ByteArray.data_extract, Array.toList_extract]
    simp [strB]
  rw [e1, e2]
  by_cases h : t <+: l
  · rw [List.isPrefixOf_iff_prefix.2 h]
    have := h.length_le
    have e := List.prefix_iff_eq_take.1 h
    rw [decide_eq_true (by omega), ← e]
    simp
  · have h2 : t.isPrefixOf l = false := by
      cases hc : t.isPrefixOf l with
      | false => rfl
      | true => exact absurd (List.isPrefixOf_iff_prefix.1 hc) h
    rw [h2, Bool.and_eq_false_iff]
    right
    rw [beq_eq_false_iff_ne]
    intro e
    exact h (List.prefix_iff_eq_take.2 e.symm)

/-- Digits up to a semicolon. -/
theorem xdig_list (ds : List UInt8) : ∀ (pre rest : List UInt8) (f n : Nat), ds.length ≤ f → (∀ d ∈ ds, 48 ≤ d.toNat ∧ d.toNat ≤ 57) →
    xdigR (strB (pre ++ (ds ++ 59 :: rest))) f pre.length n = (ds.foldl (fun n d => 10 * n + (d.toNat - 48)) n, pre.length + ds.length) := by
  induction ds with
  | nil =>
    intro pre rest f n hf hd
    obtain ⟨hk, e⟩ := at_list (l := pre ++ ([] ++ 59 :: rest)) (k := pre.length) (b := 59) (by
      simp)
    exact xdigR_stop hk (by rw [e]; decide)
  | cons d ds ih =>
    intro pre rest f n hf hd
    obtain ⟨g, rfl⟩ : ∃ g, f = g + 1 := ⟨f - 1, by simp at hf; omega⟩
    obtain ⟨hk, e⟩ := at_list (l := pre ++ (d :: ds ++ 59 :: rest)) (k := pre.length) (b := d) (by
      simp)
    rw [xdigR_go hk (by rw [e]; exact hd d List.mem_cons_self), e]
    have h := ih (pre ++ [d]) rest g (10 * n + (d.toNat - 48)) (by simp at hf; omega) fun x hx => hd x (List.mem_cons_of_mem _ hx)
    rw [List.length_append, List.length_singleton, List.append_assoc] at h
    rw [show pre ++ (d :: ds ++ 59 :: rest) = pre ++ ([d] ++ (ds ++ 59 :: rest)) by simp, h]
    simp [List.foldl_cons]
    omega
theorem xnum_list (pre rest ds : List UInt8) (h0 : ds ≠ []) (h7 : ds.length ≤ 7) (hd : ∀ d ∈ ds, 48 ≤ d.toNat ∧ d.toNat ≤ 57) (hn : ds.head? ≠ some 48) (ht : textB ((ds.foldl (fun n d => 10 * n + (d.toNat - 48)) 0 : Nat) : Int) = true) :
    xnumR (strB (pre ++ (38 :: 35 :: (ds ++ 59 :: rest)))) pre.length = some (ds.foldl (fun n d => 10 * n + (d.toNat - 48)) 0, pre.length + 2 + ds.length) := by
  have e0 : pre ++ (38 :: 35 :: (ds ++ 59 :: rest)) = (pre ++ [38, 35]) ++ (ds ++ 59 :: rest) := by simp
  have hx := xdig_list ds (pre ++ [38, 35]) rest 7 0 h7 hd
  rw [List.length_append, show ([38, 35] : List UInt8).length = 2 from rfl] at hx
  rw [e0]
  unfold xnumR
  simp only
  rw [hx]
  have hl : ds.length ≠ 0 := by
    intro h
    exact h0 (List.eq_nil_of_length_eq_zero h)
  rw [if_neg]
  rintro (h | h | h | h | h)
  · simp only at h
    omega
  · have : bN (strB ((pre ++ [38, 35]) ++ (ds ++ 59 :: rest))) (pre.length + 2) = (ds.getD 0 0).toNat := by
      have := bN_mid (pre ++ [38, 35]) ds (59 :: rest) 0 (by omega)
      rw [List.length_append, show ([38, 35] : List UInt8).length = 2 from rfl] at this
      exact this
    rw [this] at h
    cases ds with
    | nil => exact h0 rfl
    | cons d ds =>
      have : d = 48 := UInt8.toNat_inj.1 h
      exact hn (by rw [this]; rfl)
  · apply h
    simp only
    rw [strB_size]
    simp
    omega
  · apply h
    have := bN_mid (pre ++ [38, 35] ++ ds) [59] rest 0 (by simp)
    rw [List.length_append, List.length_append, show ([38, 35] : List UInt8).length = 2 from rfl, List.append_assoc (pre ++ [38, 35])] at this
    exact this
  · rw [ht] at h
    cases h

/-- The byte that is escaped, and what stands in its place. -/
def entOf (b : UInt8) : List UInt8 := if b = 38 then [38, 97, 109, 112, 59] else if b = 60 then [38, 108, 116, 59] else if b = 62 then [38, 103, 116, 59] else if b = 13 then [38, 35, 49, 51, 59] else if b = 34 then [38, 113, 117, 111, 116, 59] else if b = 9 then [38, 35, 57, 59] else [38, 35, 49, 48, 59]
theorem swap_in (v : Bool) (b : UInt8) (h : b ∈ escW v) : swap1 (escW v) (escT v) b = entOf b := by
  have : ∀ v, ∀ b ∈ escW v, swap1 (escW v) (escT v) b = entOf b := by decide
  exact this v b h
theorem swap_out (v : Bool) (b : UInt8) (h : b ∉ escW v) : swap1 (escW v) (escT v) b = [b] := by
  have key : ∀ (l : List UInt8), b ∉ l → findL b l = none := by
    intro l
    induction l with
    | nil => intro _; rfl
    | cons x l ih =>
      intro hn
      show (if x = b then some 0 else Option.map (· + 1) (findL b l)) = none
      rw [if_neg (fun e => hn (by rw [e]; exact List.mem_cons_self)), ih (fun hm => hn (List.mem_cons_of_mem _ hm))]
      rfl
  unfold swap1
  rw [key _ h]
theorem escL_nil (v : Bool) : escL v [] = [] := rfl
theorem escL_append (v : Bool) (a b : List UInt8) : escL v (a ++ b) = escL v a ++ escL v b := by unfold escL swapL; rw [List.flatMap_append]
theorem escL_one (v : Bool) (b : UInt8) : escL v [b] = swap1 (escW v) (escT v) b := by unfold escL swapL; simp
theorem escL_same (v : Bool) : ∀ (l : List UInt8), (∀ b ∈ l, b ∉ escW v) → escL v l = l
  | [], _ => rfl
  | b :: l, h => by
    rw [show b :: l = [b] ++ l from rfl, escL_append, escL_one, swap_out v b (h b List.mem_cons_self), escL_same v l fun x hx => h x (List.mem_cons_of_mem _ hx)]
/-- What was escaped has no byte 60, 62, and in a value no 34. -/
theorem escL_free (v : Bool) (l : List UInt8) : ∀ b ∈ escL v l, b ≠ 60 ∧ b ≠ 62 ∧ (v = true → b ≠ 34) := by
  have one : ∀ (v : Bool) (x b : UInt8), b ∈ swap1 (escW v) (escT v) x → b ≠ 60 ∧ b ≠ 62 ∧ (v = true → b ≠ 34) := by
    intro v x b hb
    by_cases h : x ∈ escW v
    · rw [swap_in v x h] at hb
      have : ∀ v, ∀ x ∈ escW v, ∀ b ∈ entOf x, b ≠ 60 ∧ b ≠ 62 ∧ (v = true → b ≠ 34) := by decide
      exact this v x h b hb
    · rw [swap_out v x h, List.mem_singleton] at hb
      subst hb
      refine ⟨?_, ?_, ?_⟩
      · rintro rfl
        cases v <;> exact h (by decide)
      · rintro rfl
        cases v <;> exact h (by decide)
      · rintro rfl rfl
        exact h (by decide)
  intro b hb
  unfold escL swapL at hb
  rw [List.mem_flatMap] at hb
  obtain ⟨x, _, hx⟩ := hb
  exact one v x b hx
theorem putS_z {z : Int} (h0 : 0 ≤ z) (h1 : z ≤ 127) : putS z = strB [UInt8.ofNat z.toNat] := by
  apply ByteArray.ext
  apply Array.toList_inj.1
  rw [putS_one h0 h1]
  simp [strB]
/-- A byte's reference is read as the byte. -/
theorem ref_ent (v : Bool) (b : UInt8) (hb : b ∈ escW v) (pre rest : List UInt8) : xrefR (strB (pre ++ (entOf b ++ rest))) pre.length = some (strB [b], pre.length + (entOf b).length) := by
  have hc : b = 38 ∨ b = 60 ∨ b = 62 ∨ b = 13 ∨ b = 34 ∨ b = 9 ∨ b = 10 := by
    have : ∀ v, ∀ b ∈ escW v, b = 38 ∨ b = 60 ∨ b = 62 ∨ b = 13 ∨ b = 34 ∨ b = 9 ∨ b = 10 := by decide
    exact this v b hb
  have S : ∀ l, standsB (strB (pre ++ l)) pre.length ampB = List.isPrefixOf [38, 97, 109, 112, 59] l ∧ standsB (strB (pre ++ l)) pre.length ltB = List.isPrefixOf [38, 108, 116, 59] l ∧ standsB (strB (pre ++ l)) pre.length gtB = List.isPrefixOf [38, 103, 116, 59] l ∧ standsB (strB (pre ++ l)) pre.length quotB = List.isPrefixOf [38, 113, 117, 111, 116, 59] l ∧ standsB (strB (pre ++ l)) pre.length aposB = List.isPrefixOf [38, 97, 112, 111, 115, 59] l ∧ standsB (strB (pre ++ l)) pre.length hashB = List.isPrefixOf [38, 35] l :=
    fun l => ⟨stands_pre pre l _, stands_pre pre l _, stands_pre pre l _, stands_pre pre l _, stands_pre pre l _, stands_pre pre l _⟩
  unfold xrefR
  obtain ⟨s1, s2, s3, s4, s5, s6⟩ := S (entOf b ++ rest)
  rw [s1, s2, s3, s4, s5, s6]
  rcases hc with rfl | rfl | rfl | rfl | rfl | rfl | rfl
  · rfl
  · rfl
  · rfl
  · have h := xnum_list pre rest [49, 51] (by simp) (by decide) (by decide) (by decide) (by decide)
    show Option.map _ (xnumR (strB (pre ++ (38 :: 35 :: ([49, 51] ++ 59 :: rest)))) pre.length) = _
    rw [h]
    show some (putS 13, _) = _
    rw [putS_z (by decide) (by decide)]
    rfl
  · rfl
  · have h := xnum_list pre rest [57] (by simp) (by decide) (by decide) (by decide) (by decide)
    show Option.map _ (xnumR (strB (pre ++ (38 :: 35 :: ([57] ++ 59 :: rest)))) pre.length) = _
    rw [h]
    show some (putS 9, _) = _
    rw [putS_z (by decide) (by decide)]
    rfl
  · have h := xnum_list pre rest [49, 48] (by simp) (by decide) (by decide) (by decide) (by decide)
    show Option.map _ (xnumR (strB (pre ++ (38 :: 35 :: ([49, 48] ++ 59 :: rest)))) pre.length) = _
    rw [h]
    show some (putS 10, _) = _
    rw [putS_z (by decide) (by decide)]
    rfl

end Go.Proofs.YtbmmghkieolpkaaGreatDoor.Sg
