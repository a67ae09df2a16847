/- A text that is escaped is read as it was, up to its end; a note, likewise. Plain. No program in it. -/
import Derived.Test.YthikgkhnhbaccaaDoorXmBack
namespace Go.Proofs.YthikgkhnhbaccaaDoor.Sg

theorem stands_third {pre l : List UInt8} (h : standsB (strB (pre ++ l)) pre.length closeB = true) : l[2]? = some 62 := by
  rw [show closeB = strB [93, 93, 62] from rfl, stands_pre, List.isPrefixOf_iff_prefix] at h
  obtain ⟨r, rfl⟩ := h
  rfl
theorem textB_byte {z : Int} (h : textB z = true) (h1 : z ≤ 127) : 0 ≤ z := by
  have := okB_of (textB_ok h)
  omega
theorem low_byte {z : Int} {n : Nat} (h0 : 0 ≤ z) (h1 : z ≤ 127) (hn : n < 128) (h : UInt8.ofNat z.toNat = UInt8.ofNat n) : z = n := by
  have h2 := congrArg UInt8.toNat h
  rw [u8_of z h0 (by omega)] at h2
  have h3 : (UInt8.ofNat n).toNat = n := by simp; omega
  omega

/-- A text that is escaped is read as it was, up to the first byte behind it. -/
theorem text_back (v : Bool) (e : List UInt8) (he : e = [60] ∨ (e = [34] ∧ v = true)) (c : UInt8) (hc : c ∈ e) (tl : List UInt8) (htl : ∀ b ∈ c :: tl, b ≠ 62) :
    ∀ (zs : List Int) (pre : List UInt8), (∀ z ∈ zs, textB z = true) → xtextR (strB (pre ++ (escL v (sgBytes zs) ++ c :: tl))) e pre.length = some (sgBytes zs, pre.length + (escL v (sgBytes zs)).length) := by
  have h38 : e.contains (38 : UInt8) = false := by rcases he with rfl | ⟨rfl, _⟩ <;> rfl
  have hce : e.contains c = true := by rw [List.contains_iff_mem]; exact hc
  intro zs
  induction zs with
  | nil =>
    intro pre _
    rw [sgBytes_nil, escL_nil, List.nil_append]
    obtain ⟨hk, ea⟩ := at_list (l := pre ++ c :: tl) (k := pre.length) (b := c) (by
      simp)
    rw [xtextR_stop hk (by rw [ea]; exact hce)]
    rfl
  | cons z zs ih =>
    intro pre hz
    have hz1 := hz z List.mem_cons_self
    have ih2 := fun p => ih p fun y hy => hz y (List.mem_cons_of_mem _ hy)
    rw [sgBytes_cons, escL_append, List.append_assoc, List.length_append]
    by_cases hw : z ≤ 127 ∧ UInt8.ofNat z.toNat ∈ escW v
    · have h0 := textB_byte hz1 hw.1
      rw [putS_one h0 hw.1, escL_one, swap_in v _ hw.2]
      generalize UInt8.ofNat z.toNat = b at *
      obtain ⟨hk, ea⟩ := at_list (l := pre ++ (entOf b ++ (escL v (sgBytes zs) ++ c :: tl))) (k := pre.length) (b := 38) (by
        have := get_mid pre (entOf b ++ (escL v (sgBytes zs) ++ c :: tl)) 0
        rw [Nat.add_zero] at this
        rw [this]
        have hh : ∀ v, ∀ b ∈ escW v, (entOf b).head? = some 38 := by decide
        have h2 := hh v b hw.2
        cases hb : entOf b with
        | nil => rw [hb] at h2; cases h2
        | cons x l =>
          rw [hb] at h2
          simpa using h2)
      rw [xtextR_ref hk (by rw [ea]; exact h38) ea (ref_ent v b hw.2 pre _)]
      have h := ih2 (pre ++ entOf b)
      rw [List.append_assoc, List.length_append] at h
      rw [h]
      simp [strB]
      omega
    · have hes : escL v (putS z).data.toList = (putS z).data.toList := by
        apply escL_same
        intro b hb hm
        by_cases h1 : z ≤ 127
        · rw [putS_one (textB_byte hz1 h1) h1, List.mem_singleton] at hb
          exact hw ⟨h1, hb ▸ hm⟩
        · have := putS_high (textB_ok hz1) (by omega) b hb
          have hl : ∀ v, ∀ b ∈ escW v, b.toNat < 128 := by decide
          have := hl v b hm
          omega
      rw [hes]
      have hps := putS_size z
      have hlen : (putS z).data.toList.length = (putS z).size := Array.length_toList
      obtain ⟨b, r, hbr⟩ : ∃ b r, (putS z).data.toList = b :: r := by
        cases hp : (putS z).data.toList with
        | nil =>
          rw [hp] at hlen
          simp at hlen
          omega
        | cons b r => exact ⟨b, r, rfl⟩
      have hbw : b ∉ escW v := by
        intro hm
        by_cases h1 : z ≤ 127
        · rw [putS_one (textB_byte hz1 h1) h1] at hbr
          injection hbr with h2 _
          exact hw ⟨h1, h2 ▸ hm⟩
        · have := putS_high (textB_ok hz1) (by omega) b (by rw [hbr]; exact List.mem_cons_self)
          have hl : ∀ v, ∀ b ∈ escW v, b.toNat < 128 := by decide
          have := hl v b hm
          omega
      have hbe : e.contains b = false := by
        rcases he with rfl | ⟨rfl, rfl⟩
        · cases h : List.contains [60] b with
          | false => rfl
          | true =>
            rw [List.contains_iff_mem, List.mem_singleton] at h
            subst h
            cases v <;> exact absurd (by decide) hbw
        · cases h : List.contains [34] b with
          | false => rfl
          | true =>
            rw [List.contains_iff_mem, List.mem_singleton] at h
            subst h
            exact absurd (by decide) hbw
      have hb38 : ¬ b = 38 := by
        rintro rfl
        cases v <;> exact absurd (by decide) hbw
      have hz13 : z ≠ 13 := by
        rintro rfl
        exact hw ⟨by decide, by cases v <;> decide⟩
      have hz60 : z ≠ 60 := by
        rintro rfl
        exact hw ⟨by decide, by cases v <;> decide⟩
      generalize hL : escL v (sgBytes zs) ++ c :: tl = L at *
      have hfree : ∀ x ∈ (putS z).data.toList ++ L, x ≠ 62 := by
        intro x hx
        rw [List.mem_append] at hx
        rcases hx with hx | hx
        · have := (escL_free v (putS z).data.toList x (by rw [hes]; exact hx)).2.1
          exact this
        · rw [← hL, List.mem_append] at hx
          rcases hx with hx | hx
          · exact (escL_free v _ x hx).2.1
          · exact htl x hx
      have hg := getS_put z (textB_ok hz1) pre L
      have hzn : ((z.toNat : Nat) : Int) = z := by have := okB_of (textB_ok hz1); omega
      obtain ⟨hk, ea⟩ := at_list (l := pre ++ ((putS z).data.toList ++ L)) (k := pre.length) (b := b) (by
        have := get_mid pre ((putS z).data.toList ++ L) 0
        rw [Nat.add_zero] at this
        rw [this, hbr]
        rfl)
      have hext : ((strB (pre ++ ((putS z).data.toList ++ L))).extract pre.length (pre.length + (putS z).size)).data.toList = (putS z).data.toList := by
        rw [← hlen]
        exact extract_mid pre _ L
      have hg' : getS (strB (pre ++ ((putS z).data.toList ++ L))) pre.length = (z.toNat, (putS z).size) := hg
      have hsg : xsignB (strB (pre ++ ((putS z).data.toList ++ L))) pre.length = true := by
        unfold xsignB asRead
        rw [hg', hzn, hz1, decide_eq_true (show z.toNat ≠ 13 by omega), decide_eq_true (show z.toNat ≠ 60 by omega)]
        have h1 : ((putS z).toList == ((strB (pre ++ ((putS z).data.toList ++ L))).extract pre.length (pre.length + (putS z).size)).toList) = true := by
          rw [ByteArray.toList_eq, ByteArray.toList_eq, hext]
          simp
        have h2 : standsB (strB (pre ++ ((putS z).data.toList ++ L))) pre.length closeB = false := by
          cases h : standsB (strB (pre ++ ((putS z).data.toList ++ L))) pre.length closeB with
          | false => rfl
          | true =>
            have h3 := stands_third h
            exact absurd rfl (hfree 62 (List.mem_of_getElem? h3))
        rw [h1, h2]
        rfl
      rw [xtextR_sign hk (by rw [ea]; exact hbe) (by rw [ea]; exact hb38) hsg, hg']
      show Option.map (fun r => (((strB (pre ++ ((putS z).data.toList ++ L))).extract pre.length (pre.length + (putS z).size)).data.toList ++ r.1, r.2)) (xtextR _ e (pre.length + (putS z).size)) = _
      rw [hext]
      have h := ih2 (pre ++ (putS z).data.toList)
      rw [List.append_assoc, List.length_append, hlen] at h
      rw [h]
      simp
      omega

end Go.Proofs.YthikgkhnhbaccaaDoor.Sg
