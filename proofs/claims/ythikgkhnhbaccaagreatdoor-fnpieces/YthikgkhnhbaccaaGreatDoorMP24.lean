/- A text that is escaped is read as it was, up to its end; a note, likewise. Plain. No program in it. An attribute whose value is escaped, and a note, are read as they were. Plain. No program in it. The cursor from which the laws draw: what its steps tell, and that they change nothing but the cursor. -/
import Derived.Test.YthikgkhnhbaccaaGreatDoorMP26
import Derived.Test.YthikgkhnhbaccaaGreatDoorSgOk
import Derived.Laws.Bits128
import Derived.Below
import Derived.OwnWalk
import Derived.BigQuiet
import Derived.Deep.QuietTactic
import Derived.WalkSmall
namespace Go.Proofs.YthikgkhnhbaccaaGreatDoor.Sg

theorem stands_third {pre l : List UInt8} (h : standsB (strB (pre ++ l)) pre.length closeB = true) : l[2]? = some 62 := by
  rw [show closeB = strB [93, 93, 62] from rfl, stands_pre, List.isPrefixOf_iff_prefix] at h
  obtain ⟨r, rfl⟩ := h
  rfl
theorem textB_byte {z : Int} (h : textB z = true) (h1 : z ≤ 127) : 0 ≤ z := by
  have := okB_of (textB_ok h)
  omega
theorem low_byte {z : Int} {n : Nat} (h0 : 0 ≤ z) (h1 : z ≤ 127) (hn : n < 128) (h : UInt8.ofNat z.toNat = UInt8.ofNat n) : z = n := by
  have h2 := congrArg UInt8.toNat h
  rw [u8_of z h0 (by omega)] at h2
  have h3 : (UInt8.ofNat n).toNat = n := by simp; omega
  omega

/-- A text that is escaped is read as it was, up to the first byte behind it. -/
theorem text_back (v : Bool) (e : List UInt8) (he : e = [60] ∨ (e = [34] ∧ v = true)) (c : UInt8) (hc : c ∈ e) (tl : List UInt8) (htl : ∀ b ∈ c :: tl, b ≠ 62) :
    ∀ (zs : List Int) (pre : List UInt8), (∀ z ∈ zs, textB z = true) → xtextR (strB (pre ++ (escL v (sgBytes zs) ++ c :: tl))) e pre.length = some (sgBytes zs, pre.length + (escL v (sgBytes zs)).length) := by
  have h38 : e.contains (38 : UInt8) = false := by rcases he with rfl | ⟨rfl, _⟩ <;> rfl
  have hce : e.contains c = true := by rw [List.contains_iff_mem]; exact hc
  intro zs
  induction zs with
  | nil =>
    intro pre _
    rw [sgBytes_nil, escL_nil, List.nil_append]
    obtain ⟨hk, ea⟩ := at_list (l := pre ++ c :: tl) (k := pre.length) (b := c) (by
      simp)
    rw [xtextR_stop hk (by rw [ea]; exact hce)]
    rfl
  | cons z zs ih =>
    intro pre hz
    have hz1 := hz z List.mem_cons_self
    have ih2 := fun p => ih p fun y hy => hz y (List.mem_cons_of_mem _ hy)
    rw [sgBytes_cons, escL_append, List.append_assoc, List.length_append]
    by_cases hw : z ≤ 127 ∧ UInt8.ofNat z.toNat ∈ escW v
    · have h0 := textB_byte hz1 hw.1
      rw [putS_one h0 hw.1, escL_one, swap_in v _ hw.2]
      generalize UInt8.ofNat z.toNat = b at *
      obtain ⟨hk, ea⟩ := at_list (l := pre ++ (entOf b ++ (escL v (sgBytes zs) ++ c :: tl))) (k := pre.length) (b := 38) (by
        have := get_mid pre (entOf b ++ (escL v (sgBytes zs) ++ c :: tl)) 0
        rw [Nat.add_zero] at this
        rw [this]
        have hh : ∀ v, ∀ b ∈ escW v, (entOf b).head? = some 38 := by decide
        have h2 := hh v b hw.2
        cases hb : entOf b with
        | nil => rw [hb] at h2; cases h2
        | cons x l =>
          rw [hb] at h2
          simpa using h2)
      rw [xtextR_ref hk (by rw [ea]; exact h38) ea (ref_ent v b hw.2 pre _)]
      have h := ih2 (pre ++ entOf b)
      rw [List.append_assoc, List.length_append] at h
      rw [h]
      simp [strB]
      omega
    · have hes : escL v (putS z).data.toList = (putS z).data.toList := by
        apply escL_same
        intro b hb hm
        by_cases h1 : z ≤ 127
        · rw [putS_one (textB_byte hz1 h1) h1, List.mem_singleton] at hb
          exact hw ⟨h1, hb ▸ hm⟩
        · have := putS_high (textB_ok hz1) (by omega) b hb
          have hl : ∀ v, ∀ b ∈ escW v, b.toNat < 128 := by decide
          have := hl v b hm
          omega
      rw [hes]
      have hps := putS_size z
      have hlen : (putS z).data.toList.length = (putS z).size := Array.length_toList
      obtain ⟨b, r, hbr⟩ : ∃ b r, (putS z).data.toList = b :: r := by
        cases hp : (putS z).data.toList with
        | nil =>
          rw [hp] at hlen
          simp at hlen
          omega
        | cons b r => exact ⟨b, r, rfl⟩
      have hbw : b ∉ escW v := by
        intro hm
        by_cases h1 : z ≤ 127
        · rw [putS_one (textB_byte hz1 h1) h1] at hbr
          injection hbr with h2 _
          exact hw ⟨h1, h2 ▸ hm⟩
        · have := putS_high (textB_ok hz1) (by omega) b (by rw [hbr]; exact List.mem_cons_self)
          have hl : ∀ v, ∀ b ∈ escW v, b.toNat < 128 := by decide
          have := hl v b hm
          omega
      have hbe : e.contains b = false := by
        rcases he with rfl | ⟨rfl, rfl⟩
        · cases h : List.contains [60] b with
          | false => rfl
          | true =>
            rw [List.contains_iff_mem, List.mem_singleton] at h
            subst h
            cases v <;> exact absurd (by decide) hbw
        · cases h : List.contains [34] b with
          | false => rfl
          | true =>
            rw [List.contains_iff_mem, List.mem_singleton] at h
            subst h
            exact absurd (by decide) hbw
      have hb38 : ¬ b = 38 := by
        rintro rfl
        cases v <;> exact absurd (by decide) hbw
      have hz13 : z ≠ 13 := by
        rintro rfl
        exact hw ⟨by decide, by cases v <;> decide⟩
      have hz60 : z ≠ 60 := by
        rintro rfl
        exact hw ⟨by decide, by cases v <;> decide⟩
      generalize hL : escL v (sgBytes zs) ++ c :: tl = L at *
      have hfree : ∀ x ∈ (putS z).data.toList ++ L, x ≠ 62 := by
        intro x hx
        rw [List.mem_append] at hx
        rcases hx with hx | hx
        · have := (escL_free v (putS z).data.toList x (by rw [hes]; exact hx)).2.1
          exact this
        · rw [← hL, List.mem_append] at hx
          rcases hx with hx | hx
          · exact (escL_free v _ x hx).2.1
          · exact htl x hx
      have hg := getS_put z (textB_ok hz1) pre L
      have hzn : ((z.toNat : Nat) : Int) = z := by have := okB_of (textB_ok hz1); omega
      obtain ⟨hk, ea⟩ := at_list (l := pre ++ ((putS z).data.toList ++ L)) (k := pre.length) (b := b) (by
        have := get_mid pre ((putS z).data.toList ++ L) 0
        rw [Nat.add_zero] at this
        rw [this, hbr]
        rfl)
      have hext : ((strB (pre ++ ((putS z).data.toList ++ L))).extract pre.length (pre.length + (putS z).size)).data.toList = (putS z).data.toList := by
        rw [← hlen]
        exact extract_mid pre _ L
      have hg' : getS (strB (pre ++ ((putS z).data.toList ++ L))) pre.length = (z.toNat, (putS z).size) := hg
      have hsg : xsignB (strB (pre ++ ((putS z).data.toList ++ L))) pre.length = true := by
        unfold xsignB asRead
        rw [hg', hzn, hz1, decide_eq_true (show z.toNat ≠ 13 by omega), decide_eq_true (show z.toNat ≠ 60 by omega)]
        have h1 : ((putS z).toList == ((strB (pre ++ ((putS z).data.toList ++ L))).extract pre.length (pre.length + (putS z).size)).toList) = true := by
          rw [ByteArray.toList_eq, ByteArray.toList_eq, hext]
          simp
        have h2 : standsB (strB (pre ++ ((putS z).data.toList ++ L))) pre.length closeB = false := by
          cases h : standsB (strB (pre ++ ((putS z).data.toList ++ L))) pre.length closeB with
          | false => rfl
          | true =>
            have h3 := stands_third h
            exact absurd rfl (hfree 62 (List.mem_of_getElem? h3))
        rw [h1, h2]
        rfl
      rw [xtextR_sign hk (by rw [ea]; exact hbe) (by rw [ea]; exact hb38) hsg, hg']
      show Option.map (fun r => (((strB (pre ++ ((putS z).data.toList ++ L))).extract pre.length (pre.length + (putS z).size)).data.toList ++ r.1, r.2)) (xtextR _ e (pre.length + (putS z).size)) = _
      rw [hext]
      have h := ih2 (pre ++ (putS z).data.toList)
      rw [List.append_assoc, List.length_append, hlen] at h
      rw [h]
      simp
      omega

end Go.Proofs.YthikgkhnhbaccaaGreatDoor.Sg

namespace Go.Proofs.YthikgkhnhbaccaaGreatDoor.Sg

theorem escL_ten (l : List UInt8) : ∀ b ∈ escL true l, b ≠ 9 ∧ b ≠ 10 := by
  intro b hb
  unfold escL swapL at hb
  rw [List.mem_flatMap] at hb
  obtain ⟨x, _, hx⟩ := hb
  by_cases h : x ∈ escW true
  · rw [swap_in true x h] at hx
    have : ∀ x ∈ escW true, ∀ b ∈ entOf x, b ≠ 9 ∧ b ≠ 10 := by decide
    exact this x h b hx
  · rw [swap_out true x h, List.mem_singleton] at hx
    subst hx
    refine ⟨?_, ?_⟩ <;> (rintro rfl; exact h (by decide))
/-- What is a strict text is its signs. -/
theorem text_signs_of {s : ByteArray} (h : stTextB s = true) : (∀ z ∈ signsL s, textB z = true) ∧ sgBytes (signsL s) = s.data.toList := by
  unfold stTextB at h
  rw [Bool.and_eq_true, List.all_eq_true] at h
  refine ⟨h.1, ?_⟩
  have := clean_eq h.2
  have e : (textS (signsL s)).data.toList = sgBytes (signsL s) := by simp [textS]
  rw [← e, this]
/-- A strict text that is escaped is read as it was. -/
theorem text_again {s : ByteArray} (h : stTextB s = true) (v : Bool) : xtextR (escS s v ++ ⟨#[60]⟩) [60] 0 = some (s.data.toList, (escS s v).size) := by
  obtain ⟨h1, h2⟩ := text_signs_of h
  have hb := text_back v [60] (.inl rfl) 60 (by simp) [] (by decide) (signsL s) [] h1
  rw [h2] at hb
  have e : escS s v ++ ⟨#[60]⟩ = strB ([] ++ (escL v s.data.toList ++ 60 :: [])) := by
    apply ByteArray.ext
    apply Array.toList_inj.1
    rw [ByteArray.data_append, Array.toList_append]
    simp [escS, strB]
  have hsz : (escS s v).size = (escL v s.data.toList).length := strB_size _
  rw [e, hsz]
  simpa using hb
def kB : ByteArray := ⟨#[107, 61, 34]⟩
def quB : ByteArray := ⟨#[34, 32]⟩
/-- A strict value in an attribute is read as it was. -/
theorem attr_again {s : ByteArray} (h : stTextB s = true) : xattrR ((kB ++ escS s true) ++ quB) 0 = some (1, s.data.toList, (escS s true).size + 3) := by
  obtain ⟨h1, h2⟩ := text_signs_of h
  have hb := text_back true [34] (.inr ⟨rfl, rfl⟩) 34 (by simp) [32] (by decide) (signsL s) [107, 61, 34] h1
  rw [h2] at hb
  have hsz : (escS s true).size = (escL true s.data.toList).length := strB_size _
  have e : (kB ++ escS s true) ++ quB = strB ([107, 61, 34] ++ (escL true s.data.toList ++ 34 :: [32])) := by
    apply ByteArray.ext
    apply Array.toList_inj.1
    rw [ByteArray.data_append, Array.toList_append, ByteArray.data_append, Array.toList_append]
    simp [escS, strB, kB, quB]
  rw [e]
  have hfree := escL_ten s.data.toList
  generalize hL : escL true s.data.toList = L at *
  have hS : strB ([107, 61, 34] ++ (L ++ 34 :: [32])) = strB ([] ++ ((putS 107).data.toList ++ (61 :: 34 :: (L ++ 34 :: [32])))) := by
    rw [putS_one (by decide) (by decide)]
    rfl
  have g0 : getS (strB ([107, 61, 34] ++ (L ++ 34 :: [32]))) 0 = (107, 1) := by
    rw [hS]
    have := getS_put 107 (by decide) [] (61 :: 34 :: (L ++ 34 :: [32]))
    rw [putS_z (by decide) (by decide)] at this ⊢
    exact this
  have hS1 : strB ([107, 61, 34] ++ (L ++ 34 :: [32])) = strB ([107] ++ ((putS 61).data.toList ++ (34 :: (L ++ 34 :: [32])))) := by
    rw [putS_one (by decide) (by decide)]
    rfl
  have g1 : getS (strB ([107, 61, 34] ++ (L ++ 34 :: [32]))) 1 = (61, 1) := by
    rw [hS1]
    have := getS_put 61 (by decide) [107] (34 :: (L ++ 34 :: [32]))
    rw [putS_z (by decide) (by decide)] at this ⊢
    exact this
  have hsize : (strB ([107, 61, 34] ++ (L ++ 34 :: [32]))).size = L.length + 5 := by
    rw [strB_size]
    simp
  have n0 : xnameE (strB ([107, 61, 34] ++ (L ++ 34 :: [32]))) true 0 = 1 := by
    rw [xnameE_go (by rw [hsize]; omega) ?_, g0]
    · show xnameE _ false 1 = 1
      rw [xnameE_stop (by rw [hsize]; omega)]
      rw [g1]
      have : stayB false (61 : Int) = false := by decide
      show (stayB false (61 : Int) && _) = false
      rw [this]
      rfl
    · rw [g0]
      have a : stayB true (107 : Int) = true := by decide
      show (stayB true (107 : Int) && _) = true
      rw [a, Bool.true_and]
      unfold asRead
      rw [g0]
      show ((putS ((107 : Nat) : Int)).toList == ((strB ([107, 61, 34] ++ (L ++ 34 :: [32]))).extract 0 (0 + 1)).toList) = true
      have hx0 : ((strB ([107, 61, 34] ++ (L ++ 34 :: [32]))).extract 0 (0 + 1)).data.toList = [107] := extract_mid [] [107] (61 :: 34 :: (L ++ 34 :: [32]))
      rw [show ((107 : Nat) : Int) = 107 from rfl, ByteArray.toList_eq, ByteArray.toList_eq, putS_one (by decide) (by decide), hx0]
      rfl
  have st : standsB (strB ([107, 61, 34] ++ (L ++ 34 :: [32]))) 1 eqB = true := by
    have := stands_pre [107] (61 :: 34 :: (L ++ 34 :: [32])) [61, 34]
    exact this
  unfold xattrR
  simp only
  rw [n0, if_neg (by rw [st]; simp)]
  have hb2 : xtextR (strB ([107, 61, 34] ++ (L ++ 34 :: [32]))) [34] (1 + 2) = some (s.data.toList, 3 + L.length) := hb
  rw [hb2]
  show (if _ then _ else _) = _
  have hx : ((strB ([107, 61, 34] ++ (L ++ 34 :: [32]))).extract (1 + 2) (3 + L.length)).data.toList = L := extract_mid [107, 61, 34] L (34 :: [32])
  rw [if_neg]
  · rw [hsz, Nat.add_comm]
  · rintro (hn | hn)
    · apply hn
      rw [hsize]
      omega
    · rw [hx, Bool.or_eq_true, List.contains_iff_mem, List.contains_iff_mem] at hn
      rcases hn with hn | hn
      · exact (hfree _ hn).1 rfl
      · exact (hfree _ hn).2 rfl
/-- The first two bytes 45 behind a strict note are those that end it. -/
theorem search_note (r : List UInt8) : ∀ (l pre : List UInt8), noTwo l = true → lastOk l = true → searchE (strB (pre ++ (l ++ 45 :: 45 :: r))) pre.length twoB = some (pre.length + l.length) := by
  intro l
  induction l with
  | nil =>
    intro pre _ _
    rw [List.nil_append, searchE_yes]
    · rfl
    · have := stands_pre pre (45 :: 45 :: r) [45, 45]
      exact this
  | cons b l ih =>
    intro pre h1 h2
    have h1' : (b == 45 && l.head? == some 45) = false ∧ noTwo l = true := by
      have : (!(b == 45 && l.head? == some 45) && noTwo l) = true := h1
      rw [Bool.and_eq_true, Bool.not_eq_true'] at this
      exact this
    have h2' : lastOk l = true ∧ (l = [] → b ≠ 45) := by
      unfold lastOk at h2 ⊢
      cases l with
      | nil =>
        refine ⟨rfl, fun _ e => ?_⟩
        subst e
        exact absurd h2 (by decide)
      | cons x l =>
        rw [List.getLast?_cons_cons] at h2
        exact ⟨h2, fun e => by cases e⟩
    have hs : standsB (strB (pre ++ (b :: l ++ 45 :: 45 :: r))) pre.length twoB = false := by
      have := stands_pre pre (b :: l ++ 45 :: 45 :: r) [45, 45]
      rw [show twoB = strB [45, 45] from rfl, this]
      cases l with
      | nil =>
        have hb := h2'.2 rfl
        show (45 == b && _) = false
        have : ((45 : UInt8) == b) = false := by rw [beq_eq_false_iff_ne]; exact fun e => hb e.symm
        rw [this]
        rfl
      | cons x l =>
        show (45 == b && (45 == x && _)) = false
        have h3 := h1'.1
        rw [List.head?_cons] at h3
        by_cases hb : b = 45
        · subst hb
          have hx : x ≠ 45 := by
            rintro rfl
            simp at h3
          have : ((45 : UInt8) == x) = false := by rw [beq_eq_false_iff_ne]; exact fun e => hx e.symm
          rw [this]
          simp
        · have : ((45 : UInt8) == b) = false := by rw [beq_eq_false_iff_ne]; exact fun e => hb e.symm
          rw [this]
          rfl
    rw [searchE_no (by rw [strB_size]; simp [twoB, ByteArray.size]; omega) hs]
    have h := ih (pre ++ [b]) h1'.2 h2'.1
    rw [List.append_assoc, List.length_append, List.length_singleton] at h
    rw [show pre ++ (b :: l ++ 45 :: 45 :: r) = pre ++ ([b] ++ (l ++ 45 :: 45 :: r)) by simp, h]
    simp
    omega
def shutxB : ByteArray := ⟨#[45, 45, 62, 120]⟩
/-- A strict note is read as it was. -/
theorem note_again {t : ByteArray} (h : stNoteB t = true) : xnoteR ((openNoteB ++ t) ++ shutxB) 0 = some (t.size + 4) ∧ ((openNoteB ++ t) ++ shutxB).extract 4 (t.size + 4) = t := by
  have hh := h
  unfold stNoteB at hh
  simp only [Bool.and_eq_true] at hh
  have e : (openNoteB ++ t) ++ shutxB = strB ([60, 33, 45, 45] ++ (t.data.toList ++ 45 :: 45 :: [62, 120])) := by
    apply ByteArray.ext
    apply Array.toList_inj.1
    rw [ByteArray.data_append, Array.toList_append, ByteArray.data_append, Array.toList_append]
    simp [strB, openNoteB, shutxB]
  have hl : t.data.toList.length = t.size := Array.length_toList
  have hse := search_note [62, 120] t.data.toList [60, 33, 45, 45] hh.1.2 hh.2
  have hx : (strB ([60, 33, 45, 45] ++ (t.data.toList ++ 45 :: 45 :: [62, 120]))).extract 4 (t.size + 4) = t := by
    apply ByteArray.ext
    apply Array.toList_inj.1
    have := extract_mid [60, 33, 45, 45] t.data.toList (45 :: 45 :: [62, 120])
    rw [show ([60, 33, 45, 45] : List UInt8).length = 4 from rfl, hl, Nat.add_comm 4] at this
    exact this
  rw [e]
  refine ⟨?_, hx⟩
  unfold xnoteR
  have s0 : standsB (strB ([60, 33, 45, 45] ++ (t.data.toList ++ 45 :: 45 :: [62, 120]))) 0 openNoteB = true := by
    have := stands_pre [] ([60, 33, 45, 45] ++ (t.data.toList ++ 45 :: 45 :: [62, 120])) [60, 33, 45, 45]
    exact this
  rw [s0, if_pos rfl]
  have hse2 : searchE (strB ([60, 33, 45, 45] ++ (t.data.toList ++ 45 :: 45 :: [62, 120]))) (0 + 4) twoB = some (t.size + 4) := by
    have : searchE (strB ([60, 33, 45, 45] ++ (t.data.toList ++ 45 :: 45 :: [62, 120]))) 4 twoB = some (4 + t.data.toList.length) := hse
    rw [hl, Nat.add_comm] at this
    exact this
  rw [hse2]
  show (if _ then _ else _) = _
  have s1 : standsB (strB ([60, 33, 45, 45] ++ (t.data.toList ++ 45 :: 45 :: [62, 120]))) (t.size + 4) shutNoteB = true := by
    have := stands_pre ([60, 33, 45, 45] ++ t.data.toList) (45 :: 45 :: [62, 120]) [45, 45, 62]
    rw [List.length_append, hl, show ([60, 33, 45, 45] : List UInt8).length = 4 from rfl, Nat.add_comm, List.append_assoc] at this
    exact this
  rw [s1, show (strB ([60, 33, 45, 45] ++ (t.data.toList ++ 45 :: 45 :: [62, 120]))).extract (0 + 4) (t.size + 4) = t from hx, h]
  rfl

end Go.Proofs.YthikgkhnhbaccaaGreatDoor.Sg

namespace Go.Proofs.YthikgkhnhbaccaaGreatDoor.Sg
open Go.ChangeShapes Go.WideShapes Go.ChangeAt Go.RowKit

/-- Nothing that was there has turned but block p. -/
def Only (p : Nat) (w w' : World) : Prop :=
  w'.os = w.os ∧ w'.tape = w.tape ∧ w'.output = w.output ∧ w.heap.size ≤ w'.heap.size ∧ ∀ k, k < w.heap.size → k ≠ p → w'.heap[k]? = w.heap[k]?

theorem Only.refl (p : Nat) (w : World) : Only p w w := ⟨rfl, rfl, rfl, Nat.le_refl _, fun _ _ _ => rfl⟩
theorem Only.size {p : Nat} {w w' : World} (h : Only p w w') : w.heap.size ≤ w'.heap.size := h.2.2.2.1
theorem Only.block {p : Nat} {w w' : World} (h : Only p w w') {k : Nat} (hk : k < w.heap.size) (hp : k ≠ p) : w'.heap[k]? = w.heap[k]? := h.2.2.2.2 k hk hp
theorem Only.trans {p : Nat} {a b c : World} (h : Only p a b) (k : Only p b c) : Only p a c :=
  ⟨k.1.trans h.1, k.2.1.trans h.2.1, k.2.2.1.trans h.2.2.1, Nat.le_trans h.size k.size, fun _ hi hp => (k.block (Nat.lt_of_lt_of_le hi h.size) hp).trans (h.block hi hp)⟩
theorem Only.of_below {p : Nat} {w w' : World} (h : Below w.heap.size w w') : Only p w w' := ⟨h.os, h.tape, h.output, h.size, fun k hk _ => h.block k hk⟩
theorem Only.below {p B : Nat} {w w' : World} (h : Only p w w') (hB : B ≤ p) (hw : B ≤ w.heap.size) : Below B w w' := ⟨h.1, h.2.1, h.2.2.1, h.size, fun _ hk => h.block (by omega) (by omega)⟩
theorem Only.setCell {p : Nat} {a w : World} (h : Only p a w) {q : Addr} (hq : q.block = p) (u : Value) : Only p a (w.setCell q u) :=
  h.trans ⟨rfl, rfl, rfl, by simp [World.setCell], fun k _ hk => Below.heap_setCell _ _ _ _ (by omega)⟩
theorem Only.drewN {p : Nat} {a w : World} (h : Only p a w) (n : Nat) : Only p a (w.drewN n) := h.trans ⟨rfl, rfl, rfl, Nat.le_refl _, fun _ _ _ => rfl⟩
theorem Only.alloc {p : Nat} {a w : World} (h : Only p a w) (o : Obj) : Only p a (w.alloc o) :=
  h.trans ⟨rfl, rfl, rfl, by simp, fun k hk _ => Below.heap_alloc _ _ _ hk⟩

theorem below_draws {B : Nat} {a w : World} (h : Below B a w) (n : Nat) : Below B a (w.drewN n) := h.trans ⟨rfl, rfl, rfl, Nat.le_refl _, fun _ _ => rfl⟩

/-- A slice of bytes that begins at 'a' holds n bytes; they lie below block B. -/
def Code (B : Nat) (w : World) (a : Option Addr) (n : Nat) : Prop :=
  n = 0 ∨ ∃ b off, a = some ⟨b, off, none⟩ ∧ b < B ∧ b < w.heap.size ∧ ∀ i, i < n → ∃ z : Nat, z < 256 ∧ w.cell? ⟨b, off + i, none⟩ = some (.int .u8 (z : Int))

/-- Block p is a cursor over the n bytes at a, which lie below it. -/
def Cur (p : Nat) (a : Option Addr) (n cap : Nat) (w : World) : Prop :=
  n ≤ 1152921504606846976 ∧ Code p w a n ∧ ∃ (i : Nat) (h : Int), i ≤ n ∧ w.heap[p]? = some (.cells #[.slice a n cap, .int .i64 (i : Int), .int .i64 h] 79 (0, 0))

theorem Code.only {p B : Nat} {a : Option Addr} {n : Nat} {w w' : World} (h : Code B w a n) (hp : B ≤ p) (ho : Only p w w') : Code B w' a n := by
  rcases h with h | ⟨b, off, ha, hB, hb, hc⟩
  · exact .inl h
  · refine .inr ⟨b, off, ha, hB, Nat.lt_of_lt_of_le hb ho.size, fun i hi => ?_⟩
    obtain ⟨z, hz, hc⟩ := hc i hi
    exact ⟨z, hz, (World.cell?_of_block (w := w) (ho.block hb (by show b ≠ p; omega))).trans hc⟩

theorem Code.below {B : Nat} {a : Option Addr} {n : Nat} {w w' : World} (h : Code B w a n) (hb : Below B w w') : Code B w' a n := by
  rcases h with h | ⟨b, off, ha, hB, hb', hc⟩
  · exact .inl h
  · refine .inr ⟨b, off, ha, hB, Nat.lt_of_lt_of_le hb' hb.size, fun i hi => ?_⟩
    obtain ⟨z, hz, hc⟩ := hc i hi
    exact ⟨z, hz, (hb.cell (p := ⟨b, off + i, none⟩) hB).trans hc⟩

theorem Code.raise {B B' : Nat} {a : Option Addr} {n : Nat} {w : World} (h : Code B w a n) (hB : B ≤ B') : Code B' w a n := by
  rcases h with h | ⟨b, off, ha, hB', hb', hc⟩
  · exact .inl h
  · exact .inr ⟨b, off, ha, by omega, hb', hc⟩

theorem Cur.below {p : Nat} {a : Option Addr} {n cap : Nat} {w w' : World} (h : Cur p a n cap w) (hb : Below w.heap.size w w') : Cur p a n cap w' := by
  obtain ⟨h1, h2, i, g, h4, h5⟩ := h
  have hlt : p < w.heap.size := (Array.getElem?_eq_some_iff.1 h5).1
  exact ⟨h1, h2.only (Nat.le_refl _) (Only.of_below hb), i, g, h4, (hb.block p hlt).trans h5⟩

theorem i64_255 (n : Int) : bits .and .i64 n 255 = n % 256 := (i64_low n 8 (by decide) 255 (by decide)).trans (by simp)

theorem set_heap {w : World} {p : Nat} {c : Array Value} {t : TypeId} (h : w.heap[p]? = some (.cells c t (0, 0))) (i : Nat) (v : Value) : (w.setCell ⟨p, i, none⟩ v).heap[p]? = some (.cells (c.setIfInBounds i v) t (0, 0)) := by
  simp [World.setCell, Array.getElem?_modify, h]

set_option maxHeartbeats 2000000 in
theorem l1Byte_any (p : Nat) (a : Option Addr) (n cap : Nat) (w : World) (hc : Cur p a n cap w) :
    Calls Tryz.prog 62 #[.pointer (some ⟨p, 0, none⟩)] w fun e w' => ∃ x : Nat, x < 256 ∧ e = .returned (.int .i64 (x : Int)) ∧ Cur p a n cap w' ∧ Only p w w' := by
  obtain ⟨hn, hcode, i, h, hi, hp⟩ := hc
  have c0 : w.cell? ⟨p, 0, none⟩ = some (.slice a n cap) := by simp [World.cell?, hp]
  have c1 : w.cell? ⟨p, 1, none⟩ = some (.int .i64 (i : Int)) := by simp [World.cell?, hp]
  have c2 : w.cell? ⟨p, 2, none⟩ = some (.int .i64 h) := by simp [World.cell?, hp]
  have f1 : w.frozen? ⟨p, 1, none⟩ = false := by simp [World.frozen?, hp]
  have f2 : w.frozen? ⟨p, 2, none⟩ = false := by simp [World.frozen?, hp]
  have a255 := i64_255
  have Hp : Hid (w.heap[p]? = some (.cells #[.slice a n cap, .int .i64 (i : Int), .int .i64 h] 79 (0, 0))) := hp
  clear hp
  have Hcode : Hid (Code p w a n) := hcode
  by_cases hlt : i < n
  · rcases hcode with h0 | ⟨b, off, rfl, hbp, hb, hcb⟩
    · omega
    obtain ⟨z, hz, hcz⟩ := hcb i hlt
    have hne : b ≠ p := Nat.ne_of_lt hbp
    clear hcb
    go_enter Tryz.func62, Tryz.ntmps62
    go_wp2
    generalize wrap64 (wrap64 (h * 6364136223846793005) + 1442695040888963407) = h1
    generalize wrap64 (h * 6364136223846793005) = h0
    have hp1 := set_heap Hp.out 2 (.int .i64 h1)
    have hO : Only p w (w.setCell ⟨p, 2, none⟩ (.int .i64 h1)) := (Only.refl p w).setCell rfl _
    have hz1 : (w.setCell ⟨p, 2, none⟩ (.int .i64 h1)).cell? ⟨b, off + i, none⟩ = some (.int .u8 (z : Int)) := (World.cell?_of_block (w := w) (hO.block hb hne)).trans hcz
    generalize w.setCell ⟨p, 2, none⟩ (.int .i64 h1) = W at *
    have hp2 : W.heap[p]? = some (.cells #[.slice (some ⟨b, off, none⟩) n cap, .int .i64 (i : Int), .int .i64 h1] 79 (0, 0)) := by simpa using hp1
    have d0 : W.cell? ⟨p, 0, none⟩ = some (.slice (some ⟨b, off, none⟩) n cap) := by simp [World.cell?, hp2]
    have d1 : W.cell? ⟨p, 1, none⟩ = some (.int .i64 (i : Int)) := by simp [World.cell?, hp2]
    have d2 : W.cell? ⟨p, 2, none⟩ = some (.int .i64 h1) := by simp [World.cell?, hp2]
    have g1 : W.frozen? ⟨p, 1, none⟩ = false := by simp [World.frozen?, hp2]
    have Hp2 : Hid (W.heap[p]? = some (.cells #[.slice (some ⟨b, off, none⟩) n cap, .int .i64 (i : Int), .int .i64 h1] 79 (0, 0))) := hp2
    clear hp1 hp2 c0 c1 c2 f1 f2 hcz
    go_quiet (fail)
    go_wp2
    generalize bits BinOp.xor IntKind.i64 (h1 / 8589934592) (h1 / 35184372088832) = y
    have hx1 : 0 ≤ y % 256 := by omega
    have hx2 : y % 256 < 256 := by omega
    generalize y % 256 = x at *
    go_quiet (fail)
    go_wp2
    go_quiet (fail)
    go_wp2
    have hm1 : 0 ≤ (x + (z : Int)) % 256 := by omega
    have hm2 : (x + (z : Int)) % 256 < 256 := by omega
    go_ret
    generalize (x + (z : Int)) % 256 = v at *
    obtain ⟨vn, rfl⟩ := Int.eq_ofNat_of_zero_le hm1
    have hOf : Only p w ((W.setCell ⟨p, 1, none⟩ (.int .i64 ((i : Int) + 1))).drewN 0) := (hO.setCell rfl _).drewN _
    have hpf := set_heap Hp2.out 1 (.int .i64 ((i : Int) + 1))
    refine ⟨vn, by omega, rfl, ⟨hn, Hcode.out.only (Nat.le_refl _) hOf, i + 1, h1, hlt, ?_⟩, hOf⟩
    refine hpf.trans ?_
    simp
  · have hdl : decide ((i : Int) < (n : Int)) = false := by simp; omega
    go_enter Tryz.func62, Tryz.ntmps62
    go_wp2
    generalize wrap64 (wrap64 (h * 6364136223846793005) + 1442695040888963407) = h1
    generalize wrap64 (h * 6364136223846793005) = h0
    have hp1 := set_heap Hp.out 2 (.int .i64 h1)
    have hO : Only p w (w.setCell ⟨p, 2, none⟩ (.int .i64 h1)) := (Only.refl p w).setCell rfl _
    generalize w.setCell ⟨p, 2, none⟩ (.int .i64 h1) = W at *
    have hp2 : W.heap[p]? = some (.cells #[.slice a n cap, .int .i64 (i : Int), .int .i64 h1] 79 (0, 0)) := by simpa using hp1
    have d0 : W.cell? ⟨p, 0, none⟩ = some (.slice a n cap) := by simp [World.cell?, hp2]
    have d1 : W.cell? ⟨p, 1, none⟩ = some (.int .i64 (i : Int)) := by simp [World.cell?, hp2]
    have d2 : W.cell? ⟨p, 2, none⟩ = some (.int .i64 h1) := by simp [World.cell?, hp2]
    have Hp2 : Hid (W.heap[p]? = some (.cells #[.slice a n cap, .int .i64 (i : Int), .int .i64 h1] 79 (0, 0))) := hp2
    clear hp1 hp2 c0 c1 c2 f1 f2 hcode
    go_quiet (fail)
    go_wp2
    generalize bits BinOp.xor IntKind.i64 (h1 / 8589934592) (h1 / 35184372088832) = y
    have hx1 : 0 ≤ y % 256 := by omega
    have hx2 : y % 256 < 256 := by omega
    generalize y % 256 = x at *
    go_quiet (fail)
    go_wp2
    go_ret
    obtain ⟨vn, rfl⟩ := Int.eq_ofNat_of_zero_le hx1
    have hOf : Only p w (W.drewN 0) := hO.drewN _
    exact ⟨vn, by omega, rfl, ⟨hn, Hcode.out.only (Nat.le_refl _) hOf, i, h1, hi, Hp2.out⟩, hOf⟩

end Go.Proofs.YthikgkhnhbaccaaGreatDoor.Sg
