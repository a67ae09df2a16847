/- Words that are right, in plain terms; the model's order and the program's order of asking. No program in it. A text behind which its end stands: where that end begins, plain; the model's asking and the program's are one. No program in it. -/
import Derived.Test.YtmambbknljgjcaaDoorM11
import Derived.Test.YtmambbknljgjcaaDoorSpImplAQ
import Derived.Test.YtmambbknljgjcaaDoorScSt
import Derived.Test.YtmambbknljgjcaaDoorTkHas
import Derived.Test.YtmambbknljgjcaaDoorTkPlQ
namespace Go.Proofs.YtmambbknljgjcaaDoor.Sg

def emptyB (s : ByteArray) : Bool := s.toList == []
/-- Clean, and no byte 13. -/
def lineB (s : ByteArray) : Bool := cleanB s && (findE s 0 13).isNone
/-- What names of tags and attributes are alike in. -/
def partB (s : ByteArray) : Bool := cleanB s && ((smallS s).toList == s.toList && s.data.toList.all tagU)
def nameOkB (s : ByteArray) : Bool := !emptyB s && partB s
def letter0 (s : ByteArray) : Bool := decide (0 < s.size) && letterB ((s.get! 0).toNat : Int)
def attrOkB (l : List AttrB) (k : Nat) (p : AttrB) : Bool := nameOkB p.1 && ((findE p.1 1 61).isNone && (lineB p.2 && !hasA (l.take k) p.1))
/-- Attributes are right, from one on. -/
def attrsOkB (l : List AttrB) : Nat → Nat → Bool
  | 0, _ => true
  | f + 1, k => if h : k < l.length then attrOkB l k (l[k]'h) && attrsOkB l f (k + 1) else true
def attrsB (l : List AttrB) : Bool := attrsOkB l l.length 0
theorem attrsOkB_end (l : List AttrB) (f k : Nat) (h : ¬ k < l.length) : attrsOkB l f k = true := by
  cases f with
  | zero => rfl
  | succ f => unfold attrsOkB; rw [dif_neg h]
theorem attrsOkB_step (l : List AttrB) (f k : Nat) (h : k < l.length) (hf : l.length ≤ k + f) : ∃ g, f = g + 1 ∧ attrsOkB l f k = (attrOkB l k (l[k]'h) && attrsOkB l g (k + 1)) := by
  cases f with
  | zero => omega
  | succ g => exact ⟨g, rfl, by rw [attrsOkB, dif_pos h]⟩

def noteB (s : ByteArray) : Bool := (searchE s 0 ⟨#[45, 45, 62]⟩).isNone && (!standsB s 0 ⟨#[62]⟩ && !standsB s 0 ⟨#[45, 62]⟩)
def kindB (s : ByteArray) : Bool := (smallS s).toList == s.toList && ((findE s 0 62).isNone && decide (runE blankU s 0 = 0))
def bareWord (t : TokB) : Bool := decide (t.2.2.1.length = 0) && !t.2.2.2.2
def tagB (s : ByteArray) : Bool := nameOkB s && letter0 s
/-- A word is right by itself. -/
def okT (t : TokB) : Bool :=
  if t.1 = 1 then emptyB t.2.1 && (bareWord t && (lineB t.2.2.2.1 && !emptyB t.2.2.2.1))
  else if t.1 = 2 then emptyB t.2.2.2.1 && (tagB t.2.1 && attrsB t.2.2.1)
  else if t.1 = 3 then emptyB t.2.2.2.1 && (bareWord t && tagB t.2.1)
  else if t.1 = 4 then emptyB t.2.1 && (bareWord t && (lineB t.2.2.2.1 && noteB t.2.2.2.1))
  else if t.1 = 5 then emptyB t.2.1 && (bareWord t && (lineB t.2.2.2.1 && kindB t.2.2.2.1))
  else false

def isText (t : TokB) : Bool := t.1 == 1
def isEnd (t : TokB) (name : ByteArray) : Bool := t.1 == 3 && (t.2.1.toList == name.toList)
def startB (t : TokB) : Bool := t.1 == 2 && (!t.2.2.2.2 && rawB t.2.1)
/-- The text with its end behind it. -/
def closed (tx nm : ByteArray) : ByteArray := ((tx ++ (⟨#[60, 47]⟩ : ByteArray)) ++ nm) ++ (⟨#[62]⟩ : ByteArray)
/-- What the model asks of a text behind a Raw start, and the program. -/
def rawTS (nm : ByteArray) (u : TokB) : Bool := !scriptB nm || decide (rawEndE (closed u.2.2.2.1 nm) 0 nm = u.2.2.2.1.size)
def rawTI (nm : ByteArray) (u : TokB) : Bool := !scriptB nm || decide (rawEndE u.2.2.2.1 0 nm = u.2.2.2.1.size)
def endIs (nm : ByteArray) : List TokB → Bool
  | [] => true
  | v :: _ => isEnd v nm
def behindB (ask : ByteArray → TokB → Bool) (nm : ByteArray) : List TokB → Bool
  | [] => true
  | u :: m => if isText u then ask nm u && endIs nm m else isEnd u nm
def heldL (t : TokB) (l : List TokB) : Bool := !startB t || behindB rawTS t.2.1 l
def specL : Bool → List TokB → Bool
  | _, [] => true
  | prev, t :: l => okT t && (heldL t l && (!(prev && isText t) && specL (isText t) l))
def rawOkB (raw : ByteArray) (t : TokB) : Bool := if isText t then rawTI raw t else isEnd t raw
def implL : Bool → ByteArray → List TokB → Bool
  | _, _, [] => true
  | prev, raw, t :: l => okT t && ((emptyB raw || rawOkB raw t) && (!(prev && isText t) && implL (isText t) (if isText t then raw else begunT t) l))
def heldR (raw : ByteArray) (l : List TokB) : Bool := emptyB raw || behindB rawTI raw l

theorem list_get (s : ByteArray) (k : Nat) (h : k < s.size) : s[k]'h = s.data.toList[k]'(by rw [Array.length_toList]; exact h) := by
  rw [Array.getElem_toList]
  rfl

/-- Texts that are told to be the same by their lists. -/
theorem rawB_ne {s : ByteArray} (h : rawB s = true) : emptyB s = false := by
  cases he : emptyB s
  · rfl
  · unfold emptyB at he
    have e := beq_iff_eq.1 he
    unfold rawB at h
    rw [e] at h
    cases h
theorem scriptB_noL {s : ByteArray} (h : scriptB s = true) : ∀ b ∈ s.data.toList, lowB b ≠ 60 ∧ b.toNat ≠ 60 := by
  unfold scriptB at h
  rw [ByteArray.toList_eq] at h
  rcases Bool.or_eq_true _ _ ▸ h with h | h
  · rw [beq_iff_eq.1 h]
    decide
  · rw [beq_iff_eq.1 h]
    decide

end Go.Proofs.YtmambbknljgjcaaDoor.Sg

namespace Go.Proofs.YtmambbknljgjcaaDoor.Sg

theorem closed_list (tx nm : ByteArray) : (closed tx nm).data.toList = tx.data.toList ++ (60 :: 47 :: (nm.data.toList ++ [62])) := by
  unfold closed
  simp [ByteArray.data_append]
theorem closed_size (tx nm : ByteArray) : (closed tx nm).size = tx.size + 3 + nm.size := by
  rw [← bytes_len, closed_list, List.length_append, bytes_len, List.length_cons, List.length_cons, List.length_append, bytes_len]
  simp only [List.length_cons, List.length_nil]
  omega
theorem get_list {s : ByteArray} {k : Nat} (h : k < s.size) {b : UInt8} (hl : s.data.toList[k]? = some b) : s[k]'h = b := by
  rw [list_get s k h]
  have h' : k < s.data.toList.length := by rw [bytes_len]; exact h
  rw [List.getElem?_eq_getElem h'] at hl
  exact Option.some.inj hl
theorem closed_lt (tx nm : ByteArray) (j : Nat) (h : j < tx.size) (h' : j < (closed tx nm).size) : (closed tx nm)[j]'h' = tx[j]'h := by
  have hl : j < tx.data.toList.length := by rw [bytes_len]; exact h
  apply get_list
  rw [closed_list, List.getElem?_append_left hl, List.getElem?_eq_getElem hl, ← list_get tx j h]
theorem closed_more (tx nm : ByteArray) (i : Nat) : (closed tx nm).data.toList[tx.size + i]? = (60 :: 47 :: (nm.data.toList ++ [62]))[i]? := by
  rw [closed_list, List.getElem?_append_right (by rw [bytes_len]; omega), bytes_len]
  congr 1
  omega
theorem small_cut (s : ByteArray) (a n : Nat) : (smallS (s.extract a (a + n))).toList = ((s.data.toList.drop a).take n).map lowB := by
  rw [ByteArray.toList_eq]
  unfold smallS
  rw [ByteArray.data_extract]
  simp [List.extract_eq_take_drop]
theorem small_all (s : ByteArray) : (smallS s).toList = s.data.toList.map lowB := by
  rw [ByteArray.toList_eq]
  simp [smallS]

theorem rawAt_yes {s nm : ByteArray} {k : Nat} {h : k + 2 + nm.size < s.size} (hr : rawAt s nm k h = true) : (s[k + 1]'(by omega)).toNat = 47 ∧ ((s.data.toList.drop (k + 2)).take nm.size).map lowB = nm.data.toList.map lowB ∧ endU (s[k + 2 + nm.size]'h) = true := by
  unfold rawAt at hr
  rw [Bool.and_eq_true, Bool.and_eq_true, Bool.and_eq_true, decide_eq_true_eq, decide_eq_true_eq] at hr
  obtain ⟨_, h1, h2, h3⟩ := hr
  have h2' := beq_iff_eq.1 h2
  rw [small_cut, small_all] at h2'
  exact ⟨h1, h2', h3⟩

theorem rawAt_here (tx nm : ByteArray) (h : tx.size + 2 + nm.size < (closed tx nm).size) : rawAt (closed tx nm) nm tx.size h = true := by
  have e0 : (closed tx nm)[tx.size]'(by omega) = 60 := get_list _ (by have := closed_more tx nm 0; rw [Nat.add_zero] at this; rw [this]; rfl)
  have e1 : (closed tx nm)[tx.size + 1]'(by omega) = 47 := get_list _ (by rw [closed_more]; rfl)
  have e2 : (closed tx nm)[tx.size + 2 + nm.size]'h = 62 := get_list _ (by
    rw [Nat.add_assoc, closed_more, Nat.add_comm 2, List.getElem?_cons_succ, List.getElem?_cons_succ, List.getElem?_append_right (by rw [bytes_len]; omega), bytes_len, Nat.sub_self]
    rfl)
  unfold rawAt
  rw [e0, e1, e2, small_cut, small_all]
  have e3 : ((closed tx nm).data.toList.drop (tx.size + 2)).take nm.size = nm.data.toList := by
    have hd : tx.data.toList.drop (tx.size + 2) = [] := List.drop_eq_nil_of_le (by rw [bytes_len]; omega)
    rw [closed_list, List.drop_append, hd, bytes_len, List.nil_append, show tx.size + 2 - tx.size = 2 by omega]
    show (nm.data.toList ++ [62]).take nm.size = _
    rw [List.take_append_of_le_length (by rw [bytes_len]; exact Nat.le_refl _), List.take_of_length_le (by rw [bytes_len]; exact Nat.le_refl _)]
  rw [e3]
  simp [endU]

theorem rawAt_far (tx nm : ByteArray) (k : Nat) (h : k + 2 + nm.size < tx.size) (h' : k + 2 + nm.size < (closed tx nm).size) : rawAt (closed tx nm) nm k h' = rawAt tx nm k h := by
  unfold rawAt
  rw [closed_lt tx nm k (by omega), closed_lt tx nm (k + 1) (by omega), closed_lt tx nm (k + 2 + nm.size) h, small_cut, small_cut]
  have e : ((closed tx nm).data.toList.drop (k + 2)).take nm.size = (tx.data.toList.drop (k + 2)).take nm.size := by
    rw [closed_list, List.drop_append_of_le_length (by rw [bytes_len]; omega), List.take_append_of_le_length (by rw [List.length_drop, bytes_len]; omega)]
  rw [e]

theorem rawAt_near (tx nm : ByteArray) (hn : ∀ b ∈ nm.data.toList, lowB b ≠ 60 ∧ b.toNat ≠ 60) (k : Nat) (hk : k < tx.size) (h : ¬ k + 2 + nm.size < tx.size) (h' : k + 2 + nm.size < (closed tx nm).size) : rawAt (closed tx nm) nm k h' = false := by
  apply Bool.eq_false_iff.2
  intro hr
  obtain ⟨h1, h2, h3⟩ := rawAt_yes hr
  have e0 : ∀ hh, (closed tx nm)[tx.size]'hh = 60 := fun hh => get_list _ (by have := closed_more tx nm 0; rw [Nat.add_zero] at this; rw [this]; rfl)
  by_cases c1 : k + 1 = tx.size
  · have : (closed tx nm)[k + 1]'(by omega) = 60 := by
      have := e0 (by omega)
      simp only [c1]
      exact this
    rw [this] at h1
    cases h1
  · by_cases c2 : k + 2 + nm.size = tx.size
    · have : (closed tx nm)[k + 2 + nm.size]'h' = 60 := by
        have := e0 (by omega)
        simp only [c2]
        exact this
      rw [this] at h3
      revert h3
      decide
    · obtain ⟨i, hi⟩ : ∃ i, tx.size = k + 2 + i := ⟨tx.size - (k + 2), by omega⟩
      have hin : i < nm.size := by omega
      have g1 : (((closed tx nm).data.toList.drop (k + 2)).take nm.size)[i]? = some 60 := by
        rw [List.getElem?_take_of_lt hin, List.getElem?_drop, ← hi]
        have := closed_more tx nm 0
        rw [Nat.add_zero] at this
        rw [this]
        rfl
      have g2 := congrArg (fun l => l[i]?) h2
      simp only [List.getElem?_map] at g2
      rw [g1] at g2
      have hil : i < nm.data.toList.length := by rw [bytes_len]; exact hin
      rw [List.getElem?_eq_getElem hil] at g2
      have g3 : lowB 60 = lowB (nm.data.toList[i]'hil) := Option.some.inj g2
      have g4 := (hn _ (List.getElem_mem hil)).1
      apply g4
      rw [← g3]
      decide

theorem rawE_two (tx nm : ByteArray) (hn : ∀ b ∈ nm.data.toList, lowB b ≠ 60 ∧ b.toNat ≠ 60) : ∀ (d k : Nat), tx.size - k ≤ d → k ≤ tx.size → (rawE (closed tx nm) nm k = tx.size ↔ rawE tx nm k = tx.size) := by
  have hcs := closed_size tx nm
  intro d
  induction d with
  | zero =>
    intro k h1 h2
    have hk : k = tx.size := by omega
    subst hk
    rw [rawE_yes (by omega) (rawAt_here tx nm (by omega)), rawE_end (by omega)]
  | succ d ih =>
    intro k h1 h2
    by_cases hk : k = tx.size
    · subst hk
      rw [rawE_yes (by omega) (rawAt_here tx nm (by omega)), rawE_end (by omega)]
    · have hlt : k < tx.size := by omega
      have hc : k + 2 + nm.size < (closed tx nm).size := by omega
      by_cases hf : k + 2 + nm.size < tx.size
      · have e := rawAt_far tx nm k hf hc
        cases hr : rawAt tx nm k hf
        · rw [rawE_no hc (e.trans hr), rawE_no hf hr]
          exact ih (k + 1) (by omega) (by omega)
        · rw [rawE_yes hc (e.trans hr), rawE_yes hf hr]
      · rw [rawE_no hc (rawAt_near tx nm hn k hlt hf hc), rawE_end hf]
        have h3 := ih (k + 1) (by omega) (by omega)
        rw [rawE_end (s := tx) (k := k + 1) (by omega)] at h3
        exact h3

theorem rawEndE_zero (s nm : ByteArray) : rawEndE s 0 nm = rawE s nm 0 := by
  unfold rawEndE
  split
  · rw [rawE_end (by omega)]
  · rfl

theorem raw_one (nm : ByteArray) (u : TokB) : rawTS nm u = rawTI nm u := by
  unfold rawTS rawTI
  cases hs : scriptB nm
  · rfl
  · have h := rawE_two u.2.2.2.1 nm (scriptB_noL hs) u.2.2.2.1.size 0 (by omega) (Nat.zero_le _)
    rw [rawEndE_zero, rawEndE_zero]
    simp only [Bool.not_true, Bool.false_or]
    exact decide_eq_decide.2 h

theorem behindB_cons (ask : ByteArray → TokB → Bool) (nm : ByteArray) (u : TokB) (m : List TokB) : behindB ask nm (u :: m) = if isText u then ask nm u && endIs nm m else isEnd u nm := rfl
theorem behind_one (nm : ByteArray) (l : List TokB) : behindB rawTS nm l = behindB rawTI nm l := by
  cases l with
  | nil => rfl
  | cons u m => rw [behindB_cons, behindB_cons, raw_one]

theorem begun_start (t : TokB) (l : List TokB) : heldR (begunT t) l = heldL t l := by
  unfold heldL heldR
  rw [behind_one]
  unfold begunT startB
  cases h : (t.1 == 2 && (!t.2.2.2.2 && rawB t.2.1))
  · have : emptyB ⟨#[]⟩ = true := by unfold emptyB; rw [ByteArray.toList_mk]; rfl
    simp [this]
  · have hr : rawB t.2.1 = true := by
      rw [Bool.and_eq_true, Bool.and_eq_true] at h
      exact h.2.2
    simp [rawB_ne hr]

theorem impl_spec : ∀ (l : List TokB) (prev : Bool) (raw : ByteArray), implL prev raw l = (specL prev l && heldR raw l)
  | [], prev, raw => by
    unfold implL specL heldR behindB
    simp
  | t :: l, prev, raw => by
    have ih := impl_spec l
    unfold implL specL
    rw [ih]
    cases ht : isText t
    · simp only [Bool.false_eq_true, if_false, begun_start]
      have e1 : rawOkB raw t = isEnd t raw := by unfold rawOkB; rw [ht]; rfl
      have e2 : heldR raw (t :: l) = (emptyB raw || isEnd t raw) := by unfold heldR; rw [behindB_cons, ht]; rfl
      rw [e1, e2]
      cases okT t <;> cases heldL t l <;> cases specL false l <;> cases (emptyB raw || isEnd t raw) <;> simp
    · simp only [if_true]
      have e0 : heldL t l = true := by
        unfold heldL startB
        unfold isText at ht
        have : t.1 = 1 := beq_iff_eq.1 ht
        rw [this]
        rfl
      have e1 : rawOkB raw t = rawTI raw t := by unfold rawOkB; rw [ht]; rfl
      have e2 : heldR raw (t :: l) = (emptyB raw || (rawTI raw t && endIs raw l)) := by unfold heldR; rw [behindB_cons, ht]; rfl
      have e3 : (specL true l && heldR raw l) = (specL true l && (emptyB raw || endIs raw l)) := by
        cases l with
        | nil => unfold heldR behindB endIs; rfl
        | cons u m =>
          cases hu : isText u
          · have : heldR raw (u :: m) = (emptyB raw || endIs raw (u :: m)) := by unfold heldR; rw [behindB_cons, hu]; rfl
            rw [this]
          · have : specL true (u :: m) = false := by unfold specL; rw [hu]; simp
            rw [this]
            rfl
      rw [e0, e1, e2, e3]
      cases okT t <;> cases specL true l <;> cases emptyB raw <;> cases rawTI raw t <;> cases endIs raw l <;> cases prev <;> rfl

theorem impl_all (l : List TokB) : implL false ⟨#[]⟩ l = specL false l := by
  rw [impl_spec]
  have : emptyB ⟨#[]⟩ = true := by unfold emptyB; rw [ByteArray.toList_mk]; rfl
  unfold heldR
  rw [this, Bool.true_or, Bool.and_true]

end Go.Proofs.YtmambbknljgjcaaDoor.Sg
