/- Contracts of the model's way over an attribute's name, and of where a tag's name begins. Where a tag ends, step by step. No program in it. -/
import Derived.Test.YtmambbknljgjcaaDoorTkSkip
namespace Go.Proofs.YtmambbknljgjcaaDoor.Sg
open Go.ChangeShapes Go.WideShapes Go.ChangeAt Go.RowKit

/-- From the second byte on '=' ends a name. -/
def nameAtU (angle first : Bool) (b : UInt8) : Bool := if first then firstU angle b else nameU angle b

theorem nameE_go {angle : Bool} {s : ByteArray} {i k : Nat} (hlt : k < s.size) (hik : i ≤ k) (h : nameAtU angle (decide (k = i)) (s[k]'hlt) = true)
    (hinv : k = i ∨ nameE angle s i = runE (nameU angle) s k) : i ≤ k + 1 ∧ nameE angle s i = runE (nameU angle) s (k + 1) := by
  refine ⟨by omega, ?_⟩
  unfold nameAtU at h
  by_cases he : k = i
  · subst he
    rw [decide_eq_true rfl, if_pos rfl] at h
    exact nameE_yes hlt h
  · rw [decide_eq_false he, if_neg (by simp)] at h
    rcases hinv with hinv | hinv
    · exact absurd hinv he
    · rw [hinv, runE_yes hlt h]
theorem nameE_stop {angle : Bool} {s : ByteArray} {i k : Nat} (hlt : k < s.size) (h : nameAtU angle (decide (k = i)) (s[k]'hlt) = false)
    (hinv : k = i ∨ nameE angle s i = runE (nameU angle) s k) : nameE angle s i = k := by
  unfold nameAtU at h
  by_cases he : k = i
  · subst he
    rw [decide_eq_true rfl, if_pos rfl] at h
    exact nameE_no hlt h
  · rw [decide_eq_false he, if_neg (by simp)] at h
    rcases hinv with hinv | hinv
    · exact absurd hinv he
    · rw [hinv, runE_no hlt h]
theorem nameE_past {angle : Bool} {s : ByteArray} {i k : Nat} (hlt : ¬ k < s.size) (hinv : k = i ∨ nameE angle s i = runE (nameU angle) s k) : nameE angle s i = k := by
  rcases hinv with rfl | hinv
  · exact nameE_end hlt
  · rw [hinv, runE_end hlt]

/-- Where a tag's name begins. -/
def afterE (s : ByteArray) (i : Nat) : Nat := if (tailL s (i + 1)).head? = some 47 then i + 2 else i + 1


theorem afterE_le {s : ByteArray} {i : Nat} (h : i < s.size) : i + 1 ≤ afterE s i ∧ afterE s i ≤ s.size := by
  unfold afterE
  split
  · rename_i he
    refine ⟨by omega, ?_⟩
    apply Classical.byContradiction
    intro hc
    rw [tailL_end s (i + 1) (by omega)] at he
    cases he
  · omega

end Go.Proofs.YtmambbknljgjcaaDoor.Sg

namespace Go.Proofs.YtmambbknljgjcaaDoor.Sg

/-- Behind a '=' and blanks: the place behind the value. -/
def tagVal (s : ByteArray) (k : Nat) : Int ⊕ Nat :=
  match (tailL s k).head? with
  | none => .inr (runE (plainU true) s k)
  | some b => if b.toNat = 34 ∨ b.toNat = 39 then (match findE s (k + 1) b with | none => .inl (-1) | some e => .inr (e + 1)) else .inr (runE (plainU true) s k)
/-- Behind a name and blanks. -/
def tagEq (s : ByteArray) (k : Nat) : Int ⊕ Nat :=
  match (tailL s k).head? with
  | none => .inr k
  | some b => if b.toNat = 61 then tagVal s (runE blankU s (k + 1)) else .inr k
/-- One round: the end, or where it goes on. -/
def tagStep (s : ByteArray) (k : Nat) : Int ⊕ Nat :=
  match (tailL s (runE skipU s k)).head? with
  | none => .inl (-1)
  | some b => if b.toNat = 62 then .inl (runE skipU s k : Int) else tagEq s (runE blankU s (nameE true s (runE skipU s k)))

theorem head_at {s : ByteArray} {k : Nat} (h : k < s.size) : (tailL s k).head? = some (s[k]'h) := by rw [tailL_step s k h]; rfl
theorem head_end {s : ByteArray} {k : Nat} (h : ¬ k < s.size) : (tailL s k).head? = none := by rw [tailL_end s k h]; rfl

theorem runN_stop (p : UInt8 → Bool) (l : List UInt8) : ∀ b, (l.drop (runN p l)).head? = some b → p b = false := by
  induction l with
  | nil => intro b h; cases h
  | cons x l ih =>
    intro b h
    cases hp : p x
    · rw [runN_no hp] at h
      obtain rfl : x = b := Option.some.inj h
      exact hp
    · rw [runN_yes hp, List.drop_succ_cons] at h
      exact ih b h
theorem runE_stop {p : UInt8 → Bool} {s : ByteArray} {k m : Nat} (hm : runE p s k = m) (h : m < s.size) : p (s[m]'h) = false := by
  subst hm
  apply runN_stop p (tailL s k)
  rw [tailL_drop]
  exact head_at h

theorem tagVal_le {s : ByteArray} {k m : Nat} (hk : k ≤ s.size) (h : tagVal s k = .inr m) : k ≤ m ∧ m ≤ s.size := by
  have hr := runE_le (p := plainU true) hk
  unfold tagVal at h
  by_cases hlt : k < s.size
  · rw [head_at hlt] at h
    simp only at h
    split at h
    · cases hf : findE s (k + 1) (s[k]'hlt) with
      | none => rw [hf] at h; cases h
      | some e =>
        rw [hf] at h
        have := findE_le hf
        have h2 : e + 1 = m := Sum.inr.inj h
        omega
    · have h2 : runE (plainU true) s k = m := Sum.inr.inj h
      omega
  · rw [head_end hlt] at h
    have h2 : runE (plainU true) s k = m := Sum.inr.inj h
    omega

theorem tagEq_le {s : ByteArray} {k m : Nat} (hk : k ≤ s.size) (h : tagEq s k = .inr m) : k ≤ m ∧ m ≤ s.size := by
  unfold tagEq at h
  by_cases hlt : k < s.size
  · rw [head_at hlt] at h
    simp only at h
    split at h
    · have hr := runE_le (p := blankU) (s := s) (k := k + 1) hlt
      have := tagVal_le hr.2 h
      omega
    · have h2 : k = m := Sum.inr.inj h
      omega
  · rw [head_end hlt] at h
    have h2 : k = m := Sum.inr.inj h
    omega

theorem name_goes {s : ByteArray} {k m : Nat} (hm : runE skipU s k = m) (h : m < s.size) (h62 : (s[m]'h).toNat ≠ 62) : m + 1 ≤ nameE true s m := by
  have hp := runE_stop hm h
  unfold skipU at hp
  have h1 : blankU (s[m]'h) = false := by
    cases hb : blankU (s[m]'h)
    · rfl
    · rw [hb] at hp; cases hp
  have h2 : (s[m]'h).toNat ≠ 47 := by
    intro e
    rw [h1, decide_eq_true e] at hp
    cases hp
  have hf : firstU true (s[m]'h) = true := by
    unfold firstU
    rw [h1, decide_eq_false h2, decide_eq_false h62]
    rfl
  rw [nameE_yes h hf]
  exact (runE_le (p := nameU true) (s := s) (k := m + 1) h).1

theorem tagStep_le {s : ByteArray} {k m : Nat} (hk : k ≤ s.size) (h : tagStep s k = .inr m) : k < m ∧ m ≤ s.size := by
  have hr := runE_le (p := skipU) hk
  unfold tagStep at h
  by_cases hlt : runE skipU s k < s.size
  · rw [head_at hlt] at h
    simp only at h
    split at h
    · cases h
    · rename_i h62
      have h1 := name_goes rfl hlt h62
      have h2 := nameE_le (angle := true) hr.2
      have h3 := runE_le (p := blankU) h2.2
      have h4 := tagEq_le h3.2 h
      omega
  · rw [head_end hlt] at h
    cases h

/-- Where a tag ends, from behind its name on. -/
def tagE (s : ByteArray) (k : Nat) : Int :=
  match tagStep s k with
  | .inl r => r
  | .inr m => if k < m ∧ m ≤ s.size then tagE s m else -1
  termination_by s.size - k
  decreasing_by omega

theorem tagE_done {s : ByteArray} {k : Nat} {r : Int} (h : tagStep s k = .inl r) : tagE s k = r := by
  rw [tagE, h]
theorem tagE_goes {s : ByteArray} {k m : Nat} (hk : k ≤ s.size) (h : tagStep s k = .inr m) : tagE s k = tagE s m := by
  rw [tagE, h]
  exact if_pos (tagStep_le hk h)

/-- Where a tag ends that begins at a place. -/
def tagEndE (s : ByteArray) (p : Int) : Int :=
  if 0 ≤ p ∧ (tailL s p.toNat).head? = some 60 then tagE s (runE tagU s (afterE s p.toNat)) else -1

end Go.Proofs.YtmambbknljgjcaaDoor.Sg
