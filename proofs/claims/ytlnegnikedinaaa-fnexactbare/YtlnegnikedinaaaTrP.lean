/- Trees, in plain terms. No program in it. -/
import Derived.Test.YtlnegnikedinaaaItMem
import Derived.Test.YtlnegnikedinaaaTkHas
import Derived.Test.YtlnegnikedinaaaKdIn
namespace Go.Proofs.Ytlnegnikedinaaa.Sg

/-- Whether one comes to i from k by Ups, within so many steps. -/
def underF (l : List ItB) (i : Int) : Nat → Int → Bool
  | 0, _ => false
  | f + 1, k => if h : 0 ≤ k ∧ k < (l.length : Int) then (if k = i then true else underF l i f (l[k.toNat]'(by omega)).up) else false
def underB (l : List ItB) (i k : Int) : Bool := underF l i (l.length + 1) k
theorem underF_out {l : List ItB} {i k : Int} {f : Nat} (h : ¬ (0 ≤ k ∧ k < (l.length : Int))) : underF l i f k = false := by
  cases f with
  | zero => rfl
  | succ f => rw [underF, dif_neg h]
theorem underF_hit {l : List ItB} {i k : Int} {f : Nat} (h : 0 ≤ k ∧ k < (l.length : Int)) (hk : k = i) : underF l i (f + 1) k = true := by
  rw [underF, dif_pos h, if_pos hk]
theorem underF_up {l : List ItB} {i k : Int} {f : Nat} (h : 0 ≤ k ∧ k < (l.length : Int)) (hk : k ≠ i) : underF l i (f + 1) k = underF l i f (l[k.toNat]'(by omega)).up := by
  rw [underF, dif_pos h, if_neg hk]

/-- How often a number is in a list. -/
def countI (n : Int) (l : List Int) : Nat := (l.filter fun x => x == n).length
theorem countI_drop (n : Int) (l : List Int) (k : Nat) (h : k < l.length) : countI n (l.take (k + 1)) = countI n (l.take k) + (if (l.getD k 0 == n) then 1 else 0) := by
  unfold countI
  rw [List.take_add_one, List.filter_append, List.length_append, List.getElem?_eq_getElem h]
  congr 1
  have e : l.getD k 0 = l[k]'h := by simp [List.getD, h]
  rw [e]
  by_cases hx : l[k]'h == n
  · simp [hx]
  · simp [hx]
theorem countI_le (n : Int) (l : List Int) : countI n l ≤ l.length := List.length_filter_le _ _

def emptyS (s : ByteArray) : Bool := s.toList == []
/-- No two attributes of one name, from one on. -/
def unlikeF (l : List AttrB) : Nat → Nat → Bool
  | 0, _ => true
  | f + 1, k => if h : k < l.length then !hasA (l.take k) (l[k]'h).1 && unlikeF l f (k + 1) else true
def unlikeB (l : List AttrB) : Bool := unlikeF l l.length 0
theorem unlikeF_end (l : List AttrB) (f k : Nat) (h : ¬ k < l.length) : unlikeF l f k = true := by
  cases f with
  | zero => rfl
  | succ f => unfold unlikeF; rw [dif_neg h]
theorem unlikeF_step (l : List AttrB) (f k : Nat) (h : k < l.length) (hf : l.length ≤ k + f) : ∃ g, f = g + 1 ∧ unlikeF l f k = (!hasA (l.take k) (l[k]'h).1 && unlikeF l g (k + 1)) := by
  cases f with
  | zero => omega
  | succ g => exact ⟨g, rfl, by rw [unlikeF, dif_pos h]⟩
/-- An item has what its kind has. -/
def plainB (t : ItB) : Bool :=
  if t.kd = 2 then !emptyS t.nm && (emptyS t.tx && (inP t.sp (0, 2) && unlikeB t.ats))
  else emptyS t.nm && (decide (t.ats.length = 0) && ((t.sp == 0) && (if t.kd = 1 then emptyS t.tx else if t.kd = 3 ∨ t.kd = 4 ∨ t.kd = 5 then decide (t.kids.length = 0) else false)))

/-- What the whole list holds. -/
def ItsW (l : List ItB) : Prop := l.length ≤ 1048576 ∧ ∀ t ∈ l, t.ats.length ≤ 1048576 ∧ t.kids.length ≤ 1048576

end Go.Proofs.Ytlnegnikedinaaa.Sg
