/- From an item to its Up, and so on: in plain terms. No program in it. -/
import Derived.Test.YtijdbflfnopmhaaTrP
namespace Go.Proofs.Ytijdbflfnopmhaa.Sg

/-- An item's Up; what is no item's number stays. -/
def upI (l : List ItB) (k : Int) : Int := if h : 0 ≤ k ∧ k < (l.length : Int) then (l[k.toNat]'(by omega)).up else k
/-- Where one is after so many Ups. -/
def stI (l : List ItB) (k : Int) : Nat → Int
  | 0 => k
  | j + 1 => upI l (stI l k j)
def inI (l : List ItB) (k : Int) : Prop := 0 ≤ k ∧ k < (l.length : Int)

theorem stI_first (l : List ItB) (k : Int) (j : Nat) : stI l k (j + 1) = stI l (upI l k) j := by
  induction j with
  | zero => rfl
  | succ j ih => show upI l (stI l k (j + 1)) = upI l (stI l (upI l k) j); rw [ih]
theorem stI_add (l : List ItB) (k : Int) (p d : Nat) : stI l k (p + d) = stI l (stI l k p) d := by
  induction d with
  | zero => rfl
  | succ d ih => show upI l (stI l k (p + d)) = upI l _; rw [ih]
theorem stI_out {l : List ItB} {k : Int} (h : ¬ inI l k) (j : Nat) : stI l k j = k := by
  induction j with
  | zero => rfl
  | succ j ih => show upI l (stI l k j) = k; rw [ih]; exact dif_neg (show ¬ (0 ≤ k ∧ k < (l.length : Int)) from h)
theorem upI_in {l : List ItB} {k : Int} (h : inI l k) : upI l k = (l[k.toNat]'(by have := h.1; have := h.2; omega)).up := dif_pos (show 0 ≤ k ∧ k < (l.length : Int) from h)
/-- Where one is in the list later, one was in it ahead. -/
theorem stI_before {l : List ItB} {k : Int} {p q : Nat} (hq : inI l (stI l k q)) (h : p ≤ q) : inI l (stI l k p) := by
  refine Classical.byContradiction fun hn => hn ?_
  have e : stI l k q = stI l k p := by
    have := stI_add l k p (q - p)
    rw [show p + (q - p) = q by omega] at this
    rw [this, stI_out hn]
  rw [← e]
  exact hq

theorem underF_iff (l : List ItB) (i : Int) : ∀ (f : Nat) (k : Int), underF l i f k = true ↔ ∃ j, j < f ∧ inI l (stI l k j) ∧ stI l k j = i
  | 0, k => by
    constructor
    · intro h
      cases h
    · rintro ⟨j, h, _⟩
      exact absurd h (Nat.not_lt_zero _)
  | f + 1, k => by
    by_cases hk : inI l k
    · by_cases hi : k = i
      · rw [underF_hit hk hi]
        exact ⟨fun _ => ⟨0, Nat.succ_pos _, hk, hi⟩, fun _ => rfl⟩
      · rw [underF_up hk hi, ← upI_in hk, underF_iff l i f]
        constructor
        · rintro ⟨j, h1, h2, h3⟩
          rw [← stI_first] at h2 h3
          exact ⟨j + 1, by omega, h2, h3⟩
        · rintro ⟨j, h1, h2, h3⟩
          cases j with
          | zero => exact absurd h3 hi
          | succ j =>
            rw [stI_first] at h2 h3
            exact ⟨j, by omega, h2, h3⟩
    · rw [underF_out hk]
      constructor
      · intro h
        cases h
      · rintro ⟨j, _, h2, _⟩
        rw [stI_out hk] at h2
        exact absurd h2 hk

/-- Unlike numbers below n are n at most. -/
theorem nodup_le : ∀ (n : Nat) (xs : List Nat), xs.Nodup → (∀ x ∈ xs, x < n) → xs.length ≤ n
  | 0, xs, _, h => by
    cases xs with
    | nil => exact Nat.le_refl _
    | cons x xs => exact absurd (h x List.mem_cons_self) (Nat.not_lt_zero _)
  | n + 1, xs, hd, h => by
    by_cases hm : n ∈ xs
    · have h1 := nodup_le n (xs.erase n) (hd.erase n) (fun x hx => by
        have h2 := (List.Nodup.mem_erase_iff hd).1 hx
        have := h x h2.2
        have := h2.1
        omega)
      have h3 := List.length_erase_of_mem hm
      have : 0 < xs.length := List.length_pos_of_mem hm
      omega
    · have := nodup_le n xs hd (fun x hx => by
        have := h x hx
        have : x ≠ n := fun e => hm (e ▸ hx)
        omega)
      omega

/-- Whom one comes to, one comes to in fewer Ups than there are items. -/
theorem st_short {l : List ItB} {i k : Int} : ∀ (m : Nat), inI l (stI l k m) → stI l k m = i → ∃ j, j < l.length ∧ inI l (stI l k j) ∧ stI l k j = i := by
  intro m
  induction m using Nat.strongRecOn with
  | _ m ih =>
    intro h1 h2
    by_cases hm : m < l.length
    · exact ⟨m, hm, h1, h2⟩
    · -- two of the first ones are one
      have hcl : ∃ p q, p < q ∧ q ≤ m ∧ stI l k p = stI l k q := by
        refine Classical.byContradiction fun hn => ?_
        have hdist : ∀ p q, p < q → q ≤ m → stI l k p ≠ stI l k q := fun p q hp hq e => hn ⟨p, q, hp, hq, e⟩
        have hnd : ((List.range (m + 1)).map fun j => (stI l k j).toNat).Nodup := by
          refine List.pairwise_map.2 ?_
          have hr : List.Pairwise (fun a b => a < b) (List.range (m + 1)) := List.pairwise_lt_range
          have hr2 : List.Pairwise (fun a b => a < b ∧ b ≤ m) (List.range (m + 1)) := by
            refine hr.imp_of_mem ?_
            intro a b _ hb hab
            exact ⟨hab, by have := List.mem_range.1 hb; omega⟩
          refine hr2.imp ?_
          intro a b ⟨hab, hb⟩ e
          have ha1 := stI_before h1 (show a ≤ m by omega)
          have hb1 := stI_before h1 hb
          have := hdist a b hab hb
          have := ha1.1
          have := hb1.1
          omega
        have hle := nodup_le l.length _ hnd (fun x hx => by
          obtain ⟨j, hj, rfl⟩ := List.mem_map.1 hx
          have h3 := stI_before h1 (show j ≤ m by have := List.mem_range.1 hj; omega)
          have := h3.1
          have := h3.2
          omega)
        rw [List.length_map, List.length_range] at hle
        omega
      obtain ⟨p, q, hpq, hqm, he⟩ := hcl
      have e2 : stI l k (p + (m - q)) = stI l k m := by
        rw [stI_add, he, ← stI_add, show q + (m - q) = m by omega]
      exact ih (p + (m - q)) (by omega) (by rw [e2]; exact h1) (by rw [e2]; exact h2)

/-- What came, k of them. -/
def uptoI (l : List ItB) (k : Int) (m : Nat) : List Int := (List.range m).map (stI l k)
theorem uptoI_succ (l : List ItB) (k : Int) (m : Nat) : uptoI l k (m + 1) = uptoI l k m ++ [stI l k m] := by simp [uptoI, List.range_succ]
theorem uptoI_length (l : List ItB) (k : Int) (m : Nat) : (uptoI l k m).length = m := by simp [uptoI]
theorem mem_uptoI {l : List ItB} {k i : Int} {m : Nat} : i ∈ uptoI l k m ↔ ∃ j, j < m ∧ stI l k j = i := by
  unfold uptoI
  rw [List.mem_map]
  exact ⟨fun ⟨j, h, e⟩ => ⟨j, List.mem_range.1 h, e⟩, fun ⟨j, h, e⟩ => ⟨j, List.mem_range.2 h, e⟩⟩

/-- The program's answer, where it found i among those that came. -/
theorem under_found {l : List ItB} {i k : Int} {m : Nat} (hm : m ≤ l.length) (hin : ∀ j, j < m → inI l (stI l k j)) (h : i ∈ uptoI l k m) : underB l i k = true := by
  obtain ⟨j, hj, e⟩ := mem_uptoI.1 h
  exact (underF_iff l i _ k).2 ⟨j, by omega, hin j hj, e⟩
/-- .. and where all came, and none was i. -/
theorem under_none {l : List ItB} {i k : Int} {m : Nat} (hend : m = l.length ∨ ¬ inI l (stI l k m)) (h : ∀ y ∈ uptoI l k m, y ≠ i) : underB l i k = false := by
  refine Bool.eq_false_iff.2 fun ht => ?_
  obtain ⟨j, _, h2, h3⟩ := (underF_iff l i _ k).1 ht
  obtain ⟨j', h4, h5, h6⟩ := st_short j h2 h3
  by_cases hj : j' < m
  · exact h i (mem_uptoI.2 ⟨j', hj, h6⟩) rfl
  · rcases hend with e | e
    · omega
    · exact e (stI_before h5 (by omega))

end Go.Proofs.Ytijdbflfnopmhaa.Sg
