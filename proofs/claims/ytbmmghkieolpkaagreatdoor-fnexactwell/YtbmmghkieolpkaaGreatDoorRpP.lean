/- Plain: what the program's reader reads: all attributes first, then the space that they tell; of that space nothing is asked. What it reads that the model does not is not strict. -/
import Derived.Test.YtbmmghkieolpkaaGreatDoorMW204
import Derived.Test.YtbmmghkieolpkaaGreatDoorMW211
import Derived.Test.YtbmmghkieolpkaaGreatDoorAtNamed
namespace Go.Proofs.YtbmmghkieolpkaaGreatDoor.Sg
open Go.ChangeShapes Go.WideShapes Go.ChangeAt Go.RowKit

/-- Attributes from place i on, as they stand, and where they end. -/
def rawA (s : ByteArray) : Nat → Nat → Option (List AttrB × Nat)
  | 0, _ => none
  | f + 1, i =>
    if s.data[i]? = some 32 then
      if xaI s ((i : Int) + 1) < 0 then none
      else (rawA s f (xaI s ((i : Int) + 1)).toNat).map fun r => ((xaN s ((i : Int) + 1), xaV s ((i : Int) + 1)) :: r.1, r.2)
    else some ([], i)
def isX (p : AttrB) : Bool := p.1.toList == xmlnsB.toList
def besideA (l : List AttrB) : List AttrB := l.filter fun p => !isX p
/-- The space that attributes tell, a nought less where they tell none. -/
def toldM (about : Int) (l : List AttrB) : Option Int := if hasA l xmlnsB = true then (if spaceI (findA l xmlnsB).2 = about then none else some (spaceI (findA l xmlnsB).2)) else some about
def toldX (about : Int) (l : List AttrB) : Option Int := if hasA l xmlnsB = true then (if spaceI (findA l xmlnsB).2 = about ∨ spaceI (findA l xmlnsB).2 < 0 then none else some (spaceI (findA l xmlnsB).2)) else some about
def attrsQ (s : ByteArray) (about : Int) (i : Nat) : Option (List AttrB × Int × Nat) :=
  match rawA s (s.size + 1) i with
  | none => none
  | some r => if unlikeB r.1 = false then none else (toldX about r.1).map fun sp => (besideA r.1, sp, r.2)

theorem hasA_app (l m : List AttrB) (x : ByteArray) : hasA (l ++ m) x = (hasA l x || hasA m x) := by unfold hasA; rw [List.any_append]
theorem beside_app (l m : List AttrB) : besideA (l ++ m) = besideA l ++ besideA m := by unfold besideA; rw [List.filter_append]
theorem findA_new (l : List AttrB) (p : AttrB) (m : List AttrB) (x : ByteArray) (h : hasA l x = false) (hp : (p.1.toList == x.toList) = true) : findA (l ++ p :: m) x = p := by
  induction l with
  | nil => rw [List.nil_append, findA, if_pos hp]
  | cons q l ih =>
    unfold hasA at h
    rw [List.any_cons, Bool.or_eq_false_iff] at h
    rw [List.cons_append, findA, h.1]
    exact ih h.2
theorem findA_old (l m : List AttrB) (x : ByteArray) (h : hasA l x = true) : findA (l ++ m) x = findA l x := by
  induction l with
  | nil => cases h
  | cons q l ih =>
    rw [List.cons_append, findA, findA]
    cases hq : q.1.toList == x.toList
    · unfold hasA at h
      rw [List.any_cons, hq, Bool.false_or] at h
      exact ih h
    · rfl
theorem hasA_alike (l : List AttrB) {x y : ByteArray} (h : x.toList = y.toList) : hasA l x = hasA l y := by unfold hasA; rw [h]
theorem unlike_snoc (l : List AttrB) (p : AttrB) : unlikeB (l ++ [p]) = (unlikeB l && !hasA l p.1) := by
  unfold unlikeB
  have e : anames (l ++ [p]) = anames l ++ [dL p.1] := by unfold anames; rw [List.map_append]; rfl
  rw [e, Bool.eq_iff_iff, Bool.and_eq_true, decide_eq_true_iff, decide_eq_true_iff, Bool.not_eq_true', List.nodup_append]
  have hh := hasA_iff l p.1
  constructor
  · rintro ⟨h1, _, h3⟩
    refine ⟨h1, ?_⟩
    cases hx : hasA l p.1
    · rfl
    · exact absurd rfl (h3 _ (hh.1 hx) _ (List.mem_singleton.2 rfl))
  · rintro ⟨h1, h2⟩
    refine ⟨h1, by simp, fun a ha b hb e => ?_⟩
    rw [List.mem_singleton] at hb
    subst hb
    subst e
    rw [hh.2 ha] at h2
    cases h2
theorem unlike_less (l m : List AttrB) (h : unlikeB l = false) : unlikeB (l ++ m) = false := by
  cases hx : unlikeB (l ++ m)
  · rfl
  · unfold unlikeB at h hx
    rw [decide_eq_true_iff] at hx
    rw [decide_eq_false_iff_not] at h
    have e : anames (l ++ m) = anames l ++ anames m := by unfold anames; rw [List.map_append]
    rw [e, List.nodup_append] at hx
    exact absurd hx.1 h
theorem hasA_beside (l : List AttrB) {x : ByteArray} (h : (x.toList == xmlnsB.toList) = false) : hasA (besideA l) x = hasA l x := by
  induction l with
  | nil => rfl
  | cons p l ih =>
    unfold besideA at ih ⊢
    unfold hasA at ih ⊢
    rw [List.filter_cons, List.any_cons]
    cases hp : isX p
    · simp only [Bool.not_false, if_true]
      rw [List.any_cons, ih]
    · rw [if_neg (by decide), ih]
      have : (p.1.toList == x.toList) = false := by
        cases hq : p.1.toList == x.toList
        · rfl
        · unfold isX at hp
          rw [beq_iff_eq.1 hq, h] at hp
          cases hp
      rw [this, Bool.false_or]
theorem hasA_beside_x (l : List AttrB) {x : ByteArray} (h : (x.toList == xmlnsB.toList) = true) : hasA (besideA l) x = false := by
  rw [hasA_alike _ (beq_iff_eq.1 h)]
  unfold hasA besideA
  rw [List.any_filter, List.any_eq_false]
  intro p _
  unfold isX
  cases p.1.toList == xmlnsB.toList <;> simp

/-- What the model makes of attributes whose first ones are read. -/
def finA (about : Int) (pre : List AttrB) : Option (List AttrB × Nat) → Option (List AttrB × Int × Nat)
  | none => none
  | some r => if unlikeB (pre ++ r.1) = false then none else match toldM about (pre ++ r.1) with
    | none => none
    | some sp => if 0 ≤ sp ∧ sp ≤ 2 then some (besideA (pre ++ r.1), sp, r.2) else none
theorem finA_some (about : Int) (pre : List AttrB) (r : List AttrB × Nat) : finA about pre (some r) = if unlikeB (pre ++ r.1) = false then none else match toldM about (pre ++ r.1) with
    | none => none
    | some sp => if 0 ≤ sp ∧ sp ≤ 2 then some (besideA (pre ++ r.1), sp, r.2) else none := rfl
theorem attrsR_raw (s : ByteArray) (about : Int) : ∀ (f i : Nat) (pre : List AttrB) (sp : Int), unlikeB pre = true → toldM about pre = some sp → attrsR s about f i (besideA pre) sp (hasA pre xmlnsB) = finA about pre (rawA s f i)
  | 0, _, _, _, _, _ => rfl
  | f + 1, i, pre, sp, hu, ht => by
    rw [attrsR, rawA]
    by_cases h32 : s.data[i]? = some 32
    · rw [if_pos h32, if_pos h32]
      by_cases h0 : xaI s ((i : Int) + 1) < 0
      · rw [if_pos h0, if_pos h0]
        rfl
      rw [if_neg h0, if_neg h0]
      generalize xaN s ((i : Int) + 1) = x
      generalize xaV s ((i : Int) + 1) = v
      generalize (xaI s ((i : Int) + 1)).toNat = j
      have hm : finA about pre ((rawA s f j).map fun r => ((x, v) :: r.1, r.2)) = finA about (pre ++ [(x, v)]) (rawA s f j) := by
        cases rawA s f j with
        | none => rfl
        | some r =>
          show finA about pre (some ((x, v) :: r.1, r.2)) = finA about (pre ++ [(x, v)]) (some r)
          rw [finA_some, finA_some]
          simp only [List.append_assoc, List.cons_append, List.nil_append]
      rw [hm]
      have hbs : besideA (pre ++ [(x, v)]) = besideA pre ++ (if (x.toList == xmlnsB.toList) = true then [] else [(x, v)]) := by
        rw [beside_app]
        congr 1
        unfold besideA
        rw [List.filter_cons, List.filter_nil]
        show (if (!(x.toList == xmlnsB.toList)) = true then [(x, v)] else []) = _
        cases x.toList == xmlnsB.toList <;> rfl
      have hdead : ∀ r, hasA pre x = true → finA about (pre ++ [(x, v)]) r = none := fun r hx => by
        cases r with
        | none => rfl
        | some r =>
          rw [finA_some]
          rw [if_pos (unlike_less _ _ (by rw [unlike_snoc, hx, hu]; rfl))]
      cases hx : x.toList == xmlnsB.toList
      · rw [hasA_beside pre hx]
        cases hh : hasA pre x
        · rw [if_neg (by simp), if_neg (by simp)]
          have hu2 : unlikeB (pre ++ [(x, v)]) = true := by rw [unlike_snoc, hu, hh]; rfl
          have h1 : hasA [(x, v)] xmlnsB = false := by unfold hasA; simp [hx]
          have hx2 : hasA (pre ++ [(x, v)]) xmlnsB = hasA pre xmlnsB := by rw [hasA_app, h1, Bool.or_false]
          have ht2 : toldM about (pre ++ [(x, v)]) = some sp := by
            rw [← ht]
            unfold toldM
            rw [hx2]
            cases hp : hasA pre xmlnsB
            · rfl
            · rw [findA_old _ _ _ hp]
          have := attrsR_raw s about f j (pre ++ [(x, v)]) sp hu2 ht2
          rw [hx2, hbs, if_neg (by rw [hx]; decide)] at this
          exact this
        · rw [if_pos (.inl rfl), hdead _ hh]
      · rw [hasA_beside_x pre hx, hasA_alike pre (beq_iff_eq.1 hx)] at *
        cases hh : hasA pre xmlnsB
        · rw [if_neg (by simp), if_pos rfl]
          have hu2 : unlikeB (pre ++ [(x, v)]) = true := by rw [unlike_snoc, hu, hasA_alike pre (beq_iff_eq.1 hx), hh]; rfl
          have hx2 : hasA (pre ++ [(x, v)]) xmlnsB = true := by
            rw [hasA_app, Bool.or_eq_true]
            right
            unfold hasA
            simpa using beq_iff_eq.1 hx
          have hf : ∀ m, findA (pre ++ (x, v) :: m) xmlnsB = (x, v) := fun m => findA_new pre (x, v) m xmlnsB hh hx
          by_cases hab : spaceI v = about
          · rw [if_pos hab]
            cases rawA s f j with
            | none => rfl
            | some r =>
              show none = finA about (pre ++ [(x, v)]) (some r)
              rw [finA_some]
              split
              · rfl
              · have : toldM about (pre ++ [(x, v)] ++ r.1) = none := by
                  unfold toldM
                  rw [if_pos (by rw [hasA_app, hx2]; rfl), List.append_assoc, List.cons_append, List.nil_append, hf, if_pos hab]
                rw [this]
          · rw [if_neg hab]
            have ht2 : toldM about (pre ++ [(x, v)]) = some (spaceI v) := by
              unfold toldM
              rw [if_pos hx2, hf, if_neg hab]
            have := attrsR_raw s about f j (pre ++ [(x, v)]) (spaceI v) hu2 ht2
            rw [hx2, hbs, if_pos hx, List.append_nil] at this
            exact this
        · rw [if_pos (.inr ⟨rfl, rfl⟩), hdead _ hh]
    · rw [if_neg h32, if_neg h32]
      have hu2 : ¬ (unlikeB pre = false) := by rw [hu]; decide
      rw [finA_some, List.append_nil, if_neg hu2, ht]
/-- The model's attributes are the program's, where the space that these tell is one. -/
theorem attrsR_some {s : ByteArray} {about : Int} {i : Nat} {r : List AttrB × Int × Nat} (h : attrsR s about (s.size + 1) i [] about false = some r) : attrsQ s about i = some r := by
  have h2 := attrsR_raw s about (s.size + 1) i [] about rfl rfl
  have e1 : besideA [] = [] := rfl
  have e2 : hasA [] xmlnsB = false := rfl
  rw [e1, e2, h] at h2
  unfold attrsQ
  cases hr : rawA s (s.size + 1) i with
  | none => rw [hr] at h2; cases h2
  | some q =>
    rw [hr] at h2
    rw [finA_some, List.nil_append] at h2
    split at h2
    · cases h2
    · rename_i hu
      simp only
      rw [if_neg hu]
      split at h2
      · cases h2
      · rename_i sp hsp
        split at h2
        · rename_i h3
          injection h2 with h2
          have : toldX about q.1 = some sp := by
            unfold toldM at hsp
            unfold toldX
            split at hsp
            · rename_i hx
              rw [if_pos hx]
              split at hsp
              · cases hsp
              · rename_i hne
                injection hsp with hsp
                rw [if_neg (by rw [hsp] at hne ⊢; intro h; rcases h with h | h; exact hne h; omega), hsp]
            · rename_i hx
              rw [if_neg hx]
              exact hsp
          rw [this, h2]
          rfl
        · cases h2
theorem attrsR_none {s : ByteArray} {about : Int} {i : Nat} (h : attrsR s about (s.size + 1) i [] about false = none) : attrsQ s about i = none ∨ ∃ l sp j, attrsQ s about i = some (l, sp, j) ∧ ¬ (0 ≤ sp ∧ sp ≤ 2) := by
  have h2 := attrsR_raw s about (s.size + 1) i [] about rfl rfl
  have e1 : besideA [] = [] := rfl
  have e2 : hasA [] xmlnsB = false := rfl
  rw [e1, e2, h] at h2
  unfold attrsQ
  cases hr : rawA s (s.size + 1) i with
  | none => exact .inl rfl
  | some q =>
    rw [hr] at h2
    rw [finA_some, List.nil_append] at h2
    simp only
    split at h2
    · rename_i hu
      rw [if_pos hu]
      exact .inl rfl
    · rename_i hu
      rw [if_neg hu]
      split at h2
      · rename_i hsp
        left
        have : toldX about q.1 = none := by
          unfold toldM at hsp
          unfold toldX
          split at hsp
          · rename_i hx
            rw [if_pos hx]
            split at hsp
            · rename_i he
              rw [if_pos (.inl he)]
            · cases hsp
          · cases hsp
        rw [this]
        rfl
      · rename_i sp hsp
        split at h2
        · cases h2
        · rename_i h3
          cases ht : toldX about q.1 with
          | none => exact .inl rfl
          | some sp' =>
            refine .inr ⟨_, _, _, rfl, ?_⟩
            have : sp' = sp := by
              unfold toldM at hsp
              unfold toldX at ht
              split at hsp
              · rename_i hx
                rw [if_pos hx] at ht
                split at hsp
                · cases hsp
                · split at ht
                  · cases ht
                  · injection hsp with hsp
                    injection ht with ht
                    rw [← hsp, ← ht]
              · rename_i hx
                rw [if_neg hx] at ht
                injection hsp with hsp
                injection ht with ht
                rw [← hsp, ← ht]
            rw [this]
            exact h3

/-- An element from place i on, as the program reads it. -/
def elQ (s : ByteArray) : Nat → Nat → Nat → Int → Option (ElB × Nat)
  | 0, _, _, _ => none
  | m + 1, deep, i, about =>
    if standsB s i ltS = false ∨ deep = 0 then none
    else if (xnS s ((i + 1 : Nat) : Int)).size = 0 then none
    else match attrsQ s about (xnI s ((i + 1 : Nat) : Int)).toNat with
      | none => none
      | some r =>
        if standsB s r.2.2 slashGt = true then some (.mk 1 r.2.1 (xnS s ((i + 1 : Nat) : Int)) r.1 ⟨#[]⟩ [], r.2.2 + 2)
        else if standsB s r.2.2 gtS = false then none
        else match kidsL s (fun q => elQ s m (deep - 1) q r.2.1) (s.size + 1) (r.2.2 + 1) with
          | none => none
          | some k => if standsB s k.2 (ltSlash ++ xnS s ((i + 1 : Nat) : Int) ++ gtS) = true then some (.mk 1 r.2.1 (xnS s ((i + 1 : Nat) : Int)) r.1 ⟨#[]⟩ k.1, k.2 + (ltSlash ++ xnS s ((i + 1 : Nat) : Int) ++ gtS).size) else none

/-- The second reads what the first one reads; what it reads besides is not strict. -/
def LikeE (a b : Option (ElB × Nat)) : Prop := (∀ x, a = some x → b = some x) ∧ (a = none → ∀ x, b = some x → okE x.1 = false)
def LikeL (a b : Option (List ElB × Nat)) : Prop := (∀ x, a = some x → b = some x) ∧ (a = none → ∀ x, b = some x → ∃ e ∈ x.1, okE e = false)
theorem okEs_bad : ∀ (es : List ElB) (pk : Int), (∃ e ∈ es, okE e = false) → okEs pk es = false
  | [], _, h => by obtain ⟨e, he, _⟩ := h; cases he
  | x :: es, pk, h => by
    rw [okEs]
    obtain ⟨e, he, hb⟩ := h
    rcases List.mem_cons.1 he with rfl | he
    · rw [hb]; rfl
    · rw [okEs_bad es _ ⟨e, he, hb⟩, Bool.and_false]
theorem kids_like (s : ByteArray) (a b : Nat → Option (ElB × Nat)) (h : ∀ i, LikeE (a i) (b i)) : ∀ (f i : Nat), LikeL (kidsL s a f i) (kidsL s b f i)
  | 0, i => ⟨fun x hx => (by cases hx), fun _ x hx => by cases hx⟩
  | f + 1, i => by
    have step : ∀ (e : ElB) (j : Nat), LikeL ((kidsL s a f j).map fun r => (e :: r.1, r.2)) ((kidsL s b f j).map fun r => (e :: r.1, r.2)) := fun e j => by
      have ih := kids_like s a b h f j
      constructor
      · intro x hx
        obtain ⟨r, hr, rfl⟩ := Option.map_eq_some_iff.1 hx
        rw [ih.1 r hr]
        rfl
      · intro hn x hx
        have hn' := Option.map_eq_none_iff.1 hn
        obtain ⟨r, hr, rfl⟩ := Option.map_eq_some_iff.1 hx
        obtain ⟨y, hy, hb⟩ := ih.2 hn' r hr
        exact ⟨y, List.mem_cons_of_mem _ hy, hb⟩
    rw [kidsL, kidsL]
    split
    · exact ⟨fun x hx => hx, fun hn => (by cases hn)⟩
    · split
      · exact ⟨fun x hx => hx, fun _ x hx => by cases hx⟩
      · split
        · split
          · exact ⟨fun x hx => hx, fun _ x hx => by cases hx⟩
          · exact step _ _
        · split
          · have hi := h i
            cases ha : a i with
            | none =>
              refine ⟨fun x hx => (by cases hx), fun _ x hx => ?_⟩
              cases hb : b i with
              | none => rw [hb] at hx; cases hx
              | some y =>
                rw [hb] at hx
                obtain ⟨r, hr, rfl⟩ := Option.map_eq_some_iff.1 hx
                exact ⟨y.1, List.mem_cons_self, hi.2 ha y hb⟩
            | some y =>
              rw [hi.1 y ha]
              exact step y.1 y.2
          · split
            · exact ⟨fun x hx => hx, fun _ x hx => by cases hx⟩
            · exact step _ _
theorem el_like (s : ByteArray) : ∀ (m deep i : Nat) (about : Int), LikeE (elM s m deep i about) (elQ s m deep i about)
  | 0, _, _, _ => ⟨fun x hx => (by cases hx), fun _ x hx => by cases hx⟩
  | m + 1, deep, i, about => by
    rw [elM, elQ]
    split
    · exact ⟨fun x hx => hx, fun _ x hx => by cases hx⟩
    · split
      · exact ⟨fun x hx => hx, fun _ x hx => by cases hx⟩
      · generalize xnS s ((i + 1 : Nat) : Int) = nm
        generalize (xnI s ((i + 1 : Nat) : Int)).toNat = j
        cases hr : attrsR s about (s.size + 1) j [] about false with
        | none =>
          refine ⟨fun x hx => (by cases hx), fun _ x hx => ?_⟩
          rcases attrsR_none hr with hq | ⟨l, sp, q, hq, hsp⟩
          · rw [hq] at hx
            cases hx
          · rw [hq] at hx
            have bad : ∀ ks, okE (.mk 1 sp nm l ⟨#[]⟩ ks) = false := fun ks => by
              have : inP sp (0, 2) = false := by
                cases hi : inP sp (0, 2)
                · rfl
                · exact absurd (inP_rd.1 hi) hsp
              rw [okE, okSelf, if_pos rfl, this, Bool.false_and, Bool.and_false]
            simp only at hx
            split at hx
            · injection hx with hx
              rw [← hx]
              exact bad _
            · split at hx
              · cases hx
              · split at hx
                · cases hx
                · split at hx
                  · injection hx with hx
                    rw [← hx]
                    exact bad _
                  · cases hx
        | some r =>
          rw [attrsR_some hr]
          simp only
          split
          · exact ⟨fun x hx => hx, fun hn => (by cases hn)⟩
          · split
            · exact ⟨fun x hx => hx, fun _ x hx => by cases hx⟩
            · have hk := kids_like s _ _ (fun q => el_like s m (deep - 1) q r.2.1) (s.size + 1) (r.2.2 + 1)
              cases hk1 : kidsL s (fun q => elM s m (deep - 1) q r.2.1) (s.size + 1) (r.2.2 + 1) with
              | none =>
                refine ⟨fun x hx => (by cases hx), fun _ x hx => ?_⟩
                cases hk2 : kidsL s (fun q => elQ s m (deep - 1) q r.2.1) (s.size + 1) (r.2.2 + 1) with
                | none => rw [hk2] at hx; cases hx
                | some k =>
                  rw [hk2] at hx
                  simp only at hx
                  split at hx
                  · injection hx with hx
                    rw [← hx, okE, okEs_bad _ _ (hk.2 hk1 k hk2), Bool.false_and]
                  · cases hx
              | some k =>
                rw [hk.1 k hk1]
                simp only
                split
                · exact ⟨fun x hx => hx, fun hn => (by cases hn)⟩
                · exact ⟨fun x hx => hx, fun _ x hx => by cases hx⟩

theorem doc_like (s : ByteArray) (a b : Nat → Option (ElB × Nat)) (h : ∀ i, LikeE (a i) (b i)) : ∀ (f i : Nat), (∀ l, docL s a f i = some l → docL s b f i = some l) ∧ (docL s a f i = none → ∀ l, docL s b f i = some l → ∃ e ∈ l, okE e = false)
  | 0, i => ⟨fun x hx => (by cases hx), fun _ x hx => by cases hx⟩
  | f + 1, i => by
    have step : ∀ (e : ElB) (j : Nat), (∀ l, (docL s a f j).map (fun r => e :: r) = some l → (docL s b f j).map (fun r => e :: r) = some l) ∧ ((docL s a f j).map (fun r => e :: r) = none → ∀ l, (docL s b f j).map (fun r => e :: r) = some l → ∃ e ∈ l, okE e = false) := fun e j => by
      have ih := doc_like s a b h f j
      constructor
      · intro x hx
        obtain ⟨r, hr, rfl⟩ := Option.map_eq_some_iff.1 hx
        rw [ih.1 r hr]
        rfl
      · intro hn x hx
        have hn' := Option.map_eq_none_iff.1 hn
        obtain ⟨r, hr, rfl⟩ := Option.map_eq_some_iff.1 hx
        obtain ⟨y, hy, hb⟩ := ih.2 hn' r hr
        exact ⟨y, List.mem_cons_of_mem _ hy, hb⟩
    rw [docL, docL]
    split
    · exact ⟨fun x hx => hx, fun hn => (by cases hn)⟩
    · split
      · split
        · exact ⟨fun x hx => hx, fun _ x hx => by cases hx⟩
        · split
          · exact step _ _
          · exact ⟨fun x hx => hx, fun _ x hx => by cases hx⟩
      · have hi := h i
        cases ha : a i with
        | none =>
          refine ⟨fun x hx => (by cases hx), fun _ x hx => ?_⟩
          cases hb : b i with
          | none => rw [hb] at hx; cases hx
          | some y =>
            rw [hb] at hx
            simp only at hx
            split at hx
            · obtain ⟨r, hr, rfl⟩ := Option.map_eq_some_iff.1 hx
              exact ⟨y.1, List.mem_cons_self, hi.2 ha y hb⟩
            · cases hx
        | some y =>
          rw [hi.1 y ha]
          simp only
          split
          · exact step _ _
          · exact ⟨fun x hx => hx, fun _ x hx => by cases hx⟩
theorem docF_bad : ∀ (es : List ElB) (t n : Nat), (∃ e ∈ es, okE e = false) → docF t n es = false
  | [], _, _, h => by obtain ⟨e, he, _⟩ := h; cases he
  | x :: es, t, n, h => by
    rw [docF]
    split
    · rename_i hs
      refine docF_bad es _ _ ?_
      obtain ⟨e, he, hb⟩ := h
      rcases List.mem_cons.1 he with rfl | he
      · have := hs.1
        unfold strictE at this
        rw [hb, Bool.and_false] at this
        cases this
      · exact ⟨e, he, hb⟩
    · rfl
/-- What the program reads of a strict text. -/
def readQ (s : ByteArray) : Option (List ElB) :=
  if 200000 < s.size ∨ standsB s 0 xmlHead = false then none
  else match docL s (fun q => elQ s (s.size + 1) 60 q (-1)) (s.size + 1) 22 with
    | none => none
    | some l => if docF 0 0 l = true then some l else none
theorem readQ_eq (s : ByteArray) : readQ s = readR s := by
  unfold readQ readR
  split
  · rfl
  · have h := doc_like s _ _ (fun q => el_like s (s.size + 1) 60 q (-1)) (s.size + 1) 22
    cases hm : docL s (fun q => elM s (s.size + 1) 60 q (-1)) (s.size + 1) 22 with
    | some l => rw [h.1 l hm]
    | none =>
      cases hq : docL s (fun q => elQ s (s.size + 1) 60 q (-1)) (s.size + 1) 22 with
      | none => rfl
      | some l => simp only [docF_bad l 0 0 (h.2 hm l hq)]; rfl

theorem rawA_size (s : ByteArray) : ∀ (f i : Nat) (r : List AttrB × Nat), rawA s f i = some r → i ≤ s.size → i ≤ r.2 ∧ r.2 ≤ s.size ∧ attrsW r.1 ≤ 5 * (r.2 - i)
  | 0, _, _, h, _ => by cases h
  | f + 1, i, r, h, hi => by
    rw [rawA] at h
    split at h
    · split at h
      · cases h
      · rename_i hx
        obtain ⟨j, ej, hj, hj2, hj3⟩ := xaI_le hx
        have et : (xaI s ((i : Int) + 1)).toNat = j := by omega
        rw [et] at h
        obtain ⟨r', hr', rfl⟩ := Option.map_eq_some_iff.1 h
        have := rawA_size s f j r' hr' hj2
        have e : attrsW ((xaN s ((i : Int) + 1), xaV s ((i : Int) + 1)) :: r'.1) = attrsW r'.1 + 1 + ((xaN s ((i : Int) + 1)).size + (xaV s ((i : Int) + 1)).size) := by
          unfold attrsW attrW
          simp
          omega
        simp only
        rw [e]
        omega
    · injection h with h
      rw [← h]
      have e1 : attrsW ([] : List AttrB) = 0 := rfl
      simp only
      rw [e1]
      omega
theorem attrsW_beside (l : List AttrB) : attrsW (besideA l) ≤ attrsW l := by
  induction l with
  | nil => exact Nat.le_refl _
  | cons p l ih =>
    have e : ∀ (q : AttrB) (m : List AttrB), attrsW (q :: m) = attrsW m + 1 + (q.1.size + q.2.size) := fun q m => by
      unfold attrsW attrW
      simp
      omega
    unfold besideA at ih ⊢
    rw [List.filter_cons]
    split
    · rw [e, e]
      omega
    · rw [e]
      omega
theorem attrsQ_size {s : ByteArray} {about : Int} {i : Nat} {r : List AttrB × Int × Nat} (h : attrsQ s about i = some r) (hi : i ≤ s.size) : i ≤ r.2.2 ∧ r.2.2 ≤ s.size ∧ attrsW r.1 ≤ 5 * (r.2.2 - i) := by
  unfold attrsQ at h
  split at h
  · cases h
  · rename_i q hq
    have h1 := rawA_size s _ i q hq hi
    split at h
    · cases h
    · obtain ⟨sp, _, rfl⟩ := Option.map_eq_some_iff.1 h
      have := attrsW_beside q.1
      exact ⟨h1.1, h1.2.1, by simp only; omega⟩
theorem elQ_size (s : ByteArray) : ∀ (m deep : Nat) (about : Int), ElSz s (fun i => elQ s m deep i about)
  | 0, _, _ => fun k e j _ h => by cases h
  | m + 1, deep, about => fun i e j hi h => by
    simp only [elQ] at h
    split at h
    · cases h
    · rename_i h1
      have hst : standsB s i ltS = true := by
        cases e : standsB s i ltS
        · exact absurd (.inl e) h1
        · rfl
      have hi1 := stands_le hst
      have u1 : ltS.size = 1 := rfl
      rw [u1] at hi1
      split at h
      · cases h
      · obtain ⟨j1, ej1, hj1, hj2, hj3⟩ := xnI_le (s := s) (k := i + 1) hi1
        have et : (xnI s ((i + 1 : Nat) : Int)).toNat = j1 := by omega
        rw [et] at h
        have e0 : (⟨#[]⟩ : ByteArray).size = 0 := rfl
        have e2 : elsW ([] : List ElB) = 0 := by unfold elsW; rfl
        split at h
        · cases h
        · rename_i r hr
          have ha := attrsQ_size hr hj2
          split at h
          · rename_i hsl
            have h2 := stands_le hsl
            have u2 : slashGt.size = 2 := rfl
            injection h with h
            injection h with h3 h4
            rw [← h3, ← h4]
            unfold elW
            rw [e0, e2, List.length_nil]
            omega
          · split at h
            · cases h
            · rename_i hgt
              have hgt' : standsB s r.2.2 gtS = true := by
                cases e : standsB s r.2.2 gtS
                · exact absurd e hgt
                · rfl
              have h2 := stands_le hgt'
              have u2 : gtS.size = 1 := rfl
              split at h
              · cases h
              · rename_i k hk
                have h5 := kids_size s (fun q => elQ s m (deep - 1) q r.2.1) (elQ_size s m (deep - 1) r.2.1) _ _ k hk (by omega)
                split at h
                · rename_i hcl
                  have h6 := stands_le hcl
                  have u3 : ltSlash.size = 2 := rfl
                  have u4 : (ltSlash ++ xnS s ((i + 1 : Nat) : Int) ++ gtS).size = 2 + (xnS s ((i + 1 : Nat) : Int)).size + 1 := by
                    simp only [ByteArray.size_append]
                    rw [u2, u3]
                  injection h with h
                  injection h with h3 h4
                  rw [← h3, ← h4]
                  unfold elW
                  rw [e0]
                  omega
                · cases h

end Go.Proofs.YtbmmghkieolpkaaGreatDoor.Sg
