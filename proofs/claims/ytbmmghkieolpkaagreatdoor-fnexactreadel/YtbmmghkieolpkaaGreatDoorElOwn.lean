/- Elements that a call owns: each row in a block of its own. -/
import Derived.Test.YtbmmghkieolpkaaGreatDoorMR2303
import Derived.Test.YtbmmghkieolpkaaGreatDoorMR2301
namespace Go.Proofs.YtbmmghkieolpkaaGreatDoor.Sg
open Go.ChangeShapes Go.WideShapes Go.ChangeAt Go.RowKit

abbrev Foot := Nat → Prop
/-- An element as a value, whose attributes are owned, and whose kids are S; all of it in blocks that are F. -/
def ElOwn (S : List ElB → Value → Foot → Prop) (w : World) (B : Nat) : ElB → Value → Foot → Prop
  | .mk kd sp nm ats tx ks, v, F => ∃ av kv Fk, v = .agg #[.int .i64 kd, .int .i64 sp, .string nm, av, .string tx, kv] ∧ w.ownsRow B 73 2 av ats.length (attrCells ats) ∧ (∀ b, av.ownBlock = some b → F b ∧ ¬ Fk b) ∧ S ks kv Fk ∧ ∀ b, Fk b → F b
/-- A row of elements, so deep at most, that is owned: in blocks that are F. -/
def OwnS (w : World) (B : Nat) : Nat → List ElB → Value → Foot → Prop
  | 0, l, v, F => l = [] ∧ w.ownsRow B 25 6 v 0 [] ∧ ∀ b, v.ownBlock = some b → F b
  | n + 1, l, v, F => ∃ (C : List Value) (Fs : Nat → Foot), w.ownsRow B 25 6 v l.length C ∧ (∀ b, v.ownBlock = some b → F b) ∧ (∀ i, i < l.length → ∀ b, Fs i b → F b ∧ v.ownBlock ≠ some b) ∧ (∀ i j, i < l.length → j < l.length → i ≠ j → ∀ b, Fs i b → ¬ Fs j b) ∧ ∀ i (hi : i < l.length), ElOwn (OwnS w B n) w B (l[i]'hi) (sixV C i) (Fs i)

theorem owns_stay {w w' : World} {base : Nat} {e : TypeId} {size : Nat} {v : Value} {n : Nat} {xs : List Value} (ho : w.ownsRow base e size v n xs) (hb : ∀ b, v.ownBlock = some b → b < w.heap.size → w'.heap[b]? = w.heap[b]?) : w'.ownsRow base e size v n xs := by
  obtain ⟨h1, h2⟩ := ho
  refine ⟨h1, ?_⟩
  rcases h2 with h2 | ⟨g, cap, cur, rfl, h3, h4, h5⟩
  · exact .inl h2
  · exact .inr ⟨g, cap, cur, rfl, h3, (hb g rfl (Array.getElem?_eq_some_iff.1 h4).1).trans h4, h5⟩
theorem ElOwn.stay {S S' : List ElB → Value → Foot → Prop} {w w' : World} {B : Nat} {e : ElB} {v : Value} {F : Foot} (h : ElOwn S w B e v F) (hS : ∀ l v F', (∀ b, F' b → F b) → S l v F' → S' l v F') (hb : ∀ b, F b → b < w.heap.size → w'.heap[b]? = w.heap[b]?) : ElOwn S' w' B e v F := by
  obtain ⟨kd, sp, nm, ats, tx, ks⟩ := e
  obtain ⟨av, kv, Fk, rfl, ha, hab, hk, hkf⟩ := h
  exact ⟨av, kv, Fk, rfl, owns_stay ha (fun b h1 h2 => hb b (hab b h1).1 h2), hab, hS _ _ _ hkf hk, hkf⟩
theorem OwnS.stay {B : Nat} : ∀ (n : Nat) {w w' : World} {l : List ElB} {v : Value} {F : Foot}, OwnS w B n l v F → (∀ b, F b → b < w.heap.size → w'.heap[b]? = w.heap[b]?) → OwnS w' B n l v F
  | 0, _, _, _, _, _, ⟨h1, h2, h3⟩, hb => ⟨h1, owns_stay h2 (fun b h4 h5 => hb b (h3 b h4) h5), h3⟩
  | n + 1, _, _, _, _, _, ⟨C, Fs, h1, h2, h3, h4, h5⟩, hb =>
    ⟨C, Fs, owns_stay h1 (fun b h6 h7 => hb b (h2 b h6) h7), h2, h3, h4, fun i hi => (h5 i hi).stay (fun _ _ _ hF hs => OwnS.stay n hs (fun b hb1 hb2 => hb b ((h3 i hi b (hF b hb1)).1) hb2)) (fun b h6 h7 => hb b (h3 i hi b h6).1 h7)⟩
theorem OwnS.up {B : Nat} : ∀ (n : Nat) {w : World} {l : List ElB} {v : Value} {F : Foot}, OwnS w B n l v F → OwnS w B (n + 1) l v F
  | 0, _, _, _, _, ⟨h1, h2, h3⟩ => by
    subst h1
    exact ⟨[], fun _ _ => False, h2, h3, fun i hi => absurd hi (Nat.not_lt_zero _), fun i j hi => absurd hi (Nat.not_lt_zero _), fun i hi => absurd hi (Nat.not_lt_zero _)⟩
  | n + 1, _, _, _, _, ⟨C, Fs, h1, h2, h3, h4, h5⟩ => ⟨C, Fs, h1, h2, h3, h4, fun i hi => (h5 i hi).stay (fun _ _ _ _ hs => OwnS.up n hs) (fun _ _ _ => rfl)⟩
theorem OwnS.ups {B : Nat} {n m : Nat} {w : World} {l : List ElB} {v : Value} {F : Foot} (h : OwnS w B n l v F) (hm : n ≤ m) : OwnS w B m l v F := by
  obtain ⟨d, rfl⟩ := Nat.exists_eq_add_of_le hm
  clear hm
  induction d with
  | zero => exact h
  | succ k ih => exact OwnS.up _ ih
theorem OwnS.nil (w : World) (B n : Nat) (F : Foot) : OwnS w B n [] (.slice none 0 0) F := OwnS.ups (n := 0) ⟨rfl, ⟨rfl, .inl ⟨rfl, rfl⟩⟩, fun _ h => by cases h⟩ (Nat.zero_le _)
theorem OwnS.wide {B : Nat} {n : Nat} {w : World} {l : List ElB} {v : Value} {F F' : Foot} (h : OwnS w B n l v F) (hF : ∀ b, F b → F' b) : OwnS w B n l v F' := by
  cases n with
  | zero => exact ⟨h.1, h.2.1, fun b hb => hF b (h.2.2 b hb)⟩
  | succ n =>
    obtain ⟨C, Fs, h1, h2, h3, h4, h5⟩ := h
    exact ⟨C, Fs, h1, fun b hb => hF b (h2 b hb), fun i hi b hb => ⟨hF b (h3 i hi b hb).1, (h3 i hi b hb).2⟩, h4, h5⟩
/-- Owned elements lie in memory. -/
theorem els_type : (25 : Nat) ≠ 73 := by decide
theorem OwnS.form {B : Nat} {n : Nat} {w : World} {l : List ElB} {v : Value} {F : Foot} (h : OwnS w B n l v F) : ∃ C, w.ownsRow B 25 6 v l.length C ∧ ∀ b, v.ownBlock = some b → F b := by
  cases n with
  | zero => obtain ⟨h1, h2, h3⟩ := h; subst h1; exact ⟨[], h2, h3⟩
  | succ n => obtain ⟨C, Fs, h1, h2, _⟩ := h; exact ⟨C, h1, h2⟩
theorem OwnS.kids {B : Nat} : ∀ (n : Nat) {w : World} {l : List ElB} {v : Value} {F : Foot}, OwnS w B n l v F → ∃ a c, v = .slice a l.length c ∧ KidsIn (QP (B ≤ ·)) (B ≤ ·) w a l
  | 0, w, l, v, F, ⟨h1, h2, h3⟩ => by
    subst h1
    rcases h2.2 with ⟨rfl, _⟩ | ⟨g, cap, cur, rfl, _⟩
    · exact ⟨none, 0, rfl, .inl rfl⟩
    · exact ⟨_, cap, rfl, .inl rfl⟩
  | n + 1, w, l, v, F, ⟨C, Fs, ho, h2, h3, h4, h5⟩ => by
    have hC : C.length = l.length * 6 := ho.1
    rcases ho.2 with ⟨rfl, h0⟩ | ⟨g, cap, cur, rfl, hg, _⟩
    · have : l = [] := List.eq_nil_of_length_eq_zero h0
      subst this
      exact ⟨none, 0, rfl, .inl rfl⟩
    · refine ⟨some ⟨g, 0, none⟩, cap, rfl, .inr ⟨g, 0, rfl, hg, ElsIn.of fun i hi => ?_⟩⟩
      have cell : ∀ j, j < 6 → w.cell? ⟨g, i * 6 + j, none⟩ = some (C.getD (i * 6 + j) undef) := fun j hj => by
        have hlt : i * 6 + j < l.length * 6 := by omega
        rw [(own_cell ho hlt).1]
        simp [List.getD, show i * 6 + j < C.length by omega]
      have hv : ElV (QP (B ≤ ·)) (B ≤ ·) w (sixV C i) (l[i]'hi) := by
        have h6 := h5 i hi
        generalize l[i]'hi = e0 at h6 ⊢
        obtain ⟨kd, sp, nm, ats, tx, ks⟩ := e0
        obtain ⟨av, kv, Fk, e, ha, hab, hk, hkf⟩ := h6
        obtain ⟨a, c, ek, hkk⟩ := OwnS.kids n hk
        subst ek
        exact ⟨av, a, c, e, QP.of_own ha, hkk⟩
      rw [Nat.zero_add]
      exact ElV.cells hv (cell 0 (by omega)) (cell 1 (by omega)) (cell 2 (by omega)) (cell 3 (by omega)) (cell 4 (by omega)) (cell 5 (by omega))

mutual
def mkE : ElB → Nat → ElB
  | .mk _ _ _ ats _ ks, k => .mk (k : Int) ((k : Int) + 1) (markB (k + 2)) (markL (k + 3) ats.length) (markB (k + 3 + 2 * ats.length)) (mkEs ks (k + 4 + 2 * ats.length))
def mkEs : List ElB → Nat → List ElB
  | [], _ => []
  | e :: es, k => mkE e k :: mkEs es (k + cntE e)
def cntE : ElB → Nat
  | .mk _ _ _ ats _ ks => 4 + 2 * ats.length + cntEs ks
def cntEs : List ElB → Nat
  | [] => 0
  | e :: es => cntE e + cntEs es
end
theorem mkEs_length : ∀ (es : List ElB) (k : Nat), (mkEs es k).length = es.length
  | [], _ => by rw [mkEs]
  | e :: es, k => by rw [mkEs, List.length_cons, List.length_cons, mkEs_length es]
theorem cntEs_take : ∀ (es : List ElB) (i : Nat) (hi : i < es.length), cntEs (es.take (i + 1)) = cntEs (es.take i) + cntE (es[i]'hi) ∧ cntEs (es.take i) + cntE (es[i]'hi) ≤ cntEs es
  | e :: es, 0, _ => by simp [cntEs]
  | e :: es, i + 1, hi => by
    have h := cntEs_take es i (by simpa using hi)
    simp only [List.take_succ_cons, cntEs, List.getElem_cons_succ]
    omega
theorem mkEs_get : ∀ (es : List ElB) (k i : Nat) (hi : i < es.length) (hi' : i < (mkEs es k).length), (mkEs es k)[i]'hi' = mkE (es[i]'hi) (k + cntEs (es.take i))
  | e :: es, k, 0, _, _ => by simp [mkEs, cntEs]
  | e :: es, k, i + 1, hi, hi' => by
    have h := mkEs_get es (k + cntE e) i (by simpa using hi) (by rw [mkEs_length]; simpa using hi)
    simp only [mkEs, List.getElem_cons_succ, List.take_succ_cons, cntEs]
    rw [h]
    congr 1
    omega
theorem cntE_ats (kd sp : Int) (nm : ByteArray) (ats : List AttrB) (tx : ByteArray) (ks : List ElB) : cntE (.mk kd sp nm ats tx ks) = 4 + 2 * ats.length + cntEs ks := by rw [cntE]

end Go.Proofs.YtbmmghkieolpkaaGreatDoor.Sg
