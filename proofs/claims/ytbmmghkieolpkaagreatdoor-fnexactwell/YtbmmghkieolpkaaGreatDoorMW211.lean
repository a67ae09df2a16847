/- Contracts of the model's l17Said, ElSaid and Write. Contracts of the model's ElSaid and Write. A row of elements that grows beside the reader's block p, which may lie behind it: none of it lies in p. Contracts of the model's Read and Well. Written by mk_rdread.py. Contract of the model's ReadEl. Plain: texts that are sorted, of which runs of like ones are one. The beginning of a row that is owned. Contract of the program's unlikeNames: no name of attributes stands twice. Plain: attributes are strict just where each is so by itself, and no name stands twice. A block of two cells. Attributes compared as structs. -/
import Derived.Test.YtbmmghkieolpkaaGreatDoorMW214
import Derived.Test.YtbmmghkieolpkaaGreatDoorMW204
import Derived.BigRegion
import Derived.Test.YtbmmghkieolpkaaGreatDoorSgOk
import Derived.OwnWalk
import Derived.Lib.SlicesCompact
import Derived.Sort.Walk0
import Derived.Sort.OwnSorted
import Derived.Test.YtbmmghkieolpkaaGreatDoorMW207
import Derived.Test.YtbmmghkieolpkaaGreatDoorShelf
import Derived.Laws.AppendOwn
import Derived.Laws.MakeOwn
import Derived.Below
namespace Go.Proofs.YtbmmghkieolpkaaGreatDoor.Sg
open Go.ChangeShapes Go.WideShapes Go.ChangeAt Go.RowKit

end Go.Proofs.YtbmmghkieolpkaaGreatDoor.Sg

namespace Go.Proofs.YtbmmghkieolpkaaGreatDoor.Sg
open Go.ChangeShapes Go.WideShapes Go.ChangeAt Go.RowKit

def xmlHead : ByteArray := ⟨#[60, 63, 120, 109, 108, 32, 118, 101, 114, 115, 105, 111, 110, 61, 34, 49, 46, 48, 34, 63, 62, 10]⟩
end Go.Proofs.YtbmmghkieolpkaaGreatDoor.Sg

namespace Go.Proofs.YtbmmghkieolpkaaGreatDoor.Sg
open Go.ChangeShapes Go.WideShapes Go.ChangeAt Go.RowKit

def RowP (p : Nat) (w : World) (lo : Nat) (v : Value) (l : List ElB) : Prop :=
  ∃ g cap C, v = .slice (some ⟨g, 0, none⟩) l.length cap ∧ g ≠ p ∧ w.ownsRow lo 25 6 v l.length C ∧ ∀ i (hi : i < l.length), ElP (fun b => (lo ≤ b ∧ b ≠ g) ∧ b ≠ p) w (sixV C i) (l[i]'hi)
theorem Fr.ownsP {p base g : Nat} {a b : World} (h : Fr p a b) {e : TypeId} {size n c : Nat} {xs : List Value} (hp : g ≠ p) (ho : a.ownsRow base e size (.slice (some ⟨g, 0, none⟩) n c) n xs) : b.ownsRow base e size (.slice (some ⟨g, 0, none⟩) n c) n xs := by
  obtain ⟨h1, h2⟩ := ho
  refine ⟨h1, ?_⟩
  rcases h2 with ⟨h2, _⟩ | ⟨g', cap, cur, e', h3, h4, h5⟩
  · cases h2
  · injection e' with e1 e2 e3
    injection e1 with e1
    injection e1 with e1
    subst e1 e3
    exact .inr ⟨g, c, cur, rfl, h3, (h.block g (Array.getElem?_eq_some_iff.1 h4).1 hp).trans h4, h5⟩
theorem RowP.empty (p : Nat) (w : World) (lo : Nat) (h : lo ≤ w.heap.size) (hp : w.heap.size ≠ p) : RowP p (w.alloc (.cells #[] 25)) lo (.slice (some ⟨w.heap.size, 0, none⟩) 0 0) [] :=
  ⟨w.heap.size, 0, [], rfl, hp, ⟨rfl, .inr ⟨w.heap.size, 0, #[], rfl, h, by show (w.heap.push _)[w.heap.size]? = _; simp, Nat.le_refl _, Nat.zero_le _, rfl, rfl⟩⟩, fun i hi => absurd hi (Nat.not_lt_zero _)⟩
theorem RowP.keep {p : Nat} {w w' : World} {lo : Nat} {v : Value} {l : List ElB} (h : RowP p w lo v l) (hb : Below w.heap.size w w') : RowP p w' lo v l := by
  obtain ⟨g, cap, C, e, hp, ho, hv⟩ := h
  exact ⟨g, cap, C, e, hp, owns_below ho (Nat.le_refl _) hb, fun i hi => (hv i hi).stay (fun b _ h2 => hb.block b h2) hb.size⟩
theorem RowP.fr {p : Nat} {w w' : World} {lo : Nat} {v : Value} {l : List ElB} (h : RowP p w lo v l) (hf : Fr p w w') : RowP p w' lo v l := by
  obtain ⟨g, cap, C, e, hp, ho, hv⟩ := h
  subst e
  exact ⟨g, cap, C, rfl, hp, hf.ownsP hp ho, fun i hi => (hv i hi).fr hf (fun h => h.2 rfl)⟩
theorem RowP.form {p : Nat} {w : World} {lo : Nat} {v : Value} {l : List ElB} (h : RowP p w lo v l) : ∃ g cap, v = .slice (some ⟨g, 0, none⟩) l.length cap ∧ g ≠ p ∧ lo ≤ g ∧ g < w.heap.size := by
  obtain ⟨g, cap, C, e, hp, ho, hv⟩ := h
  subst e
  have := ho.lt g rfl
  exact ⟨g, cap, rfl, hp, this.1, this.2⟩
theorem RowP.kids {p : Nat} {w : World} {lo : Nat} {v : Value} {l : List ElB} (h : RowP p w lo v l) : ∃ g cap, v = .slice (some ⟨g, 0, none⟩) l.length cap ∧ KidsIn (QP (lo ≤ ·)) (lo ≤ ·) w (some ⟨g, 0, none⟩) l := by
  obtain ⟨g, cap, C, e, hp, ho, hv⟩ := h
  exact RowL.kids ⟨g, cap, C, e, ho, fun i hi => (hv i hi).wide (fun b _ h => h.1)⟩
theorem RdAt.grownP {p g n c : Nat} {a b : World} {s : ByteArray} {k : Int} {ok : Bool} (h : RdAt a p s k ok) (hp : g ≠ p) (hg : a.grownBy b (Value.slice (some ⟨g, 0, none⟩) n c).ownBlock) : RdAt b p s k ok :=
  (hg.block p h.lt (fun e => by
    have e' : some p = some g := e
    injection e' with e'
    exact hp e'.symm)).trans h
/-- One more is appended. -/
theorem RowP.more {p : Nat} {w w' : World} {lo N : Nat} {v v' : Value} {l : List ElB} {C : List Value} {g : Nat} {a0 a1 a2 a3 a4 a5 : Value} {e : ElB}
    (hv : v.ownBlock = some g) (hgp : g ≠ p) (hpw : p < w.heap.size) (hC : C.length = l.length * 6) (hl : ∀ i (hi : i < l.length), ElP (fun b => (lo ≤ b ∧ b ≠ g) ∧ b ≠ p) w (sixV C i) (l[i]'hi)) (hN : g < N) (hpN : p < N) (hlo : lo ≤ N) (he : ElP (N ≤ ·) w (.agg #[a0, a1, a2, a3, a4, a5]) e)
    (ho : w'.ownsRow lo 25 6 v' (l.length + 1) (C ++ [a0, a1, a2, a3, a4, a5])) (hg : w.grownBy w' v.ownBlock) (hb : ∀ b, v'.ownBlock = some b → v.ownBlock = some b ∨ w.heap.size ≤ b) : RowP p w' lo v' (l ++ [e]) := by
  rcases ho.2 with ⟨rfl, h0⟩ | ⟨g', cap', cur, rfl, h3, h4, h5⟩
  · omega
  have hlen : (l ++ [e]).length = l.length + 1 := by simp
  have hg' := hb g' rfl
  have kept : ∀ b, (lo ≤ b ∧ b ≠ g) → b < w.heap.size → w'.heap[b]? = w.heap[b]? := fun b h1 h2 => hg.block b h2 (fun e => h1.2 (by rw [hv] at e; injection e))
  have new : ∀ b, b < w.heap.size → b ≠ g → b ≠ g' := fun b h1 h2 => by
    rcases hg' with h | h
    · rw [hv] at h
      injection h with h
      omega
    · omega
  have hg'p : g' ≠ p := by
    rcases hg' with h | h
    · rw [hv] at h
      injection h with h
      omega
    · omega
  refine ⟨g', cap', C ++ [a0, a1, a2, a3, a4, a5], by rw [hlen], hg'p, by rw [hlen]; exact ho, fun i hi => ?_⟩
  have e1 : ∀ j, j < C.length → (C ++ [a0, a1, a2, a3, a4, a5]).getD j undef = C.getD j undef := fun j hj => getD_old hj
  by_cases hil : i < l.length
  · have h1 := (((hl i hil).wide (P' := fun b => ((lo ≤ b ∧ b ≠ g) ∧ b ≠ p) ∧ b ≠ g') (fun b h1 h2 => ⟨h2, new b h1 h2.1.2⟩)).stay (w' := w') (fun b h1 h2 => kept b h1.1.1 h2) hg.size).wide (P' := fun b => (lo ≤ b ∧ b ≠ g') ∧ b ≠ p) (fun b _ h => ⟨⟨h.1.1.1, h.2⟩, h.1.2⟩)
    have eS : sixV (C ++ [a0, a1, a2, a3, a4, a5]) i = sixV C i := by
      unfold sixV
      rw [e1 _ (by omega), e1 _ (by omega), e1 _ (by omega), e1 _ (by omega), e1 _ (by omega), e1 _ (by omega)]
    have eL : (l ++ [e])[i]'hi = l[i]'hil := List.getElem_append_left hil
    rw [eS, eL]
    exact h1
  · have hie : i = l.length := by rw [hlen] at hi; omega
    subst hie
    have h1 := ((he.wide (P' := fun b => ((lo ≤ b ∧ b ≠ g) ∧ b ≠ p) ∧ b ≠ g') (fun b h1 h2 => by
      have h3 : b ≠ g := by omega
      exact ⟨⟨⟨Nat.le_trans hlo h2, h3⟩, by omega⟩, new b h1 h3⟩)).stay (w' := w') (fun b h1 h2 => kept b h1.1.1 h2) hg.size).wide (P' := fun b => (lo ≤ b ∧ b ≠ g') ∧ b ≠ p) (fun b _ h => ⟨⟨h.1.1.1, h.2⟩, h.1.2⟩)
    have e2 : ∀ j, (C ++ [a0, a1, a2, a3, a4, a5]).getD (l.length * 6 + j) undef = [a0, a1, a2, a3, a4, a5].getD j undef := fun j => by rw [← hC]; exact getD_new
    have eS : sixV (C ++ [a0, a1, a2, a3, a4, a5]) l.length = .agg #[a0, a1, a2, a3, a4, a5] := by
      have e20 := e2 0
      rw [Nat.add_zero] at e20
      unfold sixV
      rw [e20, e2 1, e2 2, e2 3, e2 4, e2 5]
      rfl
    have eL : (l ++ [e])[l.length]'hi = e := by simp
    rw [eS, eL]
    exact h1

/-- Elements and notes from place i on, a byte 10 behind each, to the end; none: refused. -/
def nlS : ByteArray := ⟨#[10]⟩
def docL (s : ByteArray) (el : Nat → Option (ElB × Nat)) : Nat → Nat → Option (List ElB)
  | 0, _ => none
  | f + 1, i =>
    if ¬ i < s.size then some []
    else if standsB s i openNoteB = true then
      if xoI s (i : Int) < 0 then none
      else if standsB s (xoI s (i : Int)).toNat nlS = true then (docL s el f ((xoI s (i : Int)).toNat + 1)).map fun r => .mk 3 0 ⟨#[]⟩ [] (xoS s (i : Int)) [] :: r else none
    else match el i with
      | none => none
      | some x => if standsB s x.2 nlS = true then (docL s el f (x.2 + 1)).map fun r => x.1 :: r else none
/-- What is read of a strict text; none: refused. -/
def readR (s : ByteArray) : Option (List ElB) :=
  if 200000 < s.size ∨ standsB s 0 xmlHead = false then none
  else match docL s (fun q => elM s (s.size + 1) 60 q (-1)) (s.size + 1) 22 with
    | none => none
    | some l => if docF 0 0 l = true then some l else none
theorem docL_size (s : ByteArray) (el : Nat → Option (ElB × Nat)) (hE : ElSz s el) : ∀ (f i : Nat) (r : List ElB), docL s el f i = some r → i ≤ s.size → r.length + elsW r ≤ 5 * (s.size - i)
  | 0, _, _, h, _ => by cases h
  | f + 1, i, r, h, hi => by
    have u : nlS.size = 1 := rfl
    rw [docL] at h
    split at h
    · injection h with h
      rw [← h]
      simp [elsW]
    · split at h
      · split at h
        · cases h
        · rename_i hx
          obtain ⟨j, ej, hj, hj2, hj3⟩ := xoI_le hx
          have et : (xoI s (i : Int)).toNat = j := by omega
          rw [et] at h
          split at h
          · rename_i hst
            have h1 := stands_le hst
            obtain ⟨r', hr', rfl⟩ := Option.map_eq_some_iff.1 h
            have h2 := docL_size s el hE f (j + 1) r' hr' (by omega)
            have hw : elW (.mk 3 0 ⟨#[]⟩ [] (xoS s (i : Int)) []) ≤ (xoS s (i : Int)).size := Nat.le_of_eq (elW_bare 3 _)
            simp only [List.length_cons, elsW]
            omega
          · cases h
      · split at h
        · cases h
        · rename_i x hx
          obtain ⟨e, j⟩ := x
          have h1 := hE i e j hi hx
          split at h
          · rename_i hst
            have h3 := stands_le hst
            obtain ⟨r', hr', rfl⟩ := Option.map_eq_some_iff.1 h
            have h2 := docL_size s el hE f (j + 1) r' hr' (by omega)
            simp only [List.length_cons, elsW]
            omega
          · cases h
end Go.Proofs.YtbmmghkieolpkaaGreatDoor.Sg

namespace Go.Proofs.YtbmmghkieolpkaaGreatDoor.Sg
open Go.ChangeShapes Go.WideShapes Go.ChangeAt Go.RowKit

theorem below_own {w a b : World} {e : TypeId} {z : Nat} {v : Value} {n : Nat} {xs : List Value} (h : Below w.heap.size w a) (ho : a.ownsRow w.heap.size e z v n xs) (hg : a.grownBy b v.ownBlock) : Below w.heap.size w b :=
  ⟨hg.os.trans h.os, hg.tape.trans h.tape, hg.output.trans h.output, Nat.le_trans h.size hg.size, fun k hk => (hg.block k (Nat.lt_of_lt_of_le hk h.size) (fun e => absurd (own_base ho e.symm) (Nat.not_le_of_lt hk))).trans (h.block k hk)⟩
theorem doc_more {l x : List ElB} {o : Option (List ElB)} : (o.map fun r => x ++ r).map (fun r => l ++ r) = o.map fun r => (l ++ x) ++ r := by
  cases o <;> simp
theorem KidsIn.qa {lo : Nat} {w : World} {a : Option Addr} {l : List ElB} (h : KidsIn (QP (lo ≤ ·)) (lo ≤ ·) w a l) : KidsIn (QA lo) (lo ≤ ·) w a l := by
  rcases h with h | ⟨b, o, e, hp, hk⟩
  · exact .inl h
  · exact .inr ⟨b, o, e, hp, ElsIn.wider (fun _ _ hq => hq.qa) (fun _ hb => hb) l b o hk⟩
theorem QP.lies (P : Nat → Prop) : Lies (QP P) := ⟨fun ⟨x, c, e, h1, h3, h4⟩ hb => ⟨x, c, e, fun b o m h => ⟨(h1 b o m h).1, Nat.lt_of_lt_of_le (h1 b o m h).2 hb.size⟩, h3.below hb, h4⟩, fun ⟨_, c, e, _⟩ => ⟨_, c, e⟩⟩
def finR : Option (List ElB) → Option (List ElB)
  | none => none
  | some l => if docF 0 0 l = true then some l else none
/-- What Read leaves. -/
def ReadLeft (w : World) (R : Option (List ElB)) (r : Ending) (w' : World) : Prop :=
  Below w.heap.size w w' ∧ ((∃ l g c, R = some l ∧ r = .returned (.tuple #[.slice (some ⟨g, 0, none⟩) l.length c, .bool true]) ∧ KidsIn (QP (w.heap.size ≤ ·)) (w.heap.size ≤ ·) w' (some ⟨g, 0, none⟩) l) ∨ (R = none ∧ ∃ g, r = .returned (.tuple #[.slice (some ⟨g, 0, none⟩) 0 0, .bool false])))

set_option maxRecDepth 20000 in
set_option maxHeartbeats 16000000 in
theorem specRead (s : ByteArray) (w : World) (hs : s.size ≤ 1073741824) :
    Calls Tryz.prog 11 #[.string s] w fun r w' => ReadLeft w (readR s) r w' := by
  have bA := (Below.refl w.heap.size w).alloc (Nat.le_refl _) (.cells #[] 25)
  by_cases hbig : 200000 < s.size
  · have hR : readR s = none := by unfold readR; rw [if_pos (.inl hbig)]
    have g1 : (200000 : Int) < (s.size : Int) := by omega
    go_enter Tryz.func11, Tryz.ntmps11
    go_wp2_with fail
    go_ret2
    exact ⟨bA, .inr ⟨hR, _, rfl⟩⟩
  have g1 : ¬ (200000 : Int) < (s.size : Int) := by omega
  obtain ⟨i0, hi0, hz0, hz1, hz2⟩ := info_parts info_el
  have Hi : Hid (Tryz.prog.info? 25 = some i0) := hi0
  have Hz0 : Hid (i0.zero = some (.agg #[.int .i64 0, .int .i64 0, .string ⟨#[]⟩, .slice none 0 0, .string ⟨#[]⟩, .slice none 0 0])) := hz0
  have Hz1 : Hid (i0.size = 6) := hz1
  have Hz2 : Hid (i0.bytes = 96) := hz2
  have HE : Hid (ElC s (w.heap.size + 1) (s.size + 1)) := elC_all s _ hs _
  have hsz := docL_size s _ (el_size s (s.size + 1) 60 (-1)) (s.size + 1) 22
  obtain ⟨el, Hel⟩ : ∃ el : Nat → Option (ElB × Nat), Hid (el = fun q => elM s (s.size + 1) 60 q (-1)) := ⟨_, rfl⟩
  rw [← Hel.out] at hsz
  obtain ⟨R, HR⟩ : ∃ R, Hid ((if standsB s 0 xmlHead = false then none else docL s el (s.size + 1) 22) = R) := ⟨_, rfl⟩
  have Hread : Hid (readR s = finR R) := by
    show _ = _
    unfold readR
    rw [← HR.out, Hel.out]
    cases hst : standsB s 0 xmlHead
    · rw [if_pos (.inr rfl), if_pos rfl]
      rfl
    · rw [if_neg (fun h => h.elim (fun h => hbig h) (fun h => by cases h)), if_neg (by decide)]
      cases docL s (fun q => elM s (s.size + 1) 60 q (-1)) (s.size + 1) 22 <;> rfl
  have HRs : Hid (∀ l, R = some l → l.length + elsW l ≤ 1000000) := fun l hl => by
    have h1 := HR.out
    rw [hl] at h1
    cases hst : standsB s 0 xmlHead
    · rw [hst, if_pos rfl] at h1
      cases h1
    · rw [hst, if_neg (by decide)] at h1
      have h2 := stands_le hst
      have u : xmlHead.size = 22 := rfl
      have := hsz l h1 (by omega)
      omega
  have HO0 : Hid (RowP (w.heap.size + 1) ((w.alloc (.cells #[] 25)).alloc (.cells #[.string s, .int .i64 0, .bool true] 38)) w.heap.size (.slice (some ⟨w.heap.size, 0, none⟩) 0 0) []) := (RowP.empty (w.heap.size + 1) w w.heap.size (Nat.le_refl _) (by omega)).keep ((Below.refl _ _).alloc (Nat.le_refl _) _)
  have HD0 : Hid (RdAt ((w.alloc (.cells #[] 25)).alloc (.cells #[.string s, .int .i64 0, .bool true] 38)) (w.heap.size + 1) s ((0 : Nat) : Int) true) := by
    show RdAt _ _ _ _ _
    unfold RdAt
    show ((w.heap.push _).push _)[w.heap.size + 1]? = _
    have e : w.heap.size + 1 = (w.heap.push (.cells #[] 25)).size := by simp
    rw [e]
    exact Array.getElem?_push_size
  have HB0 : Hid (Below w.heap.size w ((w.alloc (.cells #[] 25)).alloc (.cells #[.string s, .int .i64 0, .bool true] 38))) := bA.alloc (by simp) _
  clear hi0 hz0 hz1 hz2 bA hsz
  go_enter Tryz.func11, Tryz.ntmps11
  go_wp2_with fail
  generalize (w.alloc (.cells #[] 25)).alloc (.cells #[.string s, .int .i64 0, .bool true] 38) = w0 at *
  have hT : Calls Tryz.prog 27 #[.pointer (some ⟨w.heap.size + 1, 0, none⟩), .string ⟨#[60, 63, 120, 109, 108, 32, 118, 101, 114, 115, 105, 111, 110, 61, 34, 49, 46, 48, 34, 63, 62, 10]⟩] w0 fun r w' => r = .returned (.tuple #[]) ∧ Fr (w.heap.size + 1) w0 w' ∧ ((Hid ((docL s el (s.size + 1) 22).map (fun r => [] ++ r) = R) ∧ 22 ≤ s.size ∧ Hid (RdAt w' (w.heap.size + 1) s ((22 : Nat) : Int) true)) ∨ (Hid (R = none) ∧ ∃ k, Hid (RdAt w' (w.heap.size + 1) s k false))) := by
    cases hst : standsB s 0 xmlHead
    · refine (take_no s xmlHead 0 _ w0 HD0.out (by omega) (by omega) (by decide) hst).mono ?_
      rintro r w' ⟨rfl, hD, hF⟩
      refine ⟨rfl, hF, .inr ⟨?_, _, hD⟩⟩
      show _ = _
      rw [← HR.out, if_pos hst]
    · have h2 := stands_le hst
      have u : xmlHead.size = 22 := rfl
      refine (take_yes s xmlHead 0 _ w0 HD0.out (by omega) (by omega) (by decide) hst).mono ?_
      rintro r w' ⟨rfl, hD, hF⟩
      refine ⟨rfl, hF, .inl ⟨?_, by omega, hD⟩⟩
      show _ = _
      rw [← HR.out, if_neg (by rw [hst]; decide)]
      cases docL s el (s.size + 1) 22 <;> simp
  refine hT.mono ?_
  rintro r w1 ⟨rfl, hF1, hmode⟩
  have HO1 : Hid (RowP (w.heap.size + 1) w1 w.heap.size (.slice (some ⟨w.heap.size, 0, none⟩) 0 0) []) := HO0.out.fr hF1
  have HB1 : Hid (Below w.heap.size w w1) := HB0.out.trans (hF1.below (by omega) HB0.out.size)
  clear hT HO0 HD0 HB0 hF1 HR
  go_wp2_with fail
  go_loopw [4] (fun ov wr => ∃ l : List ElB, l.length ≤ s.size ∧ Hid (RowP (w.heap.size + 1) wr w.heap.size ov l) ∧ Hid (Below w.heap.size w wr) ∧ ((∃ f k : Nat, k ≤ s.size ∧ s.size + 1 ≤ f + k ∧ l.length ≤ k ∧ Hid ((docL s el f k).map (fun r => l ++ r) = R) ∧ Hid (RdAt wr (w.heap.size + 1) s (k : Int) true)) ∨ (Hid (R = none) ∧ ∃ k, Hid (RdAt wr (w.heap.size + 1) s k false)))) (fun _ wr => rdLeft s (w.heap.size + 1) wr)
  case atStart =>
    refine ⟨[], Nat.zero_le _, HO1, HB1, ?_⟩
    rcases hmode with ⟨h1, h2, h3⟩ | h
    · exact .inl ⟨s.size + 1, 22, h2, by omega, Nat.zero_le _, h1, h3⟩
    · exact .inr h
  case round =>
    clear HO1 HB1 hmode
    obtain ⟨l, hll, HO, HB, hmode⟩ := hrel
    obtain ⟨g, oc, rfl, hgp, hg1, hg2⟩ := HO.out.form
    rcases hmode with ⟨f, k, hk, hf, hlk, HRk, HD⟩ | ⟨HN, k, HD⟩
    · have c1 := HD.out.c1
      have c2 := HD.out.c2
      have HM : Hid (rdLeft s (w.heap.size + 1) wr = s.size + 2 - k) := rdLeft_on HD.out
      obtain ⟨f', rfl⟩ : ∃ f', f = f' + 1 := ⟨f - 1, by omega⟩
      have hRk := HRk.out
      rw [docL] at hRk
      by_cases hlt : k < s.size
      · rw [if_neg (by omega)] at hRk
        have k1 : (k : Int) < (s.size : Int) := by omega
        have k1' : decide ((k : Int) < (s.size : Int)) = true := decide_eq_true k1
        have HS2 := specStands s k openNoteB wr (by omega) (by omega) (by decide)
        cases hno : standsB s k openNoteB
        · rw [hno] at HS2 hRk
          rw [if_neg (by decide)] at hRk
          have HC := HE.out 60 k (-1) wr HD.out hk (by omega) (by omega)
          have eC : elM s (s.size + 1) 60 k (-1) = el k := by rw [Hel.out]
          rw [eC] at HC
          clear HRk
          go_wp2_with fail
          refine HS2.mono ?_
          rintro r wx ⟨rfl, rfl⟩
          clear HS2
          go_wp2_with fail
          refine HC.mono ?_
          rintro r w2 ⟨v, rfl, hleft, hfr⟩
          have HO2 : Hid (RowP (w.heap.size + 1) w2 w.heap.size _ l) := HO.out.fr hfr
          have HB2 : Hid (Below w.heap.size w w2) := HB.out.trans (hfr.below (by omega) HB.out.size)
          have HN' : Hid (g < wx.heap.size ∧ w.heap.size + 1 < wx.heap.size ∧ w.heap.size ≤ wx.heap.size) := ⟨hg2, HD.out.lt, HB.out.size⟩
          clear HC HO HB HD c1 c2 hfr hg2
          generalize wx.heap.size = N4 at *
          rcases hleft with ⟨e, j, hR, hkj, hjs, heP, hD⟩ | ⟨hR, ⟨e, heP⟩, kx, hD⟩
          · obtain ⟨kd, sq, nm, ats, tx, ks⟩ := e
            have HeP : Hid (ElP (N4 ≤ ·) w2 v (.mk kd sq nm ats tx ks)) := heP
            obtain ⟨av, ka, kc, ev, ⟨xa, xc, eav, _⟩, _⟩ := heP
            subst eav
            subst ev
            rw [hR] at hRk
            have HRj : Hid ((if standsB s j nlS = true then (docL s el f' (j + 1)).map (fun r => (ElB.mk kd sq nm ats tx ks) :: r) else none).map (fun r => l ++ r) = R) := hRk
            have HD2 : Hid (RdAt w2 (w.heap.size + 1) s ((j : Nat) : Int) true) := hD
            clear hRk hR hD
            obtain ⟨gq, capq, C, eV, hgp', hown, hels⟩ := HO2.out
            cases eV
            have bA := (Below.refl w2.heap.size w2).alloc (Nat.le_refl _) (.cells #[.int .i64 kd, .int .i64 sq, .string nm, .slice xa ats.length xc, .string tx, .slice ka ks.length kc] 25)
            have O4 := hown.alloc (.cells #[.int .i64 kd, .int .i64 sq, .string nm, .slice xa ats.length xc, .string tx, .slice ka ks.length kc] 25)
            have hels4 : ∀ i (hi : i < l.length), ElP (fun b => (w.heap.size ≤ b ∧ b ≠ g) ∧ b ≠ w.heap.size + 1) (w2.alloc (.cells #[.int .i64 kd, .int .i64 sq, .string nm, .slice xa ats.length xc, .string tx, .slice ka ks.length kc] 25)) (sixV C i) (l[i]'hi) := fun i hi => (hels i hi).stay (fun b _ h2 => bA.block b h2) bA.size
            have he4 : Hid (ElP (N4 ≤ ·) (w2.alloc (.cells #[.int .i64 kd, .int .i64 sq, .string nm, .slice xa ats.length xc, .string tx, .slice ka ks.length kc] 25)) (.agg #[.int .i64 kd, .int .i64 sq, .string nm, .slice xa ats.length xc, .string tx, .slice ka ks.length kc]) (ElB.mk kd sq nm ats tx ks)) := (HeP.out).stay (fun b _ h2 => bA.block b h2) bA.size
            have F4 : Hid (Below w.heap.size w (w2.alloc (.cells #[.int .i64 kd, .int .i64 sq, .string nm, .slice xa ats.length xc, .string tx, .slice ka ks.length kc] 25))) := HB2.out.trans (bA.mono HB2.out.size)
            have D4 : Hid (RdAt (w2.alloc (.cells #[.int .i64 kd, .int .i64 sq, .string nm, .slice xa ats.length xc, .string tx, .slice ka ks.length kc] 25)) (w.heap.size + 1) s _ _) := HD2.out.keep bA
            have Hels4 : Hid (∀ i (hi : i < l.length), ElP (fun b => (w.heap.size ≤ b ∧ b ≠ g) ∧ b ≠ w.heap.size + 1) (w2.alloc (.cells #[.int .i64 kd, .int .i64 sq, .string nm, .slice xa ats.length xc, .string tx, .slice ka ks.length kc] 25)) (sixV C i) (l[i]'hi)) := hels4
            have hC6 : Hid (C.length = l.length * 6) := hown.1
            clear hels hels4 bA hown
            go_wp2_with (at_builtin; refine wpList_append_at _ rfl (.tmp 61) (.tmp 64) 23 rfl w.heap.size 25 i0 (.agg #[.int .i64 0, .int .i64 0, .string ⟨#[]⟩, .slice none 0 0, .string ⟨#[]⟩, .slice none 0 0]) 6 96 Tryz.underlying23 Hi.out Hz0.out Hz1.out Hz2.out rfl (by decide) _ l.length C rfl O4 ⟨_, 0, none⟩ 1 1 [.int .i64 kd, .int .i64 sq, .string nm, .slice xa ats.length xc, .string tx, .slice ka ks.length kc] rfl rfl (six_cells _ _ _ _ _ _ _ _ _ (by first | rfl | simp | simp [World.setCell])) (by intro u hu; simp only [List.mem_cons, List.not_mem_nil, or_false] at hu; rcases hu with rfl | rfl | rfl | rfl | rfl | rfl <;> rfl) ?x3 ?x4 ?x5 ?_)
            case x3 => unfold maxLen; omega
            case x4 => omega
            case x5 => exact F4.out.size
            intro v' w5 ho5 hg5 hb5
            have HO5 : Hid (RowP (w.heap.size + 1) w5 w.heap.size v' (l ++ [(ElB.mk kd sq nm ats tx ks)])) := RowP.more rfl hgp D4.out.lt hC6.out Hels4.out HN'.out.1 HN'.out.2.1 HN'.out.2.2 he4.out ho5 hg5 (fun b hb => (hb5 b hb).imp (fun h => h) (fun h => by first | exact h | (simp; omega) | (simp [World.setCell]; omega)))
            have HB5 : Hid (Below w.heap.size w w5) := below_own F4.out O4 hg5
            have HD5 : Hid (RdAt w5 (w.heap.size + 1) s _ _) := D4.out.grownP hgp hg5
            have hl1 : (l ++ [(ElB.mk kd sq nm ats tx ks)]).length = l.length + 1 := by simp
            clear ho5 hg5 hb5 O4 F4 D4 Hels4 hC6 he4 HN' HO2 HB2 HD2
            go_wp2_with fail
            cases hnl : standsB s j nlS
            · have HN : Hid (R = none) := by
                show _ = _
                rw [← HRj.out, if_neg (by rw [hnl]; decide)]
                rfl
              clear HRj
              refine (take_no s nlS j _ _ HD5.out (by omega) (by omega) (by decide) hnl).mono ?_
              rintro r w6 ⟨rfl, hD6, hF6⟩
              have HO6 : Hid (RowP (w.heap.size + 1) w6 w.heap.size v' (l ++ [(ElB.mk kd sq nm ats tx ks)])) := HO5.out.fr hF6
              have HB6 : Hid (Below w.heap.size w w6) := HB5.out.trans (hF6.below (by omega) HB5.out.size)
              have HD6 : Hid (RdAt w6 (w.heap.size + 1) s _ false) := hD6
              clear HO5 HB5 HD5 hD6 hF6
              go_wp2_with fail
              go_roundw
              case rel => exact ⟨l ++ [(ElB.mk kd sq nm ats tx ks)], by rw [hl1]; omega, HO6, HB6, .inr ⟨HN, _, HD6⟩⟩
              case measure =>
                rw [rdLeft_off HD6.out, HM.out]
                omega
            · have HRn : Hid ((docL s el f' (j + 1)).map (fun r => (l ++ [(ElB.mk kd sq nm ats tx ks)]) ++ r) = R) := by
                show _ = _
                rw [← HRj.out, if_pos hnl]
                exact (doc_more (x := [(ElB.mk kd sq nm ats tx ks)])).symm
              have hjn := stands_le hnl
              have un : nlS.size = 1 := rfl
              rw [un] at hjn
              clear HRj
              refine (take_yes s nlS j _ _ HD5.out (by omega) (by omega) (by decide) hnl).mono ?_
              rintro r w6 ⟨rfl, hD6, hF6⟩
              rw [un] at hD6
              have HO6 : Hid (RowP (w.heap.size + 1) w6 w.heap.size v' (l ++ [(ElB.mk kd sq nm ats tx ks)])) := HO5.out.fr hF6
              have HB6 : Hid (Below w.heap.size w w6) := HB5.out.trans (hF6.below (by omega) HB5.out.size)
              have HD6 : Hid (RdAt w6 (w.heap.size + 1) s ((j + 1 : Nat) : Int) true) := hD6
              clear HO5 HB5 HD5 hD6 hF6
              go_wp2_with fail
              go_roundw
              case rel => exact ⟨l ++ [(ElB.mk kd sq nm ats tx ks)], by rw [hl1]; omega, HO6, HB6, .inl ⟨f', j + 1, by omega, by omega, by rw [hl1]; omega, HRn, HD6⟩⟩
              case measure =>
                rw [rdLeft_on HD6.out, HM.out]
                omega
          · obtain ⟨kd, sq, nm, ats, tx, ks⟩ := e
            have HeP : Hid (ElP (N4 ≤ ·) w2 v (.mk kd sq nm ats tx ks)) := heP
            obtain ⟨av, ka, kc, ev, ⟨xa, xc, eav, _⟩, _⟩ := heP
            subst eav
            subst ev
            rw [hR] at hRk
            have HN : Hid (R = none) := hRk.symm
            have HD2 : Hid (RdAt w2 (w.heap.size + 1) s kx false) := hD
            clear hRk hR hD
            obtain ⟨gq, capq, C, eV, hgp', hown, hels⟩ := HO2.out
            cases eV
            have bA := (Below.refl w2.heap.size w2).alloc (Nat.le_refl _) (.cells #[.int .i64 kd, .int .i64 sq, .string nm, .slice xa ats.length xc, .string tx, .slice ka ks.length kc] 25)
            have O4 := hown.alloc (.cells #[.int .i64 kd, .int .i64 sq, .string nm, .slice xa ats.length xc, .string tx, .slice ka ks.length kc] 25)
            have hels4 : ∀ i (hi : i < l.length), ElP (fun b => (w.heap.size ≤ b ∧ b ≠ g) ∧ b ≠ w.heap.size + 1) (w2.alloc (.cells #[.int .i64 kd, .int .i64 sq, .string nm, .slice xa ats.length xc, .string tx, .slice ka ks.length kc] 25)) (sixV C i) (l[i]'hi) := fun i hi => (hels i hi).stay (fun b _ h2 => bA.block b h2) bA.size
            have he4 : Hid (ElP (N4 ≤ ·) (w2.alloc (.cells #[.int .i64 kd, .int .i64 sq, .string nm, .slice xa ats.length xc, .string tx, .slice ka ks.length kc] 25)) (.agg #[.int .i64 kd, .int .i64 sq, .string nm, .slice xa ats.length xc, .string tx, .slice ka ks.length kc]) (ElB.mk kd sq nm ats tx ks)) := (HeP.out).stay (fun b _ h2 => bA.block b h2) bA.size
            have F4 : Hid (Below w.heap.size w (w2.alloc (.cells #[.int .i64 kd, .int .i64 sq, .string nm, .slice xa ats.length xc, .string tx, .slice ka ks.length kc] 25))) := HB2.out.trans (bA.mono HB2.out.size)
            have D4 : Hid (RdAt (w2.alloc (.cells #[.int .i64 kd, .int .i64 sq, .string nm, .slice xa ats.length xc, .string tx, .slice ka ks.length kc] 25)) (w.heap.size + 1) s _ _) := HD2.out.keep bA
            have Hels4 : Hid (∀ i (hi : i < l.length), ElP (fun b => (w.heap.size ≤ b ∧ b ≠ g) ∧ b ≠ w.heap.size + 1) (w2.alloc (.cells #[.int .i64 kd, .int .i64 sq, .string nm, .slice xa ats.length xc, .string tx, .slice ka ks.length kc] 25)) (sixV C i) (l[i]'hi)) := hels4
            have hC6 : Hid (C.length = l.length * 6) := hown.1
            clear hels hels4 bA hown
            go_wp2_with (at_builtin; refine wpList_append_at _ rfl (.tmp 61) (.tmp 64) 23 rfl w.heap.size 25 i0 (.agg #[.int .i64 0, .int .i64 0, .string ⟨#[]⟩, .slice none 0 0, .string ⟨#[]⟩, .slice none 0 0]) 6 96 Tryz.underlying23 Hi.out Hz0.out Hz1.out Hz2.out rfl (by decide) _ l.length C rfl O4 ⟨_, 0, none⟩ 1 1 [.int .i64 kd, .int .i64 sq, .string nm, .slice xa ats.length xc, .string tx, .slice ka ks.length kc] rfl rfl (six_cells _ _ _ _ _ _ _ _ _ (by first | rfl | simp | simp [World.setCell])) (by intro u hu; simp only [List.mem_cons, List.not_mem_nil, or_false] at hu; rcases hu with rfl | rfl | rfl | rfl | rfl | rfl <;> rfl) ?x3 ?x4 ?x5 ?_)
            case x3 => unfold maxLen; omega
            case x4 => omega
            case x5 => exact F4.out.size
            intro v' w5 ho5 hg5 hb5
            have HO5 : Hid (RowP (w.heap.size + 1) w5 w.heap.size v' (l ++ [(ElB.mk kd sq nm ats tx ks)])) := RowP.more rfl hgp D4.out.lt hC6.out Hels4.out HN'.out.1 HN'.out.2.1 HN'.out.2.2 he4.out ho5 hg5 (fun b hb => (hb5 b hb).imp (fun h => h) (fun h => by first | exact h | (simp; omega) | (simp [World.setCell]; omega)))
            have HB5 : Hid (Below w.heap.size w w5) := below_own F4.out O4 hg5
            have HD5 : Hid (RdAt w5 (w.heap.size + 1) s _ _) := D4.out.grownP hgp hg5
            have hl1 : (l ++ [(ElB.mk kd sq nm ats tx ks)]).length = l.length + 1 := by simp
            clear ho5 hg5 hb5 O4 F4 D4 Hels4 hC6 he4 HN' HO2 HB2 HD2
            go_wp2_with fail
            refine (take_off s nlS _ _ _ HD5.out).mono ?_
            rintro r w6 ⟨rfl, hD6, hF6⟩
            have HO6 : Hid (RowP (w.heap.size + 1) w6 w.heap.size v' (l ++ [(ElB.mk kd sq nm ats tx ks)])) := HO5.out.fr hF6
            have HB6 : Hid (Below w.heap.size w w6) := HB5.out.trans (hF6.below (by omega) HB5.out.size)
            have HD6 : Hid (RdAt w6 (w.heap.size + 1) s _ false) := hD6
            clear HO5 HB5 HD5 hD6 hF6
            go_wp2_with fail
            go_roundw
            case rel => exact ⟨l ++ [(ElB.mk kd sq nm ats tx ks)], by rw [hl1]; omega, HO6, HB6, .inr ⟨HN, _, HD6⟩⟩
            case measure =>
              rw [rdLeft_off HD6.out, HM.out]
              omega
        · rw [hno] at HS2 hRk
          rw [if_pos rfl] at hRk
          have hxt := xoI_le (s := s) (i := k)
          have HX := specXmlNote s (k : Int) wr hs
          generalize xoI s (k : Int) = xi at *
          generalize xoS s (k : Int) = xs at *
          clear HRk
          go_wp2_with fail
          refine HS2.mono ?_
          rintro r wx ⟨rfl, rfl⟩
          clear HS2
          go_wp2_with fail
          refine HX.mono ?_
          rintro r w2 ⟨rfl, b2⟩
          have HO2 : Hid (RowP (w.heap.size + 1) w2 w.heap.size _ l) := HO.out.keep b2
          have HB2 : Hid (Below w.heap.size w w2) := HB.out.trans (b2.mono HB.out.size)
          have HD2 : Hid (RdAt w2 (w.heap.size + 1) s (k : Int) true) := HD.out.keep b2
          clear HX HO HB HD c1 c2 b2 hg2
          by_cases hx0 : xi < 0
          · rw [if_pos hx0] at hRk
            have HN : Hid (R = none) := hRk.symm
            have gx : ¬ (0 : Int) ≤ xi := by omega
            have gx' : decide ((0 : Int) ≤ xi) = false := decide_eq_false gx
            clear hRk hxt
            have HDs : Hid (RdAt (w2.setCell ⟨w.heap.size + 1, 2, none⟩ (.bool false)) (w.heap.size + 1) s (k : Int) false) := HD2.out.set2 false
            have HD3 : Hid (RdAt ((w2.setCell ⟨w.heap.size + 1, 2, none⟩ (.bool false)).setCell ⟨w.heap.size + 1, 1, none⟩ (.int .i64 0)) (w.heap.size + 1) s 0 false) := HDs.out.set1 _
            have HB3 : Hid (Below w.heap.size w ((w2.setCell ⟨w.heap.size + 1, 2, none⟩ (.bool false)).setCell ⟨w.heap.size + 1, 1, none⟩ (.int .i64 0))) := HB2.out.trans (((Fr.set (p := w.heap.size + 1) w2 2 (.bool false)).trans (Fr.set _ 1 (.int .i64 0))).below (by omega) HB2.out.size)
            have HO3 : Hid (RowP (w.heap.size + 1) ((w2.setCell ⟨w.heap.size + 1, 2, none⟩ (.bool false)).setCell ⟨w.heap.size + 1, 1, none⟩ (.int .i64 0)) w.heap.size _ l) := (HO2.out.fr (Fr.set _ 2 (.bool false))).fr (Fr.set _ 1 (.int .i64 0))
            have HN' : Hid (g < w2.heap.size ∧ w.heap.size + 1 < w2.heap.size ∧ w.heap.size ≤ w2.heap.size) := by
              obtain ⟨_, _, e, _, _, h2⟩ := HO2.out.form
              cases e
              exact ⟨h2, HD2.out.lt, HB2.out.size⟩
            have c2 := HD2.out.c2
            have z2 := HD2.out.fz 2
            have c1 := HDs.out.c1
            have z1 := HDs.out.fz 1
            have HMx := specMaxE xi 0 (w2.setCell ⟨w.heap.size + 1, 2, none⟩ (.bool false))
            rw [if_neg (by omega)] at HMx
            clear HO2 HB2 HD2 HDs
            go_wp2_with fail
            refine HMx.mono ?_
            rintro r w3 ⟨rfl, rfl⟩
            clear HMx
            obtain ⟨gq, capq, C, eV, hgp', hown, hels⟩ := HO3.out
            cases eV
            have bA := (Below.refl ((w2.setCell ⟨w.heap.size + 1, 2, none⟩ (.bool false)).setCell ⟨w.heap.size + 1, 1, none⟩ (.int .i64 0)).heap.size ((w2.setCell ⟨w.heap.size + 1, 2, none⟩ (.bool false)).setCell ⟨w.heap.size + 1, 1, none⟩ (.int .i64 0))).alloc (Nat.le_refl _) (.cells #[.int .i64 3, .int .i64 0, .string ⟨#[]⟩, .slice none 0 0, .string xs, .slice none 0 0] 25)
            have O4 := hown.alloc (.cells #[.int .i64 3, .int .i64 0, .string ⟨#[]⟩, .slice none 0 0, .string xs, .slice none 0 0] 25)
            have hels4 : ∀ i (hi : i < l.length), ElP (fun b => (w.heap.size ≤ b ∧ b ≠ g) ∧ b ≠ w.heap.size + 1) (((w2.setCell ⟨w.heap.size + 1, 2, none⟩ (.bool false)).setCell ⟨w.heap.size + 1, 1, none⟩ (.int .i64 0)).alloc (.cells #[.int .i64 3, .int .i64 0, .string ⟨#[]⟩, .slice none 0 0, .string xs, .slice none 0 0] 25)) (sixV C i) (l[i]'hi) := fun i hi => (hels i hi).stay (fun b _ h2 => bA.block b h2) bA.size
            have he4 : Hid (ElP (w2.heap.size ≤ ·) (((w2.setCell ⟨w.heap.size + 1, 2, none⟩ (.bool false)).setCell ⟨w.heap.size + 1, 1, none⟩ (.int .i64 0)).alloc (.cells #[.int .i64 3, .int .i64 0, .string ⟨#[]⟩, .slice none 0 0, .string xs, .slice none 0 0] 25)) (.agg #[.int .i64 3, .int .i64 0, .string ⟨#[]⟩, .slice none 0 0, .string xs, .slice none 0 0]) (ElB.mk 3 0 ⟨#[]⟩ [] xs [])) := (ElP.note _ _ 3 xs).stay (fun b _ h2 => bA.block b h2) bA.size
            have F4 : Hid (Below w.heap.size w (((w2.setCell ⟨w.heap.size + 1, 2, none⟩ (.bool false)).setCell ⟨w.heap.size + 1, 1, none⟩ (.int .i64 0)).alloc (.cells #[.int .i64 3, .int .i64 0, .string ⟨#[]⟩, .slice none 0 0, .string xs, .slice none 0 0] 25))) := HB3.out.trans (bA.mono HB3.out.size)
            have D4 : Hid (RdAt (((w2.setCell ⟨w.heap.size + 1, 2, none⟩ (.bool false)).setCell ⟨w.heap.size + 1, 1, none⟩ (.int .i64 0)).alloc (.cells #[.int .i64 3, .int .i64 0, .string ⟨#[]⟩, .slice none 0 0, .string xs, .slice none 0 0] 25)) (w.heap.size + 1) s _ _) := HD3.out.keep bA
            have Hels4 : Hid (∀ i (hi : i < l.length), ElP (fun b => (w.heap.size ≤ b ∧ b ≠ g) ∧ b ≠ w.heap.size + 1) (((w2.setCell ⟨w.heap.size + 1, 2, none⟩ (.bool false)).setCell ⟨w.heap.size + 1, 1, none⟩ (.int .i64 0)).alloc (.cells #[.int .i64 3, .int .i64 0, .string ⟨#[]⟩, .slice none 0 0, .string xs, .slice none 0 0] 25)) (sixV C i) (l[i]'hi)) := hels4
            have hC6 : Hid (C.length = l.length * 6) := hown.1
            clear hels hels4 bA hown
            go_wp2_with (at_builtin; refine wpList_append_at _ rfl (.tmp 56) (.tmp 59) 23 rfl w.heap.size 25 i0 (.agg #[.int .i64 0, .int .i64 0, .string ⟨#[]⟩, .slice none 0 0, .string ⟨#[]⟩, .slice none 0 0]) 6 96 Tryz.underlying23 Hi.out Hz0.out Hz1.out Hz2.out rfl (by decide) _ l.length C rfl O4 ⟨_, 0, none⟩ 1 1 [.int .i64 3, .int .i64 0, .string ⟨#[]⟩, .slice none 0 0, .string xs, .slice none 0 0] rfl rfl (six_cells _ _ _ _ _ _ _ _ _ (by first | rfl | simp | simp [World.setCell])) (by intro u hu; simp only [List.mem_cons, List.not_mem_nil, or_false] at hu; rcases hu with rfl | rfl | rfl | rfl | rfl | rfl <;> rfl) ?x3 ?x4 ?x5 ?_)
            case x3 => unfold maxLen; omega
            case x4 => omega
            case x5 => exact F4.out.size
            intro v' w5 ho5 hg5 hb5
            have HO5 : Hid (RowP (w.heap.size + 1) w5 w.heap.size v' (l ++ [(ElB.mk 3 0 ⟨#[]⟩ [] xs [])])) := RowP.more rfl hgp D4.out.lt hC6.out Hels4.out HN'.out.1 HN'.out.2.1 HN'.out.2.2 he4.out ho5 hg5 (fun b hb => (hb5 b hb).imp (fun h => h) (fun h => by first | exact h | (simp; omega) | (simp [World.setCell]; omega)))
            have HB5 : Hid (Below w.heap.size w w5) := below_own F4.out O4 hg5
            have HD5 : Hid (RdAt w5 (w.heap.size + 1) s _ _) := D4.out.grownP hgp hg5
            have hl1 : (l ++ [(ElB.mk 3 0 ⟨#[]⟩ [] xs [])]).length = l.length + 1 := by simp
            clear ho5 hg5 hb5 O4 F4 D4 Hels4 hC6 he4 HN' HO3 HB3 HD3
            go_wp2_with fail
            refine (take_off s nlS _ _ _ HD5.out).mono ?_
            rintro r w6 ⟨rfl, hD6, hF6⟩
            have HO6 : Hid (RowP (w.heap.size + 1) w6 w.heap.size v' (l ++ [(ElB.mk 3 0 ⟨#[]⟩ [] xs [])])) := HO5.out.fr hF6
            have HB6 : Hid (Below w.heap.size w w6) := HB5.out.trans (hF6.below (by omega) HB5.out.size)
            have HD6 : Hid (RdAt w6 (w.heap.size + 1) s _ false) := hD6
            clear HO5 HB5 HD5 hD6 hF6
            go_wp2_with fail
            go_roundw
            case rel => exact ⟨l ++ [(ElB.mk 3 0 ⟨#[]⟩ [] xs [])], by rw [hl1]; omega, HO6, HB6, .inr ⟨HN, _, HD6⟩⟩
            case measure =>
              rw [rdLeft_off HD6.out, HM.out]
              omega
          · rw [if_neg hx0] at hRk
            obtain ⟨j, rfl, hj1, hj2, hj3⟩ := hxt (by omega)
            have ej : ((j : Nat) : Int).toNat = j := by omega
            rw [ej] at hRk
            have HRj : Hid ((if standsB s j nlS = true then (docL s el f' (j + 1)).map (fun r => (ElB.mk 3 0 ⟨#[]⟩ [] xs []) :: r) else none).map (fun r => l ++ r) = R) := hRk
            have gx : (0 : Int) ≤ (j : Int) := by omega
            have gx' : decide ((0 : Int) ≤ (j : Int)) = true := decide_eq_true gx
            clear hRk hxt
            have HDs : Hid (RdAt (w2.setCell ⟨w.heap.size + 1, 2, none⟩ (.bool true)) (w.heap.size + 1) s (k : Int) true) := HD2.out.set2 true
            have HD3 : Hid (RdAt ((w2.setCell ⟨w.heap.size + 1, 2, none⟩ (.bool true)).setCell ⟨w.heap.size + 1, 1, none⟩ (.int .i64 (j : Int))) (w.heap.size + 1) s (j : Int) true) := HDs.out.set1 _
            have HB3 : Hid (Below w.heap.size w ((w2.setCell ⟨w.heap.size + 1, 2, none⟩ (.bool true)).setCell ⟨w.heap.size + 1, 1, none⟩ (.int .i64 (j : Int)))) := HB2.out.trans (((Fr.set (p := w.heap.size + 1) w2 2 (.bool true)).trans (Fr.set _ 1 (.int .i64 (j : Int)))).below (by omega) HB2.out.size)
            have HO3 : Hid (RowP (w.heap.size + 1) ((w2.setCell ⟨w.heap.size + 1, 2, none⟩ (.bool true)).setCell ⟨w.heap.size + 1, 1, none⟩ (.int .i64 (j : Int))) w.heap.size _ l) := (HO2.out.fr (Fr.set _ 2 (.bool true))).fr (Fr.set _ 1 (.int .i64 (j : Int)))
            have HN' : Hid (g < w2.heap.size ∧ w.heap.size + 1 < w2.heap.size ∧ w.heap.size ≤ w2.heap.size) := by
              obtain ⟨_, _, e, _, _, h2⟩ := HO2.out.form
              cases e
              exact ⟨h2, HD2.out.lt, HB2.out.size⟩
            have c2 := HD2.out.c2
            have z2 := HD2.out.fz 2
            have c1 := HDs.out.c1
            have z1 := HDs.out.fz 1
            have HMx := specMaxE (j : Int) 0 (w2.setCell ⟨w.heap.size + 1, 2, none⟩ (.bool true))
            rw [if_pos (by omega)] at HMx
            clear HO2 HB2 HD2 HDs
            go_wp2_with fail
            refine HMx.mono ?_
            rintro r w3 ⟨rfl, rfl⟩
            clear HMx
            obtain ⟨gq, capq, C, eV, hgp', hown, hels⟩ := HO3.out
            cases eV
            have bA := (Below.refl ((w2.setCell ⟨w.heap.size + 1, 2, none⟩ (.bool true)).setCell ⟨w.heap.size + 1, 1, none⟩ (.int .i64 (j : Int))).heap.size ((w2.setCell ⟨w.heap.size + 1, 2, none⟩ (.bool true)).setCell ⟨w.heap.size + 1, 1, none⟩ (.int .i64 (j : Int)))).alloc (Nat.le_refl _) (.cells #[.int .i64 3, .int .i64 0, .string ⟨#[]⟩, .slice none 0 0, .string xs, .slice none 0 0] 25)
            have O4 := hown.alloc (.cells #[.int .i64 3, .int .i64 0, .string ⟨#[]⟩, .slice none 0 0, .string xs, .slice none 0 0] 25)
            have hels4 : ∀ i (hi : i < l.length), ElP (fun b => (w.heap.size ≤ b ∧ b ≠ g) ∧ b ≠ w.heap.size + 1) (((w2.setCell ⟨w.heap.size + 1, 2, none⟩ (.bool true)).setCell ⟨w.heap.size + 1, 1, none⟩ (.int .i64 (j : Int))).alloc (.cells #[.int .i64 3, .int .i64 0, .string ⟨#[]⟩, .slice none 0 0, .string xs, .slice none 0 0] 25)) (sixV C i) (l[i]'hi) := fun i hi => (hels i hi).stay (fun b _ h2 => bA.block b h2) bA.size
            have he4 : Hid (ElP (w2.heap.size ≤ ·) (((w2.setCell ⟨w.heap.size + 1, 2, none⟩ (.bool true)).setCell ⟨w.heap.size + 1, 1, none⟩ (.int .i64 (j : Int))).alloc (.cells #[.int .i64 3, .int .i64 0, .string ⟨#[]⟩, .slice none 0 0, .string xs, .slice none 0 0] 25)) (.agg #[.int .i64 3, .int .i64 0, .string ⟨#[]⟩, .slice none 0 0, .string xs, .slice none 0 0]) (ElB.mk 3 0 ⟨#[]⟩ [] xs [])) := (ElP.note _ _ 3 xs).stay (fun b _ h2 => bA.block b h2) bA.size
            have F4 : Hid (Below w.heap.size w (((w2.setCell ⟨w.heap.size + 1, 2, none⟩ (.bool true)).setCell ⟨w.heap.size + 1, 1, none⟩ (.int .i64 (j : Int))).alloc (.cells #[.int .i64 3, .int .i64 0, .string ⟨#[]⟩, .slice none 0 0, .string xs, .slice none 0 0] 25))) := HB3.out.trans (bA.mono HB3.out.size)
            have D4 : Hid (RdAt (((w2.setCell ⟨w.heap.size + 1, 2, none⟩ (.bool true)).setCell ⟨w.heap.size + 1, 1, none⟩ (.int .i64 (j : Int))).alloc (.cells #[.int .i64 3, .int .i64 0, .string ⟨#[]⟩, .slice none 0 0, .string xs, .slice none 0 0] 25)) (w.heap.size + 1) s _ _) := HD3.out.keep bA
            have Hels4 : Hid (∀ i (hi : i < l.length), ElP (fun b => (w.heap.size ≤ b ∧ b ≠ g) ∧ b ≠ w.heap.size + 1) (((w2.setCell ⟨w.heap.size + 1, 2, none⟩ (.bool true)).setCell ⟨w.heap.size + 1, 1, none⟩ (.int .i64 (j : Int))).alloc (.cells #[.int .i64 3, .int .i64 0, .string ⟨#[]⟩, .slice none 0 0, .string xs, .slice none 0 0] 25)) (sixV C i) (l[i]'hi)) := hels4
            have hC6 : Hid (C.length = l.length * 6) := hown.1
            clear hels hels4 bA hown
            go_wp2_with (at_builtin; refine wpList_append_at _ rfl (.tmp 56) (.tmp 59) 23 rfl w.heap.size 25 i0 (.agg #[.int .i64 0, .int .i64 0, .string ⟨#[]⟩, .slice none 0 0, .string ⟨#[]⟩, .slice none 0 0]) 6 96 Tryz.underlying23 Hi.out Hz0.out Hz1.out Hz2.out rfl (by decide) _ l.length C rfl O4 ⟨_, 0, none⟩ 1 1 [.int .i64 3, .int .i64 0, .string ⟨#[]⟩, .slice none 0 0, .string xs, .slice none 0 0] rfl rfl (six_cells _ _ _ _ _ _ _ _ _ (by first | rfl | simp | simp [World.setCell])) (by intro u hu; simp only [List.mem_cons, List.not_mem_nil, or_false] at hu; rcases hu with rfl | rfl | rfl | rfl | rfl | rfl <;> rfl) ?x3 ?x4 ?x5 ?_)
            case x3 => unfold maxLen; omega
            case x4 => omega
            case x5 => exact F4.out.size
            intro v' w5 ho5 hg5 hb5
            have HO5 : Hid (RowP (w.heap.size + 1) w5 w.heap.size v' (l ++ [(ElB.mk 3 0 ⟨#[]⟩ [] xs [])])) := RowP.more rfl hgp D4.out.lt hC6.out Hels4.out HN'.out.1 HN'.out.2.1 HN'.out.2.2 he4.out ho5 hg5 (fun b hb => (hb5 b hb).imp (fun h => h) (fun h => by first | exact h | (simp; omega) | (simp [World.setCell]; omega)))
            have HB5 : Hid (Below w.heap.size w w5) := below_own F4.out O4 hg5
            have HD5 : Hid (RdAt w5 (w.heap.size + 1) s _ _) := D4.out.grownP hgp hg5
            have hl1 : (l ++ [(ElB.mk 3 0 ⟨#[]⟩ [] xs [])]).length = l.length + 1 := by simp
            clear ho5 hg5 hb5 O4 F4 D4 Hels4 hC6 he4 HN' HO3 HB3 HD3
            go_wp2_with fail
            cases hnl : standsB s j nlS
            · have HN : Hid (R = none) := by
                show _ = _
                rw [← HRj.out, if_neg (by rw [hnl]; decide)]
                rfl
              clear HRj
              refine (take_no s nlS j _ _ HD5.out (by omega) (by omega) (by decide) hnl).mono ?_
              rintro r w6 ⟨rfl, hD6, hF6⟩
              have HO6 : Hid (RowP (w.heap.size + 1) w6 w.heap.size v' (l ++ [(ElB.mk 3 0 ⟨#[]⟩ [] xs [])])) := HO5.out.fr hF6
              have HB6 : Hid (Below w.heap.size w w6) := HB5.out.trans (hF6.below (by omega) HB5.out.size)
              have HD6 : Hid (RdAt w6 (w.heap.size + 1) s _ false) := hD6
              clear HO5 HB5 HD5 hD6 hF6
              go_wp2_with fail
              go_roundw
              case rel => exact ⟨l ++ [(ElB.mk 3 0 ⟨#[]⟩ [] xs [])], by rw [hl1]; omega, HO6, HB6, .inr ⟨HN, _, HD6⟩⟩
              case measure =>
                rw [rdLeft_off HD6.out, HM.out]
                omega
            · have HRn : Hid ((docL s el f' (j + 1)).map (fun r => (l ++ [(ElB.mk 3 0 ⟨#[]⟩ [] xs [])]) ++ r) = R) := by
                show _ = _
                rw [← HRj.out, if_pos hnl]
                exact (doc_more (x := [(ElB.mk 3 0 ⟨#[]⟩ [] xs [])])).symm
              have hjn := stands_le hnl
              have un : nlS.size = 1 := rfl
              rw [un] at hjn
              clear HRj
              refine (take_yes s nlS j _ _ HD5.out (by omega) (by omega) (by decide) hnl).mono ?_
              rintro r w6 ⟨rfl, hD6, hF6⟩
              rw [un] at hD6
              have HO6 : Hid (RowP (w.heap.size + 1) w6 w.heap.size v' (l ++ [(ElB.mk 3 0 ⟨#[]⟩ [] xs [])])) := HO5.out.fr hF6
              have HB6 : Hid (Below w.heap.size w w6) := HB5.out.trans (hF6.below (by omega) HB5.out.size)
              have HD6 : Hid (RdAt w6 (w.heap.size + 1) s ((j + 1 : Nat) : Int) true) := hD6
              clear HO5 HB5 HD5 hD6 hF6
              go_wp2_with fail
              go_roundw
              case rel => exact ⟨l ++ [(ElB.mk 3 0 ⟨#[]⟩ [] xs [])], by rw [hl1]; omega, HO6, HB6, .inl ⟨f', j + 1, by omega, by omega, by rw [hl1]; omega, HRn, HD6⟩⟩
              case measure =>
                rw [rdLeft_on HD6.out, HM.out]
                omega
      · rw [if_pos (by omega)] at hRk
        have hR : R = some l := by rw [← hRk]; simp
        have k1 : ¬ (k : Int) < (s.size : Int) := by omega
        have k1' : decide ((k : Int) < (s.size : Int)) = false := decide_eq_false k1
        have hsl := HRs.out l hR
        have hN := elsN_le l
        obtain ⟨g', c', e', hkid⟩ := HO.out.kids
        cases e'
        have HDoc := specDocOk l w.heap.size (some ⟨g, 0, none⟩) l.length oc wr hkid.qa rfl (els_small l (by omega)) (by omega)
        have Hr := Hread.out
        rw [hR, finR] at Hr
        have HK : Hid (KidsIn (QP (w.heap.size ≤ ·)) (w.heap.size ≤ ·) wr (some ⟨g, 0, none⟩) l) := hkid
        clear hkid HRk hRk Hread
        cases hd : docF 0 0 l
        · rw [hd] at HDoc Hr
          rw [if_neg (by decide)] at Hr
          go_wp2_with fail
          refine HDoc.mono ?_
          rintro r w2 ⟨rfl, b2⟩
          have HB2 : Hid (Below w.heap.size w w2) := HB.out.trans (b2.mono HB.out.size)
          clear HDoc b2 HB HO HK HD c1 c2
          go_wp2_with fail
          go_ret2
          exact ⟨HB2.out.alloc HB2.out.size _, .inr ⟨Hr, _, rfl⟩⟩
        · rw [hd] at HDoc Hr
          rw [if_pos rfl] at Hr
          go_wp2_with fail
          refine HDoc.mono ?_
          rintro r w2 ⟨rfl, b2⟩
          have HB2 : Hid (Below w.heap.size w w2) := HB.out.trans (b2.mono HB.out.size)
          have HK2 : Hid (KidsIn (QP (w.heap.size ≤ ·)) (w.heap.size ≤ ·) w2 (some ⟨g, 0, none⟩) l) := HK.out.keep (QP.lies _) b2
          clear HDoc b2 HB HO HK HD c1 c2
          go_wp2_with fail
          go_ret2
          exact ⟨HB2.out, .inl ⟨l, g, oc, Hr, rfl, HK2.out⟩⟩
    · have c1 := HD.out.c1
      have c2 := HD.out.c2
      have Hr : readR s = none := by rw [Hread.out, HN.out, finR]
      go_wp2_with fail
      go_ret2
      exact ⟨HB.out.alloc HB.out.size _, .inr ⟨Hr, _, rfl⟩⟩

end Go.Proofs.YtbmmghkieolpkaaGreatDoor.Sg

namespace Go.Proofs.YtbmmghkieolpkaaGreatDoor.Sg
open Go.ChangeShapes Go.WideShapes Go.ChangeAt Go.RowKit

/-- Six cells of a block. -/
def Six (w : World) (c : Nat) (v0 v1 v2 v3 v4 v5 : Value) : Prop := w.cell? ⟨c, 0, none⟩ = some v0 ∧ w.cell? ⟨c, 1, none⟩ = some v1 ∧ w.cell? ⟨c, 2, none⟩ = some v2 ∧ w.cell? ⟨c, 3, none⟩ = some v3 ∧ w.cell? ⟨c, 4, none⟩ = some v4 ∧ w.cell? ⟨c, 5, none⟩ = some v5
end Go.Proofs.YtbmmghkieolpkaaGreatDoor.Sg

namespace Go.Proofs.YtbmmghkieolpkaaGreatDoor.Sg
open Go.ChangeShapes Go.WideShapes Go.ChangeAt Go.RowKit Go.Sort

theorem le_or (a b : List UInt8) (h : a ≤ b) (hn : a ≠ b) : a < b := by
  by_cases h1 : a < b
  · exact h1
  · exact absurd (List.le_antisymm h (List.not_lt.1 h1)) hn

/-- Lists in strict order with the same members are one. -/
theorem eq_of_members : ∀ (a b : List (List UInt8)), a.Pairwise (· < ·) → b.Pairwise (· < ·) → (∀ x, x ∈ a ↔ x ∈ b) → a = b
  | [], [], _, _, _ => rfl
  | [], y :: b, _, _, h => absurd ((h y).2 List.mem_cons_self) List.not_mem_nil
  | x :: a, [], _, _, h => absurd ((h x).1 List.mem_cons_self) List.not_mem_nil
  | x :: a, y :: b, ha, hb, h => by
    rw [List.pairwise_cons] at ha hb
    have e : x = y := by
      rcases List.mem_cons.1 ((h x).1 List.mem_cons_self) with e | m1
      · exact e
      · rcases List.mem_cons.1 ((h y).2 List.mem_cons_self) with e | m2
        · exact e.symm
        · exact absurd (List.lt_trans (hb.1 x m1) (ha.1 y m2)) (List.lt_irrefl _)
    subst e
    rw [eq_of_members a b ha.2 hb.2 fun z => ?_]
    constructor
    · intro m
      rcases List.mem_cons.1 ((h z).1 (List.mem_cons_of_mem _ m)) with e | m1
      · subst e
        exact absurd (ha.1 _ m) (List.lt_irrefl _)
      · exact m1
    · intro m
      rcases List.mem_cons.1 ((h z).2 (List.mem_cons_of_mem _ m)) with e | m1
      · subst e
        exact absurd (hb.1 _ m) (List.lt_irrefl _)
      · exact m1

/-- What is kept of a sorted list is in strict order, and no member is lost. -/
theorem compact_upto (ts : List (List UInt8)) (hs : ts.Pairwise (· ≤ ·)) : ∀ m, m ≤ ts.length →
    (Lib.compactUpTo ts.toArray m).Pairwise (· < ·) ∧ ∀ x, x ∈ Lib.compactUpTo ts.toArray m ↔ ∃ j, j < m ∧ ts.toArray[j]! = x
  | 0, _ => ⟨by simp [Lib.compactUpTo], fun x => by simp [Lib.compactUpTo]⟩
  | m + 1, hm => by
    obtain ⟨h1, h2⟩ := compact_upto ts hs m (by omega)
    have le : ∀ i j, i ≤ j → j < ts.length → ts.toArray[i]! ≤ ts.toArray[j]! := fun i j hij hj => by
      have ei : ts.toArray[i]! = ts[i]'(by omega) := by simp [getElem!_pos, show i < ts.length by omega]
      have ej : ts.toArray[j]! = ts[j] := by simp [getElem!_pos, hj]
      rw [ei, ej]
      by_cases e : i = j
      · subst e
        exact List.le_refl _
      · exact List.pairwise_iff_getElem.1 hs i j (by omega) hj (by omega)
    rw [Lib.compactUpTo_succ]
    cases hk : Lib.keeps ts.toArray m with
    | true =>
      rw [if_pos rfl]
      constructor
      · rw [List.pairwise_append]
        refine ⟨h1, List.pairwise_singleton _ _, fun x hx y hy => ?_⟩
        obtain ⟨j, hj, rfl⟩ := (h2 x).1 hx
        rw [List.mem_singleton.1 hy]
        have hne : ts.toArray[m]! ≠ ts.toArray[m - 1]! := by
          rcases of_decide_eq_true hk with e | e
          · omega
          · exact e
        have l1 := le j (m - 1) (by omega) (by omega)
        have l2 := le (m - 1) m (by omega) (by omega)
        exact List.lt_of_le_of_lt l1 (le_or _ _ l2 hne.symm)
      · intro x
        rw [List.mem_append, h2 x, List.mem_singleton]
        constructor
        · rintro (⟨j, hj, e⟩ | e)
          · exact ⟨j, by omega, e⟩
          · exact ⟨m, by omega, e.symm⟩
        · rintro ⟨j, hj, e⟩
          by_cases e1 : j = m
          · subst e1
            exact .inr e.symm
          · exact .inl ⟨j, by omega, e⟩
    | false =>
      rw [if_neg (by decide), List.append_nil]
      refine ⟨h1, fun x => ?_⟩
      rw [h2 x]
      have hd := of_decide_eq_false hk
      have hm0 : m ≠ 0 := fun e => hd (.inl e)
      have he : ts.toArray[m]! = ts.toArray[m - 1]! := Decidable.byContradiction fun e => hd (.inr e)
      constructor
      · rintro ⟨j, hj, e⟩
        exact ⟨j, by omega, e⟩
      · rintro ⟨j, hj, e⟩
        by_cases e1 : j = m
        · subst e1
          exact ⟨j - 1, by omega, by rw [← he]; exact e⟩
        · exact ⟨j, by omega, e⟩
theorem compact_sorted (ts : List (List UInt8)) (hs : ts.Pairwise (· ≤ ·)) : (Lib.compact ts).Pairwise (· < ·) ∧ ∀ x, x ∈ Lib.compact ts ↔ x ∈ ts := by
  obtain ⟨h1, h2⟩ := compact_upto ts hs ts.length (Nat.le_refl _)
  refine ⟨h1, fun x => (h2 x).trans ⟨?_, fun h => ?_⟩⟩
  · rintro ⟨j, hj, rfl⟩
    rw [show ts.toArray[j]! = ts[j] by simp [getElem!_pos, hj]]
    exact List.getElem_mem hj
  · obtain ⟨j, hj, rfl⟩ := List.getElem_of_mem h
    exact ⟨j, hj, by simp [getElem!_pos, hj]⟩
def dL (s : ByteArray) : List UInt8 := s.data.toList
theorem sorted_msB (ss : List (List UInt8)) : (ss.mergeSort fun x y => decide (x ≤ y)).Pairwise (· ≤ ·) := by
  have h := List.pairwise_mergeSort (le := fun x y : List UInt8 => decide (x ≤ y)) (fun a b c h1 h2 => by simp only [decide_eq_true_eq] at *; exact List.le_trans h1 h2) (fun a b => by simp only [Bool.or_eq_true, decide_eq_true_eq]; exact List.le_total a b) ss
  exact h.imp fun {a b} h1 => of_decide_eq_true h1

theorem keeps_all {ts : List (List UInt8)} (h : (Lib.compact ts).length = ts.length) : Lib.compact ts = ts := by
  unfold Lib.compact Lib.compactUpTo at h ⊢
  rw [List.length_map] at h
  have hf : (List.range ts.length).filter (Lib.keeps ts.toArray) = List.range ts.length := by
    refine List.filter_eq_self.2 ?_
    refine List.length_filter_eq_length_iff.1 ?_
    rw [h, List.length_range]
  rw [hf]
  refine List.ext_getElem (by simp) fun k h1 h2 => ?_
  simp [h2]
/-- As many are left as there were just where none stands twice. -/
theorem compact_nodup (ss : List (List UInt8)) : (Lib.compact (ss.mergeSort fun x y => decide (x ≤ y))).length = ss.length ↔ ss.Nodup := by
  have hs := sorted_msB ss
  have hp : (ss.mergeSort fun x y => decide (x ≤ y)).Perm ss := List.mergeSort_perm _ _
  rw [← hp.nodup_iff, ← hp.length_eq]
  generalize (ss.mergeSort fun x y => decide (x ≤ y)) = ts at *
  obtain ⟨h1, h2⟩ := compact_sorted ts hs
  constructor
  · intro h
    rw [keeps_all h] at h1
    exact h1.imp fun {a b} hab e => by
      subst e
      exact List.lt_irrefl _ hab
  · intro hn
    have h3 : ts.Pairwise (· < ·) := List.Pairwise.imp₂ (fun a b hab hne => le_or a b hab hne) hs hn
    rw [eq_of_members _ _ h1 h3 h2]

end Go.Proofs.YtbmmghkieolpkaaGreatDoor.Sg

namespace Go.Proofs.YtbmmghkieolpkaaGreatDoor.Sg
open Go.ChangeShapes Go.WideShapes Go.ChangeAt Go.RowKit Go.Sort

theorem info_strU : (Tryz.prog.info? 9).map (fun i => (i.zero, i.size, i.bytes)) = some (some (.string ⟨#[]⟩), 1, 16) := by kernel_rfl
theorem one_cellU (w : World) (x : Value) (t : TypeId) (b : Nat) (hb : b = w.heap.size) : ∀ j u, ([x])[j]? = some u → (w.alloc (.cells #[x] t)).cell? ((⟨b, 0, none⟩ : Addr).add j) = some u := by
  intro j u hj
  subst hb
  match j, hj with
  | 0, hj => simp at hj; subst hj; simp [Addr.add]

/-- The names of attributes. -/
def anames (l : List AttrB) : List (List UInt8) := l.map fun p => dL p.1
/-- No name stands twice. -/
def unlikeB (l : List AttrB) : Bool := decide (anames l).Nodup
theorem anames_step (l : List AttrB) (k : Nat) (h : k < l.length) : anames (l.take (k + 1)) = anames (l.take k) ++ [dL (l[k]'h).1] := by
  unfold anames
  rw [List.take_succ_eq_append_getElem h, List.map_append]
  rfl

set_option maxRecDepth 100000 in
set_option maxHeartbeats 8000000 in
theorem implUnlike (l : List AttrB) (a : Option Addr) (n cap : Nat) (w : World) (ha : AttrsAt w a l) (hl : l.length = n) (hn : n ≤ 16777216) :
    Calls Tryz.prog 76 #[.slice a n cap] w fun e w' => e = .returned (.bool (unlikeB l)) ∧ Below w.heap.size w w' := by
  obtain ⟨i0, hi, hz0, hz1, hz2⟩ := info_parts info_strU
  have HA : Hid (AttrsAt w a l) := ha
  have Hl : Hid (l.length = n) := hl
  have HR : Hid (unlikeB l = decide ((Lib.compact ((anames l).mergeSort fun x y => decide (x ≤ y))).length = n)) := by
    show _ = _
    unfold unlikeB
    have := compact_nodup (anames l)
    rw [show (anames l).length = n by unfold anames; rw [List.length_map, hl]] at this
    exact decide_eq_decide.2 this.symm
  generalize unlikeB l = R at *
  clear ha hl
  obtain ⟨Wm, hmk, hem, gm⟩ := run_make_own (P := Tryz.prog) w w.heap.size 119 9 i0 (.string ⟨#[]⟩) 1 Tryz.underlying119 hi hz0 hz1 .i64 .i64 n (by rw [hz2]; omega) (by unfold maxLen; omega) (Nat.le_refl _)
  have HE : Hid (Wm.ownsRow w.heap.size 9 1 (.slice (some ⟨w.heap.size, 0, none⟩) 0 n) 0 []) := hem
  have HBm : Hid (Below w.heap.size w Wm) := (Below.refl _ w).grown gm (Nat.le_refl _) (fun k e => by cases e)
  clear hem gm
  go_enter Tryz.func76, Tryz.ntmps76
  go_wp2_with fail
  go_loopw [3, 5, 11] (fun ov _ iv wr => ∃ (k : Nat) (ss : List (List UInt8)), k ≤ n ∧ iv = .int .i64 k ∧ Hid (ss.length = k) ∧ Hid (ss = anames (l.take k)) ∧ Hid (wr.ownsRow w.heap.size 9 1 ov k (ss.map Go.Proofs.encStr)) ∧ Hid (ov ≠ .slice none 0 0) ∧ Hid (Below w.heap.size w wr)) (fun _ _ iv _ => n - (intOf iv).toNat)
  case atStart => exact ⟨0, [], Nat.zero_le _, rfl, rfl, by show [] = _; rfl, HE, (by intro h; cases h), HBm⟩
  case round =>
    clear HE HBm hmk
    obtain ⟨k, ss, hk, rfl, Hm, HS, HO, HNn, HB⟩ := hrel
    have k0 : (0 : Int) ≤ (k : Int) := by omega
    by_cases hlt : k < n
    · have hkl : k < l.length := by rw [Hl.out]; exact hlt
      have k1 : (k : Int) < (n : Int) := by omega
      obtain ⟨b, rfl, c0, c1⟩ := attrs_one (HA.out.below HB.out) k hkl
      have HSs : Hid (ss ++ [dL (l[k]'hkl).1] = anames (l.take (k + 1))) := by show _ = _; rw [anames_step l k hkl, ← HS.out]
      generalize l[k]'hkl = p at *
      obtain ⟨nm, vl⟩ := p
      simp only at c0 c1 HSs
      have Hmn : Hid ((ss ++ [dL nm]).length = k + 1) := by show _ = _; rw [List.length_append, Hm.out]; rfl
      have hbs := HB.out.size
      have hO := HO.out
      have hone : ∀ y ∈ [Go.Proofs.encStr (dL nm)], y.oneCell' = true := by simp [Value.oneCell', Go.Proofs.encStr]
      have h63 : k + 1 ≤ maxLen := by unfold maxLen; omega
      have hbyt : (k + 1) * 16 ≤ 140737488355328 := by omega
      go_wp2_with (first
        | (at_builtin; refine wpList_append_own _ rfl _ _ 119 rfl w.heap.size 9 i0 (.string ⟨#[]⟩) 1 16 Tryz.underlying119 hi hz0 hz1 hz2 rfl (by decide) _ _ _ rfl ((hO.alloc _).alloc _) ⟨wr.heap.size + 1, 0, none⟩ 1 1 [Go.Proofs.encStr (dL nm)] rfl rfl (one_cellU _ _ _ _ (by simp)) hone h63 hbyt (by simp; omega) ?_; intro v3 w3 o3 g3 hnil3)
        | go_in)
      have B2 : Below w.heap.size w ((wr.alloc (.cells #[.string nm, .string vl] 73)).alloc (.cells #[.string nm] 9)) := (HB.out.alloc hbs _).alloc (by simp; omega) _
      have B3 : Hid (Below w.heap.size w w3) := grown_below ((hO.alloc _).alloc _) B2 (Nat.le_refl _) g3 (by simp; omega)
      have O3 : Hid (w3.ownsRow w.heap.size 9 1 v3 (k + 1) ((ss ++ [dL nm]).map Go.Proofs.encStr)) := by show World.ownsRow _ _ _ _ _ _ _; rw [List.map_append]; exact o3
      have N3 : Hid (v3 ≠ .slice none 0 0) := fun e => absurd (hnil3.1 e).2 (by decide)
      clear o3 g3 hO B2 hone hnil3
      go_roundw
      case rel => exact ⟨k + 1, _, by omega, by go_num, Hmn, HSs, O3, N3, B3⟩
      case measure => simp [intOf]; omega
    · have hkn : k = n := by omega
      subst hkn
      have g1 : decide ((k : Int) < (k : Int)) = false := by simp
      have HSn : Hid (ss = anames l) := by show _ = _; rw [HS.out, List.take_of_length_le (by rw [Hl.out]; exact Nat.le_refl _)]
      rcases HO.out.2 with ⟨h0, _⟩ | ⟨g, oc, cur, rfl, hbase, hb, h1, h2, h3, h4⟩
      · exact absurd h0 HNn.out
      have h1' : ss.length ≤ oc := by rw [Hm.out]; exact h1
      have hH : Holds Go.Proofs.encStr wr g 0 ss.toArray := holds_of_block hb (by rw [Hm.out]; simpa using h4)
      have hgl : g < wr.heap.size := (Array.getElem?_eq_some_iff.1 hb).1
      have C1 := Tryz.slices_Sort_string g 0 oc ss wr hH hgl (by rw [Hm.out]; omega)
      rw [Hm.out] at C1
      obtain ⟨zs, HZ⟩ : ∃ zs, Hid (zs = ss.mergeSort fun x y => decide (x ≤ y)) := ⟨_, rfl⟩
      rw [← HZ.out] at C1
      have hzl : zs.length = ss.length := by rw [HZ.out]; simp
      have HR2 : Hid (R = decide ((Lib.compact zs).length = k)) := by show _ = _; rw [HR.out, HZ.out, HSn.out]
      have C2 : ∀ nn os, Calls Tryz.prog 102 #[.slice (some ⟨g, 0, none⟩) k oc] (grow (putRow Go.Proofs.encStr (Sort.ahead wr nn) g 0 zs.toArray) os) fun e w' => e = .returned (.slice (some ⟨g, 0, none⟩) (Lib.compact zs).length oc) ∧ Below w.heap.size w w' := by
        intro nn os
        have hrow := ownsRow_sorted (n := nn) (os := os) hzl hbase hb h1' h2 h3
        have hbel : Below w.heap.size w (grow (putRow Go.Proofs.encStr (Sort.ahead wr nn) g 0 zs.toArray) os) := HB.out.grown (grownBy_sorted _) HB.out.size (fun j hj => by cases hj; exact hbase)
        generalize grow (putRow Go.Proofs.encStr (Sort.ahead wr nn) g 0 zs.toArray) os = W at *
        rcases hrow.2 with ⟨hv, _⟩ | ⟨g', oc', cur', hv, hbase', hb', e1, e2, e3, e4⟩
        · cases hv
        cases hv
        have hH' : Holds Go.Proofs.encStr W g 0 zs.toArray := holds_of_block hb' (by rw [hzl]; simpa using e4)
        have C := Tryz.slices_Compact_string g 0 oc zs W hH' (by rw [hzl, Hm.out]; omega) (by rw [hzl]; exact e1)
        rw [hzl, Hm.out] at C
        refine C.mono ?_
        rintro e w' ⟨rfl, q, rfl⟩
        have hg : W.grownBy (grow (putRow Go.Proofs.encStr (Sort.ahead W q) g 0 (Lib.compact zs ++ List.replicate (k - (Lib.compact zs).length) ([] : List UInt8)).toArray) #[]) (some g) := grownBy_sorted _
        rw [grow_empty] at hg
        exact ⟨rfl, hbel.grown hg hbel.size (fun j hj => by cases hj; exact hbase)⟩
      generalize (Lib.compact zs).length = m at *
      clear hH h1 h1' h2 h3 h4 hb hbase hgl hzl HO HR HSn HZ
      have Hv : Hid (R = ((m : Int) == (k : Int))) := by
        show _ = _
        rw [HR2.out]
        by_cases e : m = k
        · subst e; simp
        · rw [decide_eq_false e]
          symm
          rw [beq_eq_false_iff_ne]
          omega
      clear HR2
      go_wp2_with fail
      refine C1.mono ?_
      rintro e w1 ⟨rfl, nn, os, rfl⟩
      clear C1
      replace C2 := C2 nn os
      generalize grow (putRow Go.Proofs.encStr (Sort.ahead wr nn) g 0 zs.toArray) os = W at *
      go_wp2_with fail
      refine C2.mono ?_
      rintro e w2 ⟨rfl, b2⟩
      have HB2 : Hid (Below w.heap.size w w2) := b2
      clear C2 b2
      go_wp2_with fail
      go_ret
      exact ⟨ret_bo Hv.out.symm, HB2.out⟩

end Go.Proofs.YtbmmghkieolpkaaGreatDoor.Sg

namespace Go.Proofs.YtbmmghkieolpkaaGreatDoor.Sg
open Go.ChangeShapes Go.WideShapes Go.ChangeAt Go.RowKit

/-- An attribute is strict by itself. -/
def attrOk (p : AttrB) : Bool := stNameB p.1 && (!(p.1.toList == xmlnsB.toList) && stTextB p.2)

theorem attrsSt_iff (l : List AttrB) (m : Nat) : ∀ k, l.length - k = m → (attrsSt l k = true ↔ ∀ j, k ≤ j → ∀ h : j < l.length, attrSt l j (l[j]'h) = true) := by
  induction m with
  | zero =>
    intro k hk
    rw [attrsSt_end (by omega)]
    exact ⟨fun _ j h1 h2 => by omega, fun _ => rfl⟩
  | succ m ih =>
    intro k hk
    have hlt : k < l.length := by omega
    rw [attrsSt_step hlt, Bool.and_eq_true, ih (k + 1) (by omega)]
    constructor
    · rintro ⟨h1, h2⟩ j hj hjl
      by_cases e : j = k
      · subst e
        exact h1
      · exact h2 j (by omega) hjl
    · intro h
      exact ⟨h k (Nat.le_refl _) hlt, fun j hj hjl => h j (by omega) hjl⟩
theorem hasA_iff (l : List AttrB) (x : ByteArray) : hasA l x = true ↔ dL x ∈ anames l := by
  unfold hasA anames
  rw [List.any_eq_true, List.mem_map]
  constructor
  · rintro ⟨p, hp, he⟩
    rw [beq_iff_eq, ByteArray.toList_eq, ByteArray.toList_eq] at he
    exact ⟨p, hp, he⟩
  · rintro ⟨p, hp, he⟩
    refine ⟨p, hp, ?_⟩
    rw [beq_iff_eq, ByteArray.toList_eq, ByteArray.toList_eq]
    exact he
theorem unlike_iff (l : List AttrB) : unlikeB l = true ↔ ∀ j, ∀ h : j < l.length, hasA (l.take j) (l[j]'h).1 = false := by
  unfold unlikeB
  rw [decide_eq_true_iff]
  have hln : (anames l).length = l.length := by unfold anames; rw [List.length_map]
  have hat : ∀ i (h : i < l.length), (anames l)[i]'(by omega) = dL (l[i]'h).1 := fun i h => by simp [anames]
  constructor
  · intro hn j hj
    cases hh : hasA (l.take j) (l[j]'hj).1
    · rfl
    · rw [hasA_iff] at hh
      unfold anames at hh
      obtain ⟨p, hp, he⟩ := List.mem_map.1 hh
      obtain ⟨i, hi, hpi⟩ := List.getElem_of_mem hp
      rw [List.length_take] at hi
      rw [List.getElem_take] at hpi
      have h1 := List.pairwise_iff_getElem.1 hn i j (by omega) (by omega) (by omega)
      rw [hat i (by omega), hat j hj, hpi] at h1
      exact absurd he h1
  · intro h
    refine List.pairwise_iff_getElem.2 fun i j hi hj hij e => ?_
    have h1 := h j (by omega)
    rw [hat i (by omega), hat j (by omega)] at e
    have h2 : hasA (l.take j) (l[j]'(by omega)).1 = true := by
      rw [hasA_iff]
      unfold anames
      refine List.mem_map.2 ⟨l[i]'(by omega), ?_, e⟩
      exact List.mem_take_iff_getElem.2 ⟨i, by omega, rfl⟩
    rw [h1] at h2
    cases h2
theorem attrsSt_eq (l : List AttrB) : attrsSt l 0 = (unlikeB l && l.all attrOk) := by
  have h1 := attrsSt_iff l l.length 0 rfl
  have h2 := unlike_iff l
  have h3 : l.all attrOk = true ↔ ∀ j, ∀ h : j < l.length, attrOk (l[j]'h) = true := by
    rw [List.all_eq_true]
    constructor
    · exact fun h j hj => h _ (List.getElem_mem hj)
    · intro h p hp
      obtain ⟨i, hi, rfl⟩ := List.getElem_of_mem hp
      exact h i hi
  have key : ∀ j, ∀ h : j < l.length, attrSt l j (l[j]'h) = (attrOk (l[j]'h) && !hasA (l.take j) (l[j]'h).1) := fun j h => by
    unfold attrSt attrOk
    simp only [Bool.and_assoc]
  rw [Bool.eq_iff_iff, h1, Bool.and_eq_true, h2, h3]
  constructor
  · intro h
    refine ⟨fun j hj => ?_, fun j hj => ?_⟩
    · have := h j (Nat.zero_le _) hj
      rw [key j hj, Bool.and_eq_true] at this
      simpa using this.2
    · have := h j (Nat.zero_le _) hj
      rw [key j hj, Bool.and_eq_true] at this
      exact this.1
  · rintro ⟨ha, hb⟩ j _ hj
    rw [key j hj, ha j hj, hb j hj]
    rfl

end Go.Proofs.YtbmmghkieolpkaaGreatDoor.Sg

namespace Go.Proofs.YtbmmghkieolpkaaGreatDoor.Sg
open Go.ChangeShapes Go.WideShapes Go.ChangeAt Go.RowKit

/-- A block has two cells that may be written. -/
def Two (w : World) (b : Nat) (x y : Value) : Prop :=
  b < w.heap.size ∧ w.cell? ⟨b, 0, none⟩ = some x ∧ w.cell? ⟨b, 1, none⟩ = some y ∧ w.frozen? ⟨b, 0, none⟩ = false ∧ w.frozen? ⟨b, 1, none⟩ = false
theorem Two.new (w : World) (x y : Value) (t : TypeId) : Two (w.alloc (.cells #[x, y] t)) w.heap.size x y :=
  ⟨by simp, by simp, by simp, by simp, by simp⟩
theorem Two.below {w w' : World} {b : Nat} {x y : Value} (h : Two w b x y) {B : Nat} (hB : b < B) (hb : Below B w w') : Two w' b x y :=
  ⟨Nat.lt_of_lt_of_le h.1 hb.size, (hb.cell hB).trans h.2.1, (hb.cell hB).trans h.2.2.1, (hb.frozen hB).trans h.2.2.2.1, (hb.frozen hB).trans h.2.2.2.2⟩
theorem Two.alloc {w : World} {b : Nat} {x y : Value} (h : Two w b x y) (o : Obj) : Two (w.alloc o) b x y :=
  h.below h.1 ((Below.refl _ _).alloc (Nat.le_refl _) _)
theorem Two.set {w : World} {b : Nat} {x y : Value} (h : Two w b x y) (x' y' : Value) : Two ((w.setCell ⟨b, 0, none⟩ x').setCell ⟨b, 1, none⟩ y') b x' y' :=
  ⟨by simpa using h.1, (World.cell?_setCell_other _ _ _ _ (by simp)).trans (World.cell?_setCell_same _ _ _ h.2.1), World.cell?_setCell_same _ _ _ ((World.cell?_setCell_other _ _ _ _ (by simp)).trans h.2.2.1), by simpa using h.2.2.2.1, by simpa using h.2.2.2.2⟩

end Go.Proofs.YtbmmghkieolpkaaGreatDoor.Sg

namespace Go.Proofs.YtbmmghkieolpkaaGreatDoor.Sg
open Go.ChangeShapes Go.WideShapes Go.ChangeAt Go.RowKit

set_option maxHeartbeats 1000000 in
/-- Two attributes are compared name by name, value by value. -/
theorem eq_attr (a b c d : ByteArray) (w : World) : (Op.equalIn 10000 73 (.agg #[.string a, .string b]) (.agg #[.string c, .string d])).run Tryz.prog w = .ok (a.toList == c.toList && b.toList == d.toList) w := by
  have u3 := Tryz.underlying9
  have a3 := Tryz.isAgg9
  have z3 := Tryz.sizeOf9
  have hS : Tryz.prog.underlying 73 = some (.struct (Tryz.prog.fieldsOf 73)) := by kernel_rfl
  rw [show (10000 : Nat) = 9999 + 1 from rfl, run_equalIn_agg w 9999 73 _ _ hS (by kernel_rfl)]
  simp only [Program.fieldsOf, Tryz.underlying73]
  go_simp
  by_cases h1 : a.toList = c.toList <;> by_cases h2 : b.toList = d.toList <;> simp [h1, h2]

end Go.Proofs.YtbmmghkieolpkaaGreatDoor.Sg
