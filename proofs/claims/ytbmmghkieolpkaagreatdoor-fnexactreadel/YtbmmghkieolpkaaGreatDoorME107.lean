/- Contract of the model's DocOk, and its law out of the program's contract. Contracts of the model's l17Said, ElSaid and Write. Contracts of the model's ElSaid and Write. A row of elements that grows beside the reader's block p, which may lie behind it: none of it lies in p. Contracts of the model's Read and Well. Written by mk_rdread.py. Contract of the model's ReadEl. Plain: texts that are sorted, of which runs of like ones are one. The beginning of a row that is owned. Contract of the program's unlikeNames: no name of attributes stands twice. Plain: attributes are strict just where each is so by itself, and no name stands twice. -/
import Derived.Test.YtbmmghkieolpkaaGreatDoorME115
import Derived.Test.YtbmmghkieolpkaaGreatDoorME104
import Derived.BigRegion
import Derived.Test.YtbmmghkieolpkaaGreatDoorSgOk
import Derived.OwnWalk
import Derived.Lib.SlicesCompact
import Derived.Sort.Walk0
import Derived.Sort.OwnSorted
import Derived.Test.YtbmmghkieolpkaaGreatDoorME108
import Derived.Test.YtbmmghkieolpkaaGreatDoorShelf
import Derived.Laws.AppendOwn
import Derived.Laws.MakeOwn
namespace Go.Proofs.YtbmmghkieolpkaaGreatDoor.Sg
open Go.ChangeShapes Go.WideShapes Go.ChangeAt Go.RowKit

/-- An element is strict, and no deeper than it may be. -/
def strictE (e : ElB) : Bool := decide (elD e ≤ 60) && okE e
end Go.Proofs.YtbmmghkieolpkaaGreatDoor.Sg

namespace Go.Proofs.YtbmmghkieolpkaaGreatDoor.Sg
open Go.ChangeShapes Go.WideShapes Go.ChangeAt Go.RowKit

end Go.Proofs.YtbmmghkieolpkaaGreatDoor.Sg

namespace Go.Proofs.YtbmmghkieolpkaaGreatDoor.Sg
open Go.ChangeShapes Go.WideShapes Go.ChangeAt Go.RowKit

end Go.Proofs.YtbmmghkieolpkaaGreatDoor.Sg

namespace Go.Proofs.YtbmmghkieolpkaaGreatDoor.Sg
open Go.ChangeShapes Go.WideShapes Go.ChangeAt Go.RowKit

def RowP (p : Nat) (w : World) (lo : Nat) (v : Value) (l : List ElB) : Prop :=
  ∃ g cap C, v = .slice (some ⟨g, 0, none⟩) l.length cap ∧ g ≠ p ∧ w.ownsRow lo 25 6 v l.length C ∧ ∀ i (hi : i < l.length), ElP (fun b => (lo ≤ b ∧ b ≠ g) ∧ b ≠ p) w (sixV C i) (l[i]'hi)
theorem Fr.ownsP {p base g : Nat} {a b : World} (h : Fr p a b) {e : TypeId} {size n c : Nat} {xs : List Value} (hp : g ≠ p) (ho : a.ownsRow base e size (.slice (some ⟨g, 0, none⟩) n c) n xs) : b.ownsRow base e size (.slice (some ⟨g, 0, none⟩) n c) n xs := by
  obtain ⟨h1, h2⟩ := ho
  refine ⟨h1, ?_⟩
  rcases h2 with ⟨h2, _⟩ | ⟨g', cap, cur, e', h3, h4, h5⟩
  · cases h2
  · injection e' with e1 e2 e3
    injection e1 with e1
    injection e1 with e1
    subst e1 e3
    exact .inr ⟨g, c, cur, rfl, h3, (h.block g (Array.getElem?_eq_some_iff.1 h4).1 hp).trans h4, h5⟩
theorem RowP.keep {p : Nat} {w w' : World} {lo : Nat} {v : Value} {l : List ElB} (h : RowP p w lo v l) (hb : Below w.heap.size w w') : RowP p w' lo v l := by
  obtain ⟨g, cap, C, e, hp, ho, hv⟩ := h
  exact ⟨g, cap, C, e, hp, owns_below ho (Nat.le_refl _) hb, fun i hi => (hv i hi).stay (fun b _ h2 => hb.block b h2) hb.size⟩
theorem RowP.fr {p : Nat} {w w' : World} {lo : Nat} {v : Value} {l : List ElB} (h : RowP p w lo v l) (hf : Fr p w w') : RowP p w' lo v l := by
  obtain ⟨g, cap, C, e, hp, ho, hv⟩ := h
  subst e
  exact ⟨g, cap, C, rfl, hp, hf.ownsP hp ho, fun i hi => (hv i hi).fr hf (fun h => h.2 rfl)⟩
theorem RowP.form {p : Nat} {w : World} {lo : Nat} {v : Value} {l : List ElB} (h : RowP p w lo v l) : ∃ g cap, v = .slice (some ⟨g, 0, none⟩) l.length cap ∧ g ≠ p ∧ lo ≤ g ∧ g < w.heap.size := by
  obtain ⟨g, cap, C, e, hp, ho, hv⟩ := h
  subst e
  have := ho.lt g rfl
  exact ⟨g, cap, rfl, hp, this.1, this.2⟩
theorem RowP.kids {p : Nat} {w : World} {lo : Nat} {v : Value} {l : List ElB} (h : RowP p w lo v l) : ∃ g cap, v = .slice (some ⟨g, 0, none⟩) l.length cap ∧ KidsIn (QP (lo ≤ ·)) (lo ≤ ·) w (some ⟨g, 0, none⟩) l := by
  obtain ⟨g, cap, C, e, hp, ho, hv⟩ := h
  exact RowL.kids ⟨g, cap, C, e, ho, fun i hi => (hv i hi).wide (fun b _ h => h.1)⟩
/-- One more is appended. -/
theorem RowP.more {p : Nat} {w w' : World} {lo N : Nat} {v v' : Value} {l : List ElB} {C : List Value} {g : Nat} {a0 a1 a2 a3 a4 a5 : Value} {e : ElB}
    (hv : v.ownBlock = some g) (hgp : g ≠ p) (hpw : p < w.heap.size) (hC : C.length = l.length * 6) (hl : ∀ i (hi : i < l.length), ElP (fun b => (lo ≤ b ∧ b ≠ g) ∧ b ≠ p) w (sixV C i) (l[i]'hi)) (hN : g < N) (hpN : p < N) (hlo : lo ≤ N) (he : ElP (N ≤ ·) w (.agg #[a0, a1, a2, a3, a4, a5]) e)
    (ho : w'.ownsRow lo 25 6 v' (l.length + 1) (C ++ [a0, a1, a2, a3, a4, a5])) (hg : w.grownBy w' v.ownBlock) (hb : ∀ b, v'.ownBlock = some b → v.ownBlock = some b ∨ w.heap.size ≤ b) : RowP p w' lo v' (l ++ [e]) := by
  rcases ho.2 with ⟨rfl, h0⟩ | ⟨g', cap', cur, rfl, h3, h4, h5⟩
  · omega
  have hlen : (l ++ [e]).length = l.length + 1 := by simp
  have hg' := hb g' rfl
  have kept : ∀ b, (lo ≤ b ∧ b ≠ g) → b < w.heap.size → w'.heap[b]? = w.heap[b]? := fun b h1 h2 => hg.block b h2 (fun e => h1.2 (by rw [hv] at e; injection e))
  have new : ∀ b, b < w.heap.size → b ≠ g → b ≠ g' := fun b h1 h2 => by
    rcases hg' with h | h
    · rw [hv] at h
      injection h with h
      omega
    · omega
  have hg'p : g' ≠ p := by
    rcases hg' with h | h
    · rw [hv] at h
      injection h with h
      omega
    · omega
  refine ⟨g', cap', C ++ [a0, a1, a2, a3, a4, a5], by rw [hlen], hg'p, by rw [hlen]; exact ho, fun i hi => ?_⟩
  have e1 : ∀ j, j < C.length → (C ++ [a0, a1, a2, a3, a4, a5]).getD j undef = C.getD j undef := fun j hj => getD_old hj
  by_cases hil : i < l.length
  · have h1 := (((hl i hil).wide (P' := fun b => ((lo ≤ b ∧ b ≠ g) ∧ b ≠ p) ∧ b ≠ g') (fun b h1 h2 => ⟨h2, new b h1 h2.1.2⟩)).stay (w' := w') (fun b h1 h2 => kept b h1.1.1 h2) hg.size).wide (P' := fun b => (lo ≤ b ∧ b ≠ g') ∧ b ≠ p) (fun b _ h => ⟨⟨h.1.1.1, h.2⟩, h.1.2⟩)
    have eS : sixV (C ++ [a0, a1, a2, a3, a4, a5]) i = sixV C i := by
      unfold sixV
      rw [e1 _ (by omega), e1 _ (by omega), e1 _ (by omega), e1 _ (by omega), e1 _ (by omega), e1 _ (by omega)]
    have eL : (l ++ [e])[i]'hi = l[i]'hil := List.getElem_append_left hil
    rw [eS, eL]
    exact h1
  · have hie : i = l.length := by rw [hlen] at hi; omega
    subst hie
    have h1 := ((he.wide (P' := fun b => ((lo ≤ b ∧ b ≠ g) ∧ b ≠ p) ∧ b ≠ g') (fun b h1 h2 => by
      have h3 : b ≠ g := by omega
      exact ⟨⟨⟨Nat.le_trans hlo h2, h3⟩, by omega⟩, new b h1 h3⟩)).stay (w' := w') (fun b h1 h2 => kept b h1.1.1 h2) hg.size).wide (P' := fun b => (lo ≤ b ∧ b ≠ g') ∧ b ≠ p) (fun b _ h => ⟨⟨h.1.1.1, h.2⟩, h.1.2⟩)
    have e2 : ∀ j, (C ++ [a0, a1, a2, a3, a4, a5]).getD (l.length * 6 + j) undef = [a0, a1, a2, a3, a4, a5].getD j undef := fun j => by rw [← hC]; exact getD_new
    have eS : sixV (C ++ [a0, a1, a2, a3, a4, a5]) l.length = .agg #[a0, a1, a2, a3, a4, a5] := by
      have e20 := e2 0
      rw [Nat.add_zero] at e20
      unfold sixV
      rw [e20, e2 1, e2 2, e2 3, e2 4, e2 5]
      rfl
    have eL : (l ++ [e])[l.length]'hi = e := by simp
    rw [eS, eL]
    exact h1

end Go.Proofs.YtbmmghkieolpkaaGreatDoor.Sg

namespace Go.Proofs.YtbmmghkieolpkaaGreatDoor.Sg
open Go.ChangeShapes Go.WideShapes Go.ChangeAt Go.RowKit

theorem QP.lies (P : Nat → Prop) : Lies (QP P) := ⟨fun ⟨x, c, e, h1, h3, h4⟩ hb => ⟨x, c, e, fun b o m h => ⟨(h1 b o m h).1, Nat.lt_of_lt_of_le (h1 b o m h).2 hb.size⟩, h3.below hb, h4⟩, fun ⟨_, c, e, _⟩ => ⟨_, c, e⟩⟩
end Go.Proofs.YtbmmghkieolpkaaGreatDoor.Sg

namespace Go.Proofs.YtbmmghkieolpkaaGreatDoor.Sg
open Go.ChangeShapes Go.WideShapes Go.ChangeAt Go.RowKit

def zeroE : ElB := .mk 0 0 ⟨#[]⟩ [] ⟨#[]⟩ []
/-- What is read of an element at a place, and where it ends; none: refused. -/
def readElR (s : ByteArray) (i about : Int) : Option (ElB × Nat) :=
  if i < 0 ∨ (s.size : Int) ≤ i then none
  else match elM s (s.size + 1) 60 i.toNat about with
    | none => none
    | some x => if strictE x.1 = true then some x else none
def readElE (s : ByteArray) (i about : Int) : ElB := match readElR s i about with | none => zeroE | some x => x.1
def readElI (s : ByteArray) (i about : Int) : Int := match readElR s i about with | none => -1 | some x => (x.2 : Int)
theorem readEl_some {s : ByteArray} {i about : Int} {x : ElB × Nat} (h : readElR s i about = some x) : readElE s i about = x.1 ∧ readElI s i about = (x.2 : Int) := by unfold readElE readElI; rw [h]; exact ⟨rfl, rfl⟩
theorem readEl_none {s : ByteArray} {i about : Int} (h : readElR s i about = none) : readElE s i about = zeroE ∧ readElI s i about = -1 := by unfold readElE readElI; rw [h]; exact ⟨rfl, rfl⟩
theorem readEl_size (s : ByteArray) (i about : Int) : elW (readElE s i about) ≤ 5 * s.size := by
  cases h : readElR s i about with
  | none =>
    rw [(readEl_none h).1]
    have e1 : elW zeroE = (⟨#[]⟩ : ByteArray).size := elW_bare 0 ⟨#[]⟩
    have e2 : (⟨#[]⟩ : ByteArray).size = 0 := rfl
    omega
  | some x =>
    rw [(readEl_some h).1]
    unfold readElR at h
    split at h
    · cases h
    · rename_i h0
      split at h
      · cases h
      · rename_i y hy
        split at h
        · injection h with h
          subst h
          have := el_size s (s.size + 1) 60 about i.toNat y.1 y.2 (by omega) hy
          omega
        · cases h

/-- Six cells of a block. -/
def Six (w : World) (c : Nat) (v0 v1 v2 v3 v4 v5 : Value) : Prop := w.cell? ⟨c, 0, none⟩ = some v0 ∧ w.cell? ⟨c, 1, none⟩ = some v1 ∧ w.cell? ⟨c, 2, none⟩ = some v2 ∧ w.cell? ⟨c, 3, none⟩ = some v3 ∧ w.cell? ⟨c, 4, none⟩ = some v4 ∧ w.cell? ⟨c, 5, none⟩ = some v5
theorem ElP.zero (P : Nat → Prop) (w : World) : ElP P w (.agg #[.int .i64 0, .int .i64 0, .string ⟨#[]⟩, .slice none 0 0, .string ⟨#[]⟩, .slice none 0 0]) zeroE := ElP.note P w 0 ⟨#[]⟩

theorem six_fin {w W : World} {f : Nat → Value} (v0 v1 v2 v3 v4 v5 : Value) (hB : Below w.heap.size w W) (h6 : Many 6 W w.heap.size f) :
    Many 6 ((((((W.setCell ⟨w.heap.size, 0, none⟩ v0).setCell ⟨w.heap.size, 1, none⟩ v1).setCell ⟨w.heap.size, 2, none⟩ v2).setCell ⟨w.heap.size, 3, none⟩ v3).setCell ⟨w.heap.size, 4, none⟩ v4).setCell ⟨w.heap.size, 5, none⟩ v5) w.heap.size (fun i => [v0, v1, v2, v3, v4, v5].getD i undef) ∧
    Below w.heap.size w ((((((W.setCell ⟨w.heap.size, 0, none⟩ v0).setCell ⟨w.heap.size, 1, none⟩ v1).setCell ⟨w.heap.size, 2, none⟩ v2).setCell ⟨w.heap.size, 3, none⟩ v3).setCell ⟨w.heap.size, 4, none⟩ v4).setCell ⟨w.heap.size, 5, none⟩ v5) :=
  ⟨h6.all6 v0 v1 v2 v3 v4 v5, hB.trans (((((((Fr.set (p := w.heap.size) W 0 v0).trans (Fr.set _ 1 v1)).trans (Fr.set _ 2 v2)).trans (Fr.set _ 3 v3)).trans (Fr.set _ 4 v4)).trans (Fr.set _ 5 v5)).below (Nat.le_refl _) hB.size)⟩

set_option maxRecDepth 20000 in
set_option maxHeartbeats 8000000 in
theorem specReadEl (s : ByteArray) (i about : Int) (w : World) (hs : s.size ≤ 1048576) :
    Calls Tryz.prog 6 #[.string s, .int .i64 i, .int .i64 about] w fun r w' => Below w.heap.size w w' ∧ ∃ v, r = .returned (.tuple #[v, .int .i64 (readElI s i about)]) ∧ ElP (w.heap.size ≤ ·) w' v (readElE s i about) := by
  by_cases hout : i < 0 ∨ (s.size : Int) ≤ i
  · have hR : readElR s i about = none := by unfold readElR; rw [if_pos hout]
    rw [(readEl_none hR).1, (readEl_none hR).2]
    clear hR
    have bA := (Below.refl w.heap.size w).alloc (Nat.le_refl _) (.cells #[.int .i64 0, .int .i64 0, .string ⟨#[]⟩, .slice none 0 0, .string ⟨#[]⟩, .slice none 0 0] 25)
    by_cases h0 : i < 0
    · clear hout
      go_enter Tryz.func6, Tryz.ntmps6
      go_wp2_with fail
      refine bodyPost_ret (v := .tuple #[.agg #[.int .i64 0, .int .i64 0, .string ⟨#[]⟩, .slice none 0 0, .string ⟨#[]⟩, .slice none 0 0], .int .i64 (-1)]) ?_ rfl ⟨bA, _, rfl, ElP.zero _ _⟩
      simp [results, Tryz.results6, go_sem]
    · have h1 : (s.size : Int) ≤ i := hout.resolve_left h0
      have h1' : decide ((s.size : Int) ≤ i) = true := decide_eq_true h1
      have h0' : decide (i < 0) = false := decide_eq_false h0
      clear hout
      go_enter Tryz.func6, Tryz.ntmps6
      go_wp2_with fail
      refine bodyPost_ret (v := .tuple #[.agg #[.int .i64 0, .int .i64 0, .string ⟨#[]⟩, .slice none 0 0, .string ⟨#[]⟩, .slice none 0 0], .int .i64 (-1)]) ?_ rfl ⟨bA, _, rfl, ElP.zero _ _⟩
      simp [results, Tryz.results6, go_sem]
  obtain ⟨k, rfl⟩ : ∃ k : Nat, i = (k : Int) := ⟨i.toNat, by omega⟩
  have hkl : k < s.size := by omega
  have h0 : ¬ (k : Int) < 0 := by omega
  have h0' : decide ((k : Int) < 0) = false := decide_eq_false h0
  have h1 : ¬ (s.size : Int) ≤ (k : Int) := by omega
  have h1' : decide ((s.size : Int) ≤ (k : Int)) = false := decide_eq_false h1
  have Hr : Hid (readElR s (k : Int) about = match elM s (s.size + 1) 60 k about with | none => none | some x => if strictE x.1 = true then some x else none) := by
    show _ = _
    unfold readElR
    rw [if_neg hout]
    rfl
  have Hsz := el_size s (s.size + 1) 60 about k
  have bW : Below w.heap.size w ((w.alloc (.cells #[.int .i64 0, .int .i64 0, .string ⟨#[]⟩, .slice none 0 0, .string ⟨#[]⟩, .slice none 0 0] 25)).alloc (.cells #[.string s, .int .i64 (k : Int), .bool true] 38)) := ((Below.refl w.heap.size w).alloc (Nat.le_refl _) _).alloc (by simp) _
  have HD0 : RdAt ((w.alloc (.cells #[.int .i64 0, .int .i64 0, .string ⟨#[]⟩, .slice none 0 0, .string ⟨#[]⟩, .slice none 0 0] 25)).alloc (.cells #[.string s, .int .i64 (k : Int), .bool true] 38)) (w.heap.size + 1) s (k : Int) true := by
    unfold RdAt
    show ((w.heap.push _).push _)[w.heap.size + 1]? = _
    have e : w.heap.size + 1 = (w.heap.push (.cells #[.int .i64 0, .int .i64 0, .string ⟨#[]⟩, .slice none 0 0, .string ⟨#[]⟩, .slice none 0 0] 25)).size := by simp
    rw [e]
    exact Array.getElem?_push_size
  have H60 : Hid (Many 6 ((w.alloc (.cells #[.int .i64 0, .int .i64 0, .string ⟨#[]⟩, .slice none 0 0, .string ⟨#[]⟩, .slice none 0 0] 25)).alloc (.cells #[.string s, .int .i64 (k : Int), .bool true] 38)) w.heap.size (fun i => [Value.int .i64 0, Value.int .i64 0, Value.string ⟨#[]⟩, Value.slice none 0 0, Value.string ⟨#[]⟩, Value.slice none 0 0].getD i undef)) := (Many.new w [.int .i64 0, .int .i64 0, .string ⟨#[]⟩, .slice none 0 0, .string ⟨#[]⟩, .slice none 0 0] 25 undef).below (B := w.heap.size + 1) (by omega) ((Below.refl _ _).alloc (by simp) _)
  have HC := elC_all s (w.heap.size + 1) (by omega) (s.size + 1) 60 k about _ HD0 (by omega) (by omega) (by omega)
  have HE : Hid (∀ x, readElR s (k : Int) about = some x → readElE s (k : Int) about = x.1 ∧ readElI s (k : Int) about = (x.2 : Int)) := fun x h => readEl_some h
  have HE0 : Hid (readElR s (k : Int) about = none → readElE s (k : Int) about = zeroE ∧ readElI s (k : Int) about = -1) := fun h => readEl_none h
  generalize readElE s (k : Int) about = E at *
  generalize readElI s (k : Int) about = J at *
  clear hout
  go_enter Tryz.func6, Tryz.ntmps6
  go_wp2_with fail
  generalize (w.alloc (.cells #[.int .i64 0, .int .i64 0, .string ⟨#[]⟩, .slice none 0 0, .string ⟨#[]⟩, .slice none 0 0] 25)).alloc (.cells #[.string s, .int .i64 (k : Int), .bool true] 38) = W0 at *
  refine HC.mono ?_
  rintro r w1 ⟨v, rfl, hleft, hfr⟩
  have HB1 : Hid (Below w.heap.size w w1) := bW.trans (hfr.below (by omega) bW.size)
  have H61 : Hid (Many 6 w1 w.heap.size (fun i => [Value.int .i64 0, Value.int .i64 0, Value.string ⟨#[]⟩, Value.slice none 0 0, Value.string ⟨#[]⟩, Value.slice none 0 0].getD i undef)) := H60.out.fr hfr (by omega)
  have hN0 : w.heap.size + 1 < W0.heap.size := HD0.lt
  clear HC HD0 H60 bW hfr
  generalize W0.heap.size = N0 at *
  rcases hleft with ⟨e, j, hR, hkj, hjs, heP, hD⟩ | ⟨hR, ⟨e, heP⟩, kx, hD⟩
  · obtain ⟨kd, sq, nm, ats, tx, ks⟩ := e
    have HeP : Hid (ElP (N0 ≤ ·) w1 v (.mk kd sq nm ats tx ks)) := heP
    obtain ⟨av, ka, kc, ev, ⟨xa, xc, eav, _⟩, _⟩ := heP
    subst eav
    subst ev
    have hc9 := hD.lt
    have bA := (Below.refl w1.heap.size w1).alloc (Nat.le_refl _) (.cells #[.int .i64 kd, .int .i64 sq, .string nm, .slice xa ats.length xc, .string tx, .slice ka ks.length kc] 25)
    have P2 : ElP (N0 ≤ ·) (w1.alloc (.cells #[.int .i64 kd, .int .i64 sq, .string nm, .slice xa ats.length xc, .string tx, .slice ka ks.length kc] 25)) (.agg #[.int .i64 kd, .int .i64 sq, .string nm, .slice xa ats.length xc, .string tx, .slice ka ks.length kc]) (.mk kd sq nm ats tx ks) := HeP.out.stay (fun b _ h2 => bA.block b h2) bA.size
    have HD2 := hD.keep bA
    have HB2 : Hid (Below w.heap.size w (w1.alloc (.cells #[.int .i64 kd, .int .i64 sq, .string nm, .slice xa ats.length xc, .string tx, .slice ka ks.length kc] 25))) := HB1.out.trans (bA.mono HB1.out.size)
    have H62 := H61.out.below (B := w1.heap.size) H61.out.1 bA
    have hw := Hsz _ _ (by omega) hR
    have hRe := Hr.out
    rw [hR] at hRe
    have HOk := specElOk (.mk kd sq nm ats tx ks) w.heap.size _ _ (P2.wide (P' := (w.heap.size ≤ ·)) (fun b _ h => by omega)).val (el_small _ (by omega)) (by have := elN_le (.mk kd sq nm ats tx ks); omega)
    have est : (decide (elD (.mk kd sq nm ats tx ks) ≤ 60) && okE (.mk kd sq nm ats tx ks)) = strictE (.mk kd sq nm ats tx ks) := rfl
    rw [est] at HOk
    have c2 := HD2.c2
    have HP2 : Hid (ElP (N0 ≤ ·) (w1.alloc (.cells #[.int .i64 kd, .int .i64 sq, .string nm, .slice xa ats.length xc, .string tx, .slice ka ks.length kc] 25)) (.agg #[.int .i64 kd, .int .i64 sq, .string nm, .slice xa ats.length xc, .string tx, .slice ka ks.length kc]) (.mk kd sq nm ats tx ks)) := P2
    have HDh : Hid (RdAt (w1.alloc (.cells #[.int .i64 kd, .int .i64 sq, .string nm, .slice xa ats.length xc, .string tx, .slice ka ks.length kc] 25)) (w.heap.size + 1) s (j : Int) true) := HD2
    have H6h : Hid (Many 6 (w1.alloc (.cells #[.int .i64 kd, .int .i64 sq, .string nm, .slice xa ats.length xc, .string tx, .slice ka ks.length kc] 25)) w.heap.size _) := H62
    clear bA P2 HD2 H62 hD H61 HeP HB1 est hw Hsz hR Hr
    cases hst : strictE (.mk kd sq nm ats tx ks)
    · rw [hst] at HOk
      have hRe' : readElR s (k : Int) about = none := by rw [hRe]; simp [hst]
      obtain ⟨rfl, rfl⟩ := HE0.out hRe'
      clear HE HE0 hRe hRe' hst
      go_wp2_with fail
      refine HOk.mono ?_
      rintro r w3 ⟨rfl, b3⟩
      have H63 := H6h.out.below (B := _) H6h.out.1 b3
      have HB3 : Hid (Below w.heap.size w w3) := HB2.out.trans (b3.mono HB2.out.size)
      clear b3 HOk HP2 HDh H6h HB2 c2
      generalize w1.heap.size = c9 at *
      have r0 := (H63.2 0 (by decide)).1
      have r1 := (H63.2 1 (by decide)).1
      have r2 := (H63.2 2 (by decide)).1
      have r3 := (H63.2 3 (by decide)).1
      have r4 := (H63.2 4 (by decide)).1
      have r5 := (H63.2 5 (by decide)).1
      have s0 := (H63.2 0 (by decide)).2
      have s1 := (H63.2 1 (by decide)).2
      have s2 := (H63.2 2 (by decide)).2
      have s3 := (H63.2 3 (by decide)).2
      have s4 := (H63.2 4 (by decide)).2
      have s5 := (H63.2 5 (by decide)).2
      simp at r0 r1 r2 r3 r4 r5
      have HH6 : Hid (Many 6 w3 w.heap.size _) := H63
      have HFin : Hid _ := six_fin (.int .i64 0) (.int .i64 0) (.string ⟨#[]⟩) (.slice none 0 0) (.string ⟨#[]⟩) (.slice none 0 0) HB3.out HH6.out
      clear H63 HH6 HB3
      go_wp2_with fail
      refine bodyPost_ret (v := .tuple #[.agg #[.int .i64 0, .int .i64 0, .string ⟨#[]⟩, .slice none 0 0, .string ⟨#[]⟩, .slice none 0 0], .int .i64 (-1)]) ?_ rfl ⟨HFin.out.2, _, rfl, ElP.zero _ _⟩
      have T := HFin.out.1
      have t0 := (T.2 0 (by decide)).1
      have t1 := (T.2 1 (by decide)).1
      have t2 := (T.2 2 (by decide)).1
      have t3 := (T.2 3 (by decide)).1
      have t4 := (T.2 4 (by decide)).1
      have t5 := (T.2 5 (by decide)).1
      simp at t0 t1 t2 t3 t4 t5
      simp [results, Tryz.results6, go_sem, t0, t1, t2, t3, t4, t5]
    · rw [hst] at HOk
      simp only [hst, if_true] at hRe
      obtain ⟨rfl, rfl⟩ := HE.out _ hRe
      clear HE HE0 hRe hst
      go_wp2_with fail
      refine HOk.mono ?_
      rintro r w3 ⟨rfl, b3⟩
      have HP3 : Hid (ElP (N0 ≤ ·) w3 (.agg #[.int .i64 kd, .int .i64 sq, .string nm, .slice xa ats.length xc, .string tx, .slice ka ks.length kc]) (.mk kd sq nm ats tx ks)) := HP2.out.stay (fun b _ h2 => b3.block b h2) b3.size
      have HD3 : Hid (RdAt w3 (w.heap.size + 1) s (j : Int) true) := HDh.out.keep b3
      have H63 := H6h.out.below (B := _) H6h.out.1 b3
      have HB3 : Hid (Below w.heap.size w w3) := HB2.out.trans (b3.mono HB2.out.size)
      have y0 : w3.cell? ⟨w1.heap.size, 0, none⟩ = some (.int .i64 kd) := keep_cell b3 (by simp)
      have y1 : w3.cell? ⟨w1.heap.size, 1, none⟩ = some (.int .i64 sq) := keep_cell b3 (by simp)
      have y2 : w3.cell? ⟨w1.heap.size, 2, none⟩ = some (.string nm) := keep_cell b3 (by simp)
      have y3 : w3.cell? ⟨w1.heap.size, 3, none⟩ = some (.slice xa ats.length xc) := keep_cell b3 (by simp)
      have y4 : w3.cell? ⟨w1.heap.size, 4, none⟩ = some (.string tx) := keep_cell b3 (by simp)
      have y5 : w3.cell? ⟨w1.heap.size, 5, none⟩ = some (.slice ka ks.length kc) := keep_cell b3 (by simp)
      clear b3 HOk HP2 HDh H6h HB2 c2
      generalize w1.heap.size = c9 at *
      have c1 := HD3.out.c1
      have r0 := (H63.2 0 (by decide)).1
      have r1 := (H63.2 1 (by decide)).1
      have r2 := (H63.2 2 (by decide)).1
      have r3 := (H63.2 3 (by decide)).1
      have r4 := (H63.2 4 (by decide)).1
      have r5 := (H63.2 5 (by decide)).1
      have s0 := (H63.2 0 (by decide)).2
      have s1 := (H63.2 1 (by decide)).2
      have s2 := (H63.2 2 (by decide)).2
      have s3 := (H63.2 3 (by decide)).2
      have s4 := (H63.2 4 (by decide)).2
      have s5 := (H63.2 5 (by decide)).2
      simp at r0 r1 r2 r3 r4 r5
      have HH6 : Hid (Many 6 w3 w.heap.size _) := H63
      clear H63
      have n1 : w.heap.size ≠ w.heap.size + 1 := by omega
      have n2 : w.heap.size + 1 ≠ w.heap.size := by omega
      have n3 : c9 ≠ w.heap.size := by omega
      have n4 : w.heap.size ≠ c9 := by omega
      have HFin : Hid _ := six_fin (.int .i64 kd) (.int .i64 sq) (.string nm) (.slice xa ats.length xc) (.string tx) (.slice ka ks.length kc) HB3.out HH6.out
      have hag := agr_all6 (lo := N0) (c := w.heap.size) w3 (by omega) (.int .i64 kd) (.int .i64 sq) (.string nm) (.slice xa ats.length xc) (.string tx) (.slice ka ks.length kc)
      have HPF : Hid (ElP (w.heap.size ≤ ·) _ (.agg #[.int .i64 kd, .int .i64 sq, .string nm, .slice xa ats.length xc, .string tx, .slice ka ks.length kc]) (.mk kd sq nm ats tx ks)) := (HP3.out.stay (fun b h1 _ => hag.1 b h1) hag.2).wide (fun b _ h => by omega)
      clear hag HP3 HD3 HB3 HH6
      go_upto_region 7 with fail
      go_region
      go_wp2_with fail
      have hdr : ∀ X : World, Below X.heap.size X X.drew := fun X => (Below.refl _ _).drew
      refine bodyPost_ret (v := .tuple #[.agg #[.int .i64 kd, .int .i64 sq, .string nm, .slice xa ats.length xc, .string tx, .slice ka ks.length kc], .int .i64 (j : Int)]) ?_ rfl ⟨HFin.out.2.drew, _, rfl, HPF.out.stay (fun b _ h2 => (hdr _).block b h2) (hdr _).size⟩
      have T := HFin.out.1.below HFin.out.1.1 (hdr _)
      have t0 := (T.2 0 (by decide)).1
      have t1 := (T.2 1 (by decide)).1
      have t2 := (T.2 2 (by decide)).1
      have t3 := (T.2 3 (by decide)).1
      have t4 := (T.2 4 (by decide)).1
      have t5 := (T.2 5 (by decide)).1
      simp at t0 t1 t2 t3 t4 t5
      simp [results, Tryz.results6, go_sem, t0, t1, t2, t3, t4, t5]
  · obtain ⟨kd, sq, nm, ats, tx, ks⟩ := e
    have HeP : Hid (ElP (N0 ≤ ·) w1 v (.mk kd sq nm ats tx ks)) := heP
    obtain ⟨av, ka, kc, ev, ⟨xa, xc, eav, _⟩, _⟩ := heP
    subst eav
    subst ev
    have hc9 := hD.lt
    have bA := (Below.refl w1.heap.size w1).alloc (Nat.le_refl _) (.cells #[.int .i64 kd, .int .i64 sq, .string nm, .slice xa ats.length xc, .string tx, .slice ka ks.length kc] 25)
    have P2 : ElP (N0 ≤ ·) (w1.alloc (.cells #[.int .i64 kd, .int .i64 sq, .string nm, .slice xa ats.length xc, .string tx, .slice ka ks.length kc] 25)) (.agg #[.int .i64 kd, .int .i64 sq, .string nm, .slice xa ats.length xc, .string tx, .slice ka ks.length kc]) (.mk kd sq nm ats tx ks) := HeP.out.stay (fun b _ h2 => bA.block b h2) bA.size
    have HD2 := hD.keep bA
    have HB2 : Hid (Below w.heap.size w (w1.alloc (.cells #[.int .i64 kd, .int .i64 sq, .string nm, .slice xa ats.length xc, .string tx, .slice ka ks.length kc] 25))) := HB1.out.trans (bA.mono HB1.out.size)
    have H62 := H61.out.below (B := w1.heap.size) H61.out.1 bA
    have hRe := Hr.out
    rw [hR] at hRe
    obtain ⟨rfl, rfl⟩ := HE0.out hRe
    have c2 := HD2.c2
    have H63 := H62
    have HB3 := HB2
    clear bA P2 HD2 H62 hD H61 HeP HB1 Hsz hR Hr HE HE0 hRe HB2
    have hc9' := hc9
    clear hc9'
    have r0 := (H63.2 0 (by decide)).1
    have r1 := (H63.2 1 (by decide)).1
    have r2 := (H63.2 2 (by decide)).1
    have r3 := (H63.2 3 (by decide)).1
    have r4 := (H63.2 4 (by decide)).1
    have r5 := (H63.2 5 (by decide)).1
    have s0 := (H63.2 0 (by decide)).2
    have s1 := (H63.2 1 (by decide)).2
    have s2 := (H63.2 2 (by decide)).2
    have s3 := (H63.2 3 (by decide)).2
    have s4 := (H63.2 4 (by decide)).2
    have s5 := (H63.2 5 (by decide)).2
    simp at r0 r1 r2 r3 r4 r5
    have HH6 : Hid (Many 6 _ w.heap.size _) := H63
    have HFin : Hid _ := six_fin (.int .i64 0) (.int .i64 0) (.string ⟨#[]⟩) (.slice none 0 0) (.string ⟨#[]⟩) (.slice none 0 0) HB3.out HH6.out
    clear H63 HH6 HB3
    go_wp2_with fail
    refine bodyPost_ret (v := .tuple #[.agg #[.int .i64 0, .int .i64 0, .string ⟨#[]⟩, .slice none 0 0, .string ⟨#[]⟩, .slice none 0 0], .int .i64 (-1)]) ?_ rfl ⟨HFin.out.2, _, rfl, ElP.zero _ _⟩
    have T := HFin.out.1
    have t0 := (T.2 0 (by decide)).1
    have t1 := (T.2 1 (by decide)).1
    have t2 := (T.2 2 (by decide)).1
    have t3 := (T.2 3 (by decide)).1
    have t4 := (T.2 4 (by decide)).1
    have t5 := (T.2 5 (by decide)).1
    simp at t0 t1 t2 t3 t4 t5
    simp [results, Tryz.results6, go_sem, t0, t1, t2, t3, t4, t5]

end Go.Proofs.YtbmmghkieolpkaaGreatDoor.Sg

namespace Go.Proofs.YtbmmghkieolpkaaGreatDoor.Sg
open Go.ChangeShapes Go.WideShapes Go.ChangeAt Go.RowKit Go.Sort

theorem le_or (a b : List UInt8) (h : a ≤ b) (hn : a ≠ b) : a < b := by
  by_cases h1 : a < b
  · exact h1
  · exact absurd (List.le_antisymm h (List.not_lt.1 h1)) hn

/-- Lists in strict order with the same members are one. -/
theorem eq_of_members : ∀ (a b : List (List UInt8)), a.Pairwise (· < ·) → b.Pairwise (· < ·) → (∀ x, x ∈ a ↔ x ∈ b) → a = b
  | [], [], _, _, _ => rfl
  | [], y :: b, _, _, h => absurd ((h y).2 List.mem_cons_self) List.not_mem_nil
  | x :: a, [], _, _, h => absurd ((h x).1 List.mem_cons_self) List.not_mem_nil
  | x :: a, y :: b, ha, hb, h => by
    rw [List.pairwise_cons] at ha hb
    have e : x = y := by
      rcases List.mem_cons.1 ((h x).1 List.mem_cons_self) with e | m1
      · exact e
      · rcases List.mem_cons.1 ((h y).2 List.mem_cons_self) with e | m2
        · exact e.symm
        · exact absurd (List.lt_trans (hb.1 x m1) (ha.1 y m2)) (List.lt_irrefl _)
    subst e
    rw [eq_of_members a b ha.2 hb.2 fun z => ?_]
    constructor
    · intro m
      rcases List.mem_cons.1 ((h z).1 (List.mem_cons_of_mem _ m)) with e | m1
      · subst e
        exact absurd (ha.1 _ m) (List.lt_irrefl _)
      · exact m1
    · intro m
      rcases List.mem_cons.1 ((h z).2 (List.mem_cons_of_mem _ m)) with e | m1
      · subst e
        exact absurd (hb.1 _ m) (List.lt_irrefl _)
      · exact m1

/-- What is kept of a sorted list is in strict order, and no member is lost. -/
theorem compact_upto (ts : List (List UInt8)) (hs : ts.Pairwise (· ≤ ·)) : ∀ m, m ≤ ts.length →
    (Lib.compactUpTo ts.toArray m).Pairwise (· < ·) ∧ ∀ x, x ∈ Lib.compactUpTo ts.toArray m ↔ ∃ j, j < m ∧ ts.toArray[j]! = x
  | 0, _ => ⟨by simp [Lib.compactUpTo], fun x => by simp [Lib.compactUpTo]⟩
  | m + 1, hm => by
    obtain ⟨h1, h2⟩ := compact_upto ts hs m (by omega)
    have le : ∀ i j, i ≤ j → j < ts.length → ts.toArray[i]! ≤ ts.toArray[j]! := fun i j hij hj => by
      have ei : ts.toArray[i]! = ts[i]'(by omega) := by simp [getElem!_pos, show i < ts.length by omega]
      have ej : ts.toArray[j]! = ts[j] := by simp [getElem!_pos, hj]
      rw [ei, ej]
      by_cases e : i = j
      · subst e
        exact List.le_refl _
      · exact List.pairwise_iff_getElem.1 hs i j (by omega) hj (by omega)
    rw [Lib.compactUpTo_succ]
    cases hk : Lib.keeps ts.toArray m with
    | true =>
      rw [if_pos rfl]
      constructor
      · rw [List.pairwise_append]
        refine ⟨h1, List.pairwise_singleton _ _, fun x hx y hy => ?_⟩
        obtain ⟨j, hj, rfl⟩ := (h2 x).1 hx
        rw [List.mem_singleton.1 hy]
        have hne : ts.toArray[m]! ≠ ts.toArray[m - 1]! := by
          rcases of_decide_eq_true hk with e | e
          · omega
          · exact e
        have l1 := le j (m - 1) (by omega) (by omega)
        have l2 := le (m - 1) m (by omega) (by omega)
        exact List.lt_of_le_of_lt l1 (le_or _ _ l2 hne.symm)
      · intro x
        rw [List.mem_append, h2 x, List.mem_singleton]
        constructor
        · rintro (⟨j, hj, e⟩ | e)
          · exact ⟨j, by omega, e⟩
          · exact ⟨m, by omega, e.symm⟩
        · rintro ⟨j, hj, e⟩
          by_cases e1 : j = m
          · subst e1
            exact .inr e.symm
          · exact .inl ⟨j, by omega, e⟩
    | false =>
      rw [if_neg (by decide), List.append_nil]
      refine ⟨h1, fun x => ?_⟩
      rw [h2 x]
      have hd := of_decide_eq_false hk
      have hm0 : m ≠ 0 := fun e => hd (.inl e)
      have he : ts.toArray[m]! = ts.toArray[m - 1]! := Decidable.byContradiction fun e => hd (.inr e)
      constructor
      · rintro ⟨j, hj, e⟩
        exact ⟨j, by omega, e⟩
      · rintro ⟨j, hj, e⟩
        by_cases e1 : j = m
        · subst e1
          exact ⟨j - 1, by omega, by rw [← he]; exact e⟩
        · exact ⟨j, by omega, e⟩
theorem compact_sorted (ts : List (List UInt8)) (hs : ts.Pairwise (· ≤ ·)) : (Lib.compact ts).Pairwise (· < ·) ∧ ∀ x, x ∈ Lib.compact ts ↔ x ∈ ts := by
  obtain ⟨h1, h2⟩ := compact_upto ts hs ts.length (Nat.le_refl _)
  refine ⟨h1, fun x => (h2 x).trans ⟨?_, fun h => ?_⟩⟩
  · rintro ⟨j, hj, rfl⟩
    rw [show ts.toArray[j]! = ts[j] by simp [getElem!_pos, hj]]
    exact List.getElem_mem hj
  · obtain ⟨j, hj, rfl⟩ := List.getElem_of_mem h
    exact ⟨j, hj, by simp [getElem!_pos, hj]⟩
def dL (s : ByteArray) : List UInt8 := s.data.toList
theorem sorted_msB (ss : List (List UInt8)) : (ss.mergeSort fun x y => decide (x ≤ y)).Pairwise (· ≤ ·) := by
  have h := List.pairwise_mergeSort (le := fun x y : List UInt8 => decide (x ≤ y)) (fun a b c h1 h2 => by simp only [decide_eq_true_eq] at *; exact List.le_trans h1 h2) (fun a b => by simp only [Bool.or_eq_true, decide_eq_true_eq]; exact List.le_total a b) ss
  exact h.imp fun {a b} h1 => of_decide_eq_true h1

theorem keeps_all {ts : List (List UInt8)} (h : (Lib.compact ts).length = ts.length) : Lib.compact ts = ts := by
  unfold Lib.compact Lib.compactUpTo at h ⊢
  rw [List.length_map] at h
  have hf : (List.range ts.length).filter (Lib.keeps ts.toArray) = List.range ts.length := by
    refine List.filter_eq_self.2 ?_
    refine List.length_filter_eq_length_iff.1 ?_
    rw [h, List.length_range]
  rw [hf]
  refine List.ext_getElem (by simp) fun k h1 h2 => ?_
  simp [h2]
/-- As many are left as there were just where none stands twice. -/
theorem compact_nodup (ss : List (List UInt8)) : (Lib.compact (ss.mergeSort fun x y => decide (x ≤ y))).length = ss.length ↔ ss.Nodup := by
  have hs := sorted_msB ss
  have hp : (ss.mergeSort fun x y => decide (x ≤ y)).Perm ss := List.mergeSort_perm _ _
  rw [← hp.nodup_iff, ← hp.length_eq]
  generalize (ss.mergeSort fun x y => decide (x ≤ y)) = ts at *
  obtain ⟨h1, h2⟩ := compact_sorted ts hs
  constructor
  · intro h
    rw [keeps_all h] at h1
    exact h1.imp fun {a b} hab e => by
      subst e
      exact List.lt_irrefl _ hab
  · intro hn
    have h3 : ts.Pairwise (· < ·) := List.Pairwise.imp₂ (fun a b hab hne => le_or a b hab hne) hs hn
    rw [eq_of_members _ _ h1 h3 h2]

end Go.Proofs.YtbmmghkieolpkaaGreatDoor.Sg

namespace Go.Proofs.YtbmmghkieolpkaaGreatDoor.Sg
open Go.ChangeShapes Go.WideShapes Go.ChangeAt Go.RowKit Go.Sort

theorem info_strU : (Tryz.prog.info? 9).map (fun i => (i.zero, i.size, i.bytes)) = some (some (.string ⟨#[]⟩), 1, 16) := by kernel_rfl
theorem one_cellU (w : World) (x : Value) (t : TypeId) (b : Nat) (hb : b = w.heap.size) : ∀ j u, ([x])[j]? = some u → (w.alloc (.cells #[x] t)).cell? ((⟨b, 0, none⟩ : Addr).add j) = some u := by
  intro j u hj
  subst hb
  match j, hj with
  | 0, hj => simp at hj; subst hj; simp [Addr.add]

/-- The names of attributes. -/
def anames (l : List AttrB) : List (List UInt8) := l.map fun p => dL p.1
/-- No name stands twice. -/
def unlikeB (l : List AttrB) : Bool := decide (anames l).Nodup
theorem anames_step (l : List AttrB) (k : Nat) (h : k < l.length) : anames (l.take (k + 1)) = anames (l.take k) ++ [dL (l[k]'h).1] := by
  unfold anames
  rw [List.take_succ_eq_append_getElem h, List.map_append]
  rfl

set_option maxRecDepth 100000 in
set_option maxHeartbeats 8000000 in
theorem implUnlike (l : List AttrB) (a : Option Addr) (n cap : Nat) (w : World) (ha : AttrsAt w a l) (hl : l.length = n) (hn : n ≤ 16777216) :
    Calls Tryz.prog 76 #[.slice a n cap] w fun e w' => e = .returned (.bool (unlikeB l)) ∧ Below w.heap.size w w' := by
  obtain ⟨i0, hi, hz0, hz1, hz2⟩ := info_parts info_strU
  have HA : Hid (AttrsAt w a l) := ha
  have Hl : Hid (l.length = n) := hl
  have HR : Hid (unlikeB l = decide ((Lib.compact ((anames l).mergeSort fun x y => decide (x ≤ y))).length = n)) := by
    show _ = _
    unfold unlikeB
    have := compact_nodup (anames l)
    rw [show (anames l).length = n by unfold anames; rw [List.length_map, hl]] at this
    exact decide_eq_decide.2 this.symm
  generalize unlikeB l = R at *
  clear ha hl
  obtain ⟨Wm, hmk, hem, gm⟩ := run_make_own (P := Tryz.prog) w w.heap.size 119 9 i0 (.string ⟨#[]⟩) 1 Tryz.underlying119 hi hz0 hz1 .i64 .i64 n (by rw [hz2]; omega) (by unfold maxLen; omega) (Nat.le_refl _)
  have HE : Hid (Wm.ownsRow w.heap.size 9 1 (.slice (some ⟨w.heap.size, 0, none⟩) 0 n) 0 []) := hem
  have HBm : Hid (Below w.heap.size w Wm) := (Below.refl _ w).grown gm (Nat.le_refl _) (fun k e => by cases e)
  clear hem gm
  go_enter Tryz.func76, Tryz.ntmps76
  go_wp2_with fail
  go_loopw [3, 5, 11] (fun ov _ iv wr => ∃ (k : Nat) (ss : List (List UInt8)), k ≤ n ∧ iv = .int .i64 k ∧ Hid (ss.length = k) ∧ Hid (ss = anames (l.take k)) ∧ Hid (wr.ownsRow w.heap.size 9 1 ov k (ss.map Go.Proofs.encStr)) ∧ Hid (ov ≠ .slice none 0 0) ∧ Hid (Below w.heap.size w wr)) (fun _ _ iv _ => n - (intOf iv).toNat)
  case atStart => exact ⟨0, [], Nat.zero_le _, rfl, rfl, by show [] = _; rfl, HE, (by intro h; cases h), HBm⟩
  case round =>
    clear HE HBm hmk
    obtain ⟨k, ss, hk, rfl, Hm, HS, HO, HNn, HB⟩ := hrel
    have k0 : (0 : Int) ≤ (k : Int) := by omega
    by_cases hlt : k < n
    · have hkl : k < l.length := by rw [Hl.out]; exact hlt
      have k1 : (k : Int) < (n : Int) := by omega
      obtain ⟨b, rfl, c0, c1⟩ := attrs_one (HA.out.below HB.out) k hkl
      have HSs : Hid (ss ++ [dL (l[k]'hkl).1] = anames (l.take (k + 1))) := by show _ = _; rw [anames_step l k hkl, ← HS.out]
      generalize l[k]'hkl = p at *
      obtain ⟨nm, vl⟩ := p
      simp only at c0 c1 HSs
      have Hmn : Hid ((ss ++ [dL nm]).length = k + 1) := by show _ = _; rw [List.length_append, Hm.out]; rfl
      have hbs := HB.out.size
      have hO := HO.out
      have hone : ∀ y ∈ [Go.Proofs.encStr (dL nm)], y.oneCell' = true := by simp [Value.oneCell', Go.Proofs.encStr]
      have h63 : k + 1 ≤ maxLen := by unfold maxLen; omega
      have hbyt : (k + 1) * 16 ≤ 140737488355328 := by omega
      go_wp2_with (first
        | (at_builtin; refine wpList_append_own _ rfl _ _ 119 rfl w.heap.size 9 i0 (.string ⟨#[]⟩) 1 16 Tryz.underlying119 hi hz0 hz1 hz2 rfl (by decide) _ _ _ rfl ((hO.alloc _).alloc _) ⟨wr.heap.size + 1, 0, none⟩ 1 1 [Go.Proofs.encStr (dL nm)] rfl rfl (one_cellU _ _ _ _ (by simp)) hone h63 hbyt (by simp; omega) ?_; intro v3 w3 o3 g3 hnil3)
        | go_in)
      have B2 : Below w.heap.size w ((wr.alloc (.cells #[.string nm, .string vl] 73)).alloc (.cells #[.string nm] 9)) := (HB.out.alloc hbs _).alloc (by simp; omega) _
      have B3 : Hid (Below w.heap.size w w3) := grown_below ((hO.alloc _).alloc _) B2 (Nat.le_refl _) g3 (by simp; omega)
      have O3 : Hid (w3.ownsRow w.heap.size 9 1 v3 (k + 1) ((ss ++ [dL nm]).map Go.Proofs.encStr)) := by show World.ownsRow _ _ _ _ _ _ _; rw [List.map_append]; exact o3
      have N3 : Hid (v3 ≠ .slice none 0 0) := fun e => absurd (hnil3.1 e).2 (by decide)
      clear o3 g3 hO B2 hone hnil3
      go_roundw
      case rel => exact ⟨k + 1, _, by omega, by go_num, Hmn, HSs, O3, N3, B3⟩
      case measure => simp [intOf]; omega
    · have hkn : k = n := by omega
      subst hkn
      have g1 : decide ((k : Int) < (k : Int)) = false := by simp
      have HSn : Hid (ss = anames l) := by show _ = _; rw [HS.out, List.take_of_length_le (by rw [Hl.out]; exact Nat.le_refl _)]
      rcases HO.out.2 with ⟨h0, _⟩ | ⟨g, oc, cur, rfl, hbase, hb, h1, h2, h3, h4⟩
      · exact absurd h0 HNn.out
      have h1' : ss.length ≤ oc := by rw [Hm.out]; exact h1
      have hH : Holds Go.Proofs.encStr wr g 0 ss.toArray := holds_of_block hb (by rw [Hm.out]; simpa using h4)
      have hgl : g < wr.heap.size := (Array.getElem?_eq_some_iff.1 hb).1
      have C1 := Tryz.slices_Sort_string g 0 oc ss wr hH hgl (by rw [Hm.out]; omega)
      rw [Hm.out] at C1
      obtain ⟨zs, HZ⟩ : ∃ zs, Hid (zs = ss.mergeSort fun x y => decide (x ≤ y)) := ⟨_, rfl⟩
      rw [← HZ.out] at C1
      have hzl : zs.length = ss.length := by rw [HZ.out]; simp
      have HR2 : Hid (R = decide ((Lib.compact zs).length = k)) := by show _ = _; rw [HR.out, HZ.out, HSn.out]
      have C2 : ∀ nn os, Calls Tryz.prog 102 #[.slice (some ⟨g, 0, none⟩) k oc] (grow (putRow Go.Proofs.encStr (Sort.ahead wr nn) g 0 zs.toArray) os) fun e w' => e = .returned (.slice (some ⟨g, 0, none⟩) (Lib.compact zs).length oc) ∧ Below w.heap.size w w' := by
        intro nn os
        have hrow := ownsRow_sorted (n := nn) (os := os) hzl hbase hb h1' h2 h3
        have hbel : Below w.heap.size w (grow (putRow Go.Proofs.encStr (Sort.ahead wr nn) g 0 zs.toArray) os) := HB.out.grown (grownBy_sorted _) HB.out.size (fun j hj => by cases hj; exact hbase)
        generalize grow (putRow Go.Proofs.encStr (Sort.ahead wr nn) g 0 zs.toArray) os = W at *
        rcases hrow.2 with ⟨hv, _⟩ | ⟨g', oc', cur', hv, hbase', hb', e1, e2, e3, e4⟩
        · cases hv
        cases hv
        have hH' : Holds Go.Proofs.encStr W g 0 zs.toArray := holds_of_block hb' (by rw [hzl]; simpa using e4)
        have C := Tryz.slices_Compact_string g 0 oc zs W hH' (by rw [hzl, Hm.out]; omega) (by rw [hzl]; exact e1)
        rw [hzl, Hm.out] at C
        refine C.mono ?_
        rintro e w' ⟨rfl, q, rfl⟩
        have hg : W.grownBy (grow (putRow Go.Proofs.encStr (Sort.ahead W q) g 0 (Lib.compact zs ++ List.replicate (k - (Lib.compact zs).length) ([] : List UInt8)).toArray) #[]) (some g) := grownBy_sorted _
        rw [grow_empty] at hg
        exact ⟨rfl, hbel.grown hg hbel.size (fun j hj => by cases hj; exact hbase)⟩
      generalize (Lib.compact zs).length = m at *
      clear hH h1 h1' h2 h3 h4 hb hbase hgl hzl HO HR HSn HZ
      have Hv : Hid (R = ((m : Int) == (k : Int))) := by
        show _ = _
        rw [HR2.out]
        by_cases e : m = k
        · subst e; simp
        · rw [decide_eq_false e]
          symm
          rw [beq_eq_false_iff_ne]
          omega
      clear HR2
      go_wp2_with fail
      refine C1.mono ?_
      rintro e w1 ⟨rfl, nn, os, rfl⟩
      clear C1
      replace C2 := C2 nn os
      generalize grow (putRow Go.Proofs.encStr (Sort.ahead wr nn) g 0 zs.toArray) os = W at *
      go_wp2_with fail
      refine C2.mono ?_
      rintro e w2 ⟨rfl, b2⟩
      have HB2 : Hid (Below w.heap.size w w2) := b2
      clear C2 b2
      go_wp2_with fail
      go_ret
      exact ⟨ret_bo Hv.out.symm, HB2.out⟩

end Go.Proofs.YtbmmghkieolpkaaGreatDoor.Sg

namespace Go.Proofs.YtbmmghkieolpkaaGreatDoor.Sg
open Go.ChangeShapes Go.WideShapes Go.ChangeAt Go.RowKit

/-- An attribute is strict by itself. -/
def attrOk (p : AttrB) : Bool := stNameB p.1 && (!(p.1.toList == xmlnsB.toList) && stTextB p.2)

theorem attrsSt_iff (l : List AttrB) (m : Nat) : ∀ k, l.length - k = m → (attrsSt l k = true ↔ ∀ j, k ≤ j → ∀ h : j < l.length, attrSt l j (l[j]'h) = true) := by
  induction m with
  | zero =>
    intro k hk
    rw [attrsSt_end (by omega)]
    exact ⟨fun _ j h1 h2 => by omega, fun _ => rfl⟩
  | succ m ih =>
    intro k hk
    have hlt : k < l.length := by omega
    rw [attrsSt_step hlt, Bool.and_eq_true, ih (k + 1) (by omega)]
    constructor
    · rintro ⟨h1, h2⟩ j hj hjl
      by_cases e : j = k
      · subst e
        exact h1
      · exact h2 j (by omega) hjl
    · intro h
      exact ⟨h k (Nat.le_refl _) hlt, fun j hj hjl => h j (by omega) hjl⟩
theorem hasA_iff (l : List AttrB) (x : ByteArray) : hasA l x = true ↔ dL x ∈ anames l := by
  unfold hasA anames
  rw [List.any_eq_true, List.mem_map]
  constructor
  · rintro ⟨p, hp, he⟩
    rw [beq_iff_eq, ByteArray.toList_eq, ByteArray.toList_eq] at he
    exact ⟨p, hp, he⟩
  · rintro ⟨p, hp, he⟩
    refine ⟨p, hp, ?_⟩
    rw [beq_iff_eq, ByteArray.toList_eq, ByteArray.toList_eq]
    exact he
theorem unlike_iff (l : List AttrB) : unlikeB l = true ↔ ∀ j, ∀ h : j < l.length, hasA (l.take j) (l[j]'h).1 = false := by
  unfold unlikeB
  rw [decide_eq_true_iff]
  have hln : (anames l).length = l.length := by unfold anames; rw [List.length_map]
  have hat : ∀ i (h : i < l.length), (anames l)[i]'(by omega) = dL (l[i]'h).1 := fun i h => by simp [anames]
  constructor
  · intro hn j hj
    cases hh : hasA (l.take j) (l[j]'hj).1
    · rfl
    · rw [hasA_iff] at hh
      unfold anames at hh
      obtain ⟨p, hp, he⟩ := List.mem_map.1 hh
      obtain ⟨i, hi, hpi⟩ := List.getElem_of_mem hp
      rw [List.length_take] at hi
      rw [List.getElem_take] at hpi
      have h1 := List.pairwise_iff_getElem.1 hn i j (by omega) (by omega) (by omega)
      rw [hat i (by omega), hat j hj, hpi] at h1
      exact absurd he h1
  · intro h
    refine List.pairwise_iff_getElem.2 fun i j hi hj hij e => ?_
    have h1 := h j (by omega)
    rw [hat i (by omega), hat j (by omega)] at e
    have h2 : hasA (l.take j) (l[j]'(by omega)).1 = true := by
      rw [hasA_iff]
      unfold anames
      refine List.mem_map.2 ⟨l[i]'(by omega), ?_, e⟩
      exact List.mem_take_iff_getElem.2 ⟨i, by omega, rfl⟩
    rw [h1] at h2
    cases h2
theorem attrsSt_eq (l : List AttrB) : attrsSt l 0 = (unlikeB l && l.all attrOk) := by
  have h1 := attrsSt_iff l l.length 0 rfl
  have h2 := unlike_iff l
  have h3 : l.all attrOk = true ↔ ∀ j, ∀ h : j < l.length, attrOk (l[j]'h) = true := by
    rw [List.all_eq_true]
    constructor
    · exact fun h j hj => h _ (List.getElem_mem hj)
    · intro h p hp
      obtain ⟨i, hi, rfl⟩ := List.getElem_of_mem hp
      exact h i hi
  have key : ∀ j, ∀ h : j < l.length, attrSt l j (l[j]'h) = (attrOk (l[j]'h) && !hasA (l.take j) (l[j]'h).1) := fun j h => by
    unfold attrSt attrOk
    simp only [Bool.and_assoc]
  rw [Bool.eq_iff_iff, h1, Bool.and_eq_true, h2, h3]
  constructor
  · intro h
    refine ⟨fun j hj => ?_, fun j hj => ?_⟩
    · have := h j (Nat.zero_le _) hj
      rw [key j hj, Bool.and_eq_true] at this
      simpa using this.2
    · have := h j (Nat.zero_le _) hj
      rw [key j hj, Bool.and_eq_true] at this
      exact this.1
  · rintro ⟨ha, hb⟩ j _ hj
    rw [key j hj, ha j hj, hb j hj]
    rfl

end Go.Proofs.YtbmmghkieolpkaaGreatDoor.Sg
