/- A row of elements that grows: each with all that is in it in other blocks. What is kept but for some blocks. Contract of the laws' marks of texts. Contract of the laws' attributes compared: one with itself. Contract of the laws' slices of attributes compared: one with itself. Contracts of the laws' marks of texts, and of attributes compared. Elements that a call owns: each row in a block of its own. Texts in memory, one behind the other. What is escaped, and the names of the spaces, plain. No program in it. What is escaped is read as it was, plain. No program in it. -/
import Derived.Test.YtbmmghkieolpkaaGreatDoorMR2201
import Derived.Test.YtbmmghkieolpkaaGreatDoorMR2205
import Derived.Test.YtbmmghkieolpkaaGreatDoorSgOk
import Derived.Below
import Derived.Test.YtbmmghkieolpkaaGreatDoorGAttrs
import Derived.Deep.Cut
import Derived.Deep.CutRange
import Derived.Deep.RegionHeld3
import Derived.Test.YtbmmghkieolpkaaGreatDoorSpSwapP
import Derived.Test.YtbmmghkieolpkaaGreatDoorXmP
namespace Go.Proofs.YtbmmghkieolpkaaGreatDoor.Sg
open Go.ChangeShapes Go.WideShapes Go.ChangeAt Go.RowKit

def RowL (w : World) (lo : Nat) (v : Value) (l : List ElB) : Prop :=
  ∃ g cap C, v = .slice (some ⟨g, 0, none⟩) l.length cap ∧ w.ownsRow lo 25 6 v l.length C ∧ ∀ i (hi : i < l.length), ElP (fun b => lo ≤ b ∧ b ≠ g) w (sixV C i) (l[i]'hi)
theorem RowL.empty (w : World) (lo : Nat) (h : lo ≤ w.heap.size) : RowL (w.alloc (.cells #[] 25)) lo (.slice (some ⟨w.heap.size, 0, none⟩) 0 0) [] :=
  ⟨w.heap.size, 0, [], rfl, ⟨rfl, .inr ⟨w.heap.size, 0, #[], rfl, h, by show (w.heap.push _)[w.heap.size]? = _; simp, Nat.le_refl _, Nat.zero_le _, rfl, rfl⟩⟩, fun i hi => absurd hi (Nat.not_lt_zero _)⟩
theorem RowL.keep {w w' : World} {lo : Nat} {v : Value} {l : List ElB} (h : RowL w lo v l) (hb : Below w.heap.size w w') : RowL w' lo v l := by
  obtain ⟨g, cap, C, e, ho, hv⟩ := h
  exact ⟨g, cap, C, e, owns_below ho (Nat.le_refl _) hb, fun i hi => (hv i hi).stay (fun b _ h2 => hb.block b h2) hb.size⟩
theorem RowL.fr {p : Nat} {w w' : World} {lo : Nat} {v : Value} {l : List ElB} (h : RowL w lo v l) (hf : Fr p w w') (hp : p < lo) : RowL w' lo v l := by
  obtain ⟨g, cap, C, e, ho, hv⟩ := h
  exact ⟨g, cap, C, e, hf.owns hp ho, fun i hi => (hv i hi).fr hf (by intro h; omega)⟩
theorem RowL.form {w : World} {lo : Nat} {v : Value} {l : List ElB} (h : RowL w lo v l) : ∃ g cap, v = .slice (some ⟨g, 0, none⟩) l.length cap ∧ lo ≤ g ∧ g < w.heap.size := by
  obtain ⟨g, cap, C, e, ho, hv⟩ := h
  subst e
  have := ho.lt g rfl
  exact ⟨g, cap, rfl, this.1, this.2⟩
/-- The kids of an element. -/
theorem RowL.kids {w : World} {lo : Nat} {v : Value} {l : List ElB} (h : RowL w lo v l) : ∃ g cap, v = .slice (some ⟨g, 0, none⟩) l.length cap ∧ KidsIn (QP (lo ≤ ·)) (lo ≤ ·) w (some ⟨g, 0, none⟩) l := by
  obtain ⟨g, cap, C, e, ho, hv⟩ := h
  subst e
  have hg := (ho.lt g rfl).1
  refine ⟨g, cap, rfl, .inr ⟨g, 0, rfl, hg, ElsIn.of fun i hi => ?_⟩⟩
  have hw := (hv i hi).wide (P' := (lo ≤ ·)) (fun b _ h => h.1)
  have hC : C.length = l.length * 6 := ho.1
  have cell : ∀ j, j < 6 → w.cell? ⟨g, i * 6 + j, none⟩ = some (C.getD (i * 6 + j) undef) := fun j hj => by
    have hlt : i * 6 + j < l.length * 6 := by omega
    rw [(own_cell ho hlt).1]
    simp [List.getD, show i * 6 + j < C.length by omega]
  rw [Nat.zero_add]
  exact ElV.cells hw (cell 0 (by omega)) (cell 1 (by omega)) (cell 2 (by omega)) (cell 3 (by omega)) (cell 4 (by omega)) (cell 5 (by omega))
/-- One more is appended. -/
theorem RowL.more {w w' : World} {lo N : Nat} {v v' : Value} {l : List ElB} {C : List Value} {g : Nat} {a0 a1 a2 a3 a4 a5 : Value} {e : ElB}
    (hv : v.ownBlock = some g) (hC : C.length = l.length * 6) (hl : ∀ i (hi : i < l.length), ElP (fun b => lo ≤ b ∧ b ≠ g) w (sixV C i) (l[i]'hi)) (hN : g < N) (hlo : lo ≤ N) (he : ElP (N ≤ ·) w (.agg #[a0, a1, a2, a3, a4, a5]) e)
    (ho : w'.ownsRow lo 25 6 v' (l.length + 1) (C ++ [a0, a1, a2, a3, a4, a5])) (hg : w.grownBy w' v.ownBlock) (hb : ∀ b, v'.ownBlock = some b → v.ownBlock = some b ∨ w.heap.size ≤ b) : RowL w' lo v' (l ++ [e]) := by
  rcases ho.2 with ⟨rfl, h0⟩ | ⟨g', cap', cur, rfl, h3, h4, h5⟩
  · omega
  have hlen : (l ++ [e]).length = l.length + 1 := by simp
  have hg' := hb g' rfl
  have kept : ∀ b, (lo ≤ b ∧ b ≠ g) → b < w.heap.size → w'.heap[b]? = w.heap[b]? := fun b h1 h2 => hg.block b h2 (fun e => h1.2 (by rw [hv] at e; injection e))
  have new : ∀ b, b < w.heap.size → b ≠ g → b ≠ g' := fun b h1 h2 => by
    rcases hg' with h | h
    · rw [hv] at h
      injection h with h
      omega
    · omega
  refine ⟨g', cap', C ++ [a0, a1, a2, a3, a4, a5], by rw [hlen], by rw [hlen]; exact ho, fun i hi => ?_⟩
  have e1 : ∀ j, j < C.length → (C ++ [a0, a1, a2, a3, a4, a5]).getD j undef = C.getD j undef := fun j hj => getD_old hj
  by_cases hil : i < l.length
  · have h1 := (((hl i hil).wide (P' := fun b => (lo ≤ b ∧ b ≠ g) ∧ b ≠ g') (fun b h1 h2 => ⟨h2, new b h1 h2.2⟩)).stay (w' := w') (fun b h1 h2 => kept b h1.1 h2) hg.size).wide (P' := fun b => lo ≤ b ∧ b ≠ g') (fun b _ h => ⟨h.1.1, h.2⟩)
    have eS : sixV (C ++ [a0, a1, a2, a3, a4, a5]) i = sixV C i := by
      unfold sixV
      rw [e1 _ (by omega), e1 _ (by omega), e1 _ (by omega), e1 _ (by omega), e1 _ (by omega), e1 _ (by omega)]
    have eL : (l ++ [e])[i]'hi = l[i]'hil := List.getElem_append_left hil
    rw [eS, eL]
    exact h1
  · have hie : i = l.length := by rw [hlen] at hi; omega
    subst hie
    have h1 := ((he.wide (P' := fun b => (lo ≤ b ∧ b ≠ g) ∧ b ≠ g') (fun b h1 h2 => by
      have h3 : b ≠ g := by omega
      exact ⟨⟨Nat.le_trans hlo h2, h3⟩, new b h1 h3⟩)).stay (w' := w') (fun b h1 h2 => kept b h1.1 h2) hg.size).wide (P' := fun b => lo ≤ b ∧ b ≠ g') (fun b _ h => ⟨h.1.1, h.2⟩)
    have e2 : ∀ j, (C ++ [a0, a1, a2, a3, a4, a5]).getD (l.length * 6 + j) undef = [a0, a1, a2, a3, a4, a5].getD j undef := fun j => by rw [← hC]; exact getD_new
    have eS : sixV (C ++ [a0, a1, a2, a3, a4, a5]) l.length = .agg #[a0, a1, a2, a3, a4, a5] := by
      have e20 := e2 0
      rw [Nat.add_zero] at e20
      unfold sixV
      rw [e20, e2 1, e2 2, e2 3, e2 4, e2 5]
      rfl
    have eL : (l ++ [e])[l.length]'hi = e := by simp
    rw [eS, eL]
    exact h1

end Go.Proofs.YtbmmghkieolpkaaGreatDoor.Sg

namespace Go.Proofs.YtbmmghkieolpkaaGreatDoor.Sg
open Go.ChangeShapes Go.WideShapes Go.ChangeAt Go.RowKit

/-- Of what was there nothing has turned but blocks that are S. -/
structure Kb (w w' : World) (S : Nat → Prop) : Prop where
  os : w'.os = w.os
  tape : w'.tape = w.tape
  output : w'.output = w.output
  size : w.heap.size ≤ w'.heap.size
  block : ∀ k, k < w.heap.size → ¬ S k → w'.heap[k]? = w.heap[k]?
theorem Kb.refl (w : World) (S : Nat → Prop) : Kb w w S := ⟨rfl, rfl, rfl, Nat.le_refl _, fun _ _ _ => rfl⟩
theorem Kb.trans {a b c : World} {S : Nat → Prop} (h : Kb a b S) (k : Kb b c S) : Kb a c S :=
  ⟨k.os.trans h.os, k.tape.trans h.tape, k.output.trans h.output, Nat.le_trans h.size k.size, fun i hi hS => (k.block i (Nat.lt_of_lt_of_le hi h.size) hS).trans (h.block i hi hS)⟩
theorem Kb.more {a b : World} {S T : Nat → Prop} (h : Kb a b S) (hST : ∀ k, S k → T k) : Kb a b T :=
  ⟨h.os, h.tape, h.output, h.size, fun i hi hT => h.block i hi fun hS => hT (hST i hS)⟩
theorem Kb.of_below {a b : World} (h : Below a.heap.size a b) (S : Nat → Prop) : Kb a b S := ⟨h.os, h.tape, h.output, h.size, fun i hi _ => h.block i hi⟩
theorem Kb.of_grown {a b : World} {r : Option Nat} (h : a.grownBy b r) {S : Nat → Prop} (hS : ∀ k, r = some k → S k) : Kb a b S :=
  ⟨h.os, h.tape, h.output, h.size, fun i hi hn => h.block i hi fun e => hn (hS i e.symm)⟩
theorem Kb.below {a b : World} {S : Nat → Prop} (h : Kb a b S) {B : Nat} (hB : B ≤ a.heap.size) (hS : ∀ k, S k → B ≤ k) : Below B a b :=
  ⟨h.os, h.tape, h.output, h.size, fun i hi => h.block i (Nat.lt_of_lt_of_le hi hB) fun hs => absurd (hS i hs) (Nat.not_le_of_lt hi)⟩
/-- A row that is none of these blocks is kept. -/
theorem Kb.owns {a b : World} {S : Nat → Prop} (h : Kb a b S) {base : Nat} {e : TypeId} {size : Nat} {v : Value} {n : Nat} {xs : List Value} (ho : a.ownsRow base e size v n xs) (hne : ∀ k, v.ownBlock = some k → ¬ S k) : b.ownsRow base e size v n xs := by
  obtain ⟨h1, h2⟩ := ho
  refine ⟨h1, ?_⟩
  rcases h2 with h2 | ⟨g, cap, cur, rfl, h3, h4, h5⟩
  · exact .inl h2
  · exact .inr ⟨g, cap, cur, rfl, h3, (h.block g (Array.getElem?_eq_some_iff.1 h4).1 (hne g rfl)).trans h4, h5⟩

end Go.Proofs.YtbmmghkieolpkaaGreatDoor.Sg

namespace Go.Proofs.YtbmmghkieolpkaaGreatDoor.Sg
open Go.ChangeShapes Go.WideShapes Go.ChangeAt Go.RowKit

/-- The digits of a number ahead of a text. -/
def digS (k : Nat) (out : ByteArray) : ByteArray := if 0 < k then digS (k / 10) (strOfNums [48 + ((k % 10 : Nat) : Int)] ++ out) else out
  termination_by k
  decreasing_by omega
/-- The text that marks a number. -/
def markB (k : Nat) : ByteArray := if 0 < k then ⟨#[109]⟩ ++ digS k ⟨#[]⟩ else ⟨#[109, 48]⟩

theorem digS_yes {k : Nat} {out : ByteArray} (h : 0 < k) : digS k out = digS (k / 10) (strOfNums [48 + ((k % 10 : Nat) : Int)] ++ out) := by
  rw [digS, if_pos h]
theorem digS_no {k : Nat} {out : ByteArray} (h : ¬ 0 < k) : digS k out = out := by
  rw [digS, if_neg h]

theorem ret_text {a b : ByteArray} (h : a = b) : Ending.returned (.string a) = .returned (.string b) := by rw [h]

set_option maxHeartbeats 2000000 in
theorem markText_any (k0 : Nat) (w : World) (hk0 : k0 ≤ 1152921504606846976) :
    Calls Tryz.prog 36 #[.int .i64 (k0 : Int)] w fun e w' => e = .returned (.string (markB k0)) ∧ Below w.heap.size w w' := by
  by_cases h0 : 0 < k0
  · have Hm : Hid (markB k0 = ⟨#[109]⟩ ++ digS k0 ⟨#[]⟩) := if_pos h0
    have g0 : ¬ (k0 : Int) ≤ 0 := by omega
    go_enter Tryz.func36, Tryz.ntmps36
    go_wp2
    go_loopw [0, 3] (fun kv ov wr => ∃ (k : Nat) (out : ByteArray), k ≤ k0 ∧ out.size + k ≤ k0 ∧ kv = .int .i64 (k : Int) ∧ ov = .string out ∧ Hid (digS k0 ⟨#[]⟩ = digS k out) ∧ Below w.heap.size w wr) (fun kv _ _ => (intOf kv).toNat)
    case atStart => exact ⟨k0, ⟨#[]⟩, Nat.le_refl _, Nat.le_of_eq (by show 0 + k0 = k0; omega), rfl, rfl, rfl, Below.refl _ _⟩
    case round =>
      obtain ⟨k, out, hk, hks, rfl, rfl, Hsp, hbel⟩ := hrel
      by_cases hlt : 0 < k
      · have Hn : Hid (digS k0 ⟨#[]⟩ = digS (k / 10) (strOfNums [48 + ((k % 10 : Nat) : Int)] ++ out)) := Hsp.out.trans (digS_yes hlt)
        have g1 : (0 : Int) < (k : Int) := by omega
        obtain ⟨d, hd⟩ : ∃ d : Nat, k % 10 = d := ⟨_, rfl⟩
        obtain ⟨q, hq⟩ : ∃ q : Nat, k / 10 = q := ⟨_, rfl⟩
        have e1 : (k : Int) % 10 = (d : Int) := by omega
        have e2 : (k : Int) / 10 = (q : Int) := by omega
        have hd10 : d < 10 := by omega
        have hqk : q + 1 ≤ k := by omega
        rw [hd, hq] at Hn
        have c1 := conv1 (48 + (d : Int)) wr
        have hs1 : (strOfNums [48 + (d : Int)]).size = 1 := rfl
        generalize strOfNums [48 + (d : Int)] = t at *
        have hst : (t ++ out).size = t.size + out.size := by simp [ByteArray.size_append]
        clear Hsp hd hq
        go_wp2
        go_roundw
        case rel => exact ⟨q, t ++ out, by omega, by rw [hst, hs1]; omega, rfl, rfl, Hn, hbel.alloc hbel.size _⟩
        case measure => simp [intOf]; omega
      · have Hn : Hid (digS k0 ⟨#[]⟩ = out) := Hsp.out.trans (digS_no hlt)
        have g1 : ¬ (0 : Int) < (k : Int) := by omega
        have g2 : decide ((0 : Int) < (k : Int)) = false := decide_eq_false g1
        clear Hsp
        go_wp2
        go_ret
        exact ⟨ret_text (by rw [Hm.out, Hn.out]), hbel⟩
  · have Hm : Hid (markB k0 = ⟨#[109, 48]⟩) := if_neg h0
    have g0 : (k0 : Int) ≤ 0 := by omega
    go_enter Tryz.func36, Tryz.ntmps36
    go_wp2
    go_ret
    exact ⟨ret_text (by rw [Hm.out]), Below.refl _ _⟩

end Go.Proofs.YtbmmghkieolpkaaGreatDoor.Sg

namespace Go.Proofs.YtbmmghkieolpkaaGreatDoor.Sg
open Go.ChangeShapes Go.WideShapes Go.ChangeAt Go.RowKit

set_option maxHeartbeats 2000000 in
theorem eqAttr_same (x y : ByteArray) (w : World) :
    Calls Tryz.prog 50 #[.agg #[.string x, .string y], .agg #[.string x, .string y]] w fun e w' => e = .returned (.bool true) ∧ Below w.heap.size w w' := by
  have g1 : (x.toList == x.toList) = true := by simp
  have g2 : (y.toList == y.toList) = true := by simp
  go_enter Tryz.func50, Tryz.ntmps50
  go_wp2
  go_ret
  exact ⟨rfl, ((Below.refl _ _).alloc (Nat.le_refl _) _).alloc (by simp) _⟩

end Go.Proofs.YtbmmghkieolpkaaGreatDoor.Sg

namespace Go.Proofs.YtbmmghkieolpkaaGreatDoor.Sg
open Go.ChangeShapes Go.WideShapes Go.ChangeAt Go.RowKit

set_option maxHeartbeats 4000000 in
theorem eqAttrS_same (l : List AttrB) (a b : Option Addr) (n ca cb : Nat) (w : World) (ha : AttrsAt w a l) (hb : AttrsAt w b l) (hl : l.length = n) (hn : n ≤ 17592186044416) :
    Calls Tryz.prog 24 #[.slice a n ca, .slice b n cb] w fun e w' => e = .returned (.bool true) ∧ Below w.heap.size w w' := by
  have Hl : Hid (l.length = n) := hl
  have Ha : Hid (AttrsAt w a l) := ha
  have Hb : Hid (AttrsAt w b l) := hb
  have g0 : ((n : Int) != (n : Int)) = false := by simp
  clear hl ha hb
  go_enter Tryz.func24, Tryz.ntmps24
  go_wp2
  go_loopw [5] (fun v wr => ∃ k : Nat, k ≤ n ∧ v = .int .i64 (k : Int) ∧ Below w.heap.size w wr) (fun v _ => n - (intOf v).toNat)
  case atStart => exact ⟨0, Nat.zero_le _, rfl, Below.refl _ _⟩
  case round =>
    obtain ⟨k, hk, rfl, hbel⟩ := hrel
    by_cases hlt : k < n
    · have hkl : k < l.length := by rw [Hl.out]; exact hlt
      rcases Ha.out with h | ⟨ba, rfl, hba, hca⟩
      · rw [h] at hkl
        exact absurd hkl (Nat.not_lt_zero _)
      rcases Hb.out with h | ⟨bb, rfl, hbb, hcb⟩
      · rw [h] at hkl
        exact absurd hkl (Nat.not_lt_zero _)
      obtain ⟨c1, c2⟩ := hca k hkl
      obtain ⟨d1, d2⟩ := hcb k hkl
      clear hca hcb hkl
      generalize l.getD k (ByteArray.empty, ByteArray.empty) = p at *
      obtain ⟨x, y⟩ := p
      have c1' : wr.cell? ⟨ba, k * 2, none⟩ = some (.string x) := (hbel.cell (by exact hba)).trans c1
      have c2' : wr.cell? ⟨ba, k * 2 + 1, none⟩ = some (.string y) := (hbel.cell (by exact hba)).trans c2
      have d1' : wr.cell? ⟨bb, k * 2, none⟩ = some (.string x) := (hbel.cell (by exact hbb)).trans d1
      have d2' : wr.cell? ⟨bb, k * 2 + 1, none⟩ = some (.string y) := (hbel.cell (by exact hbb)).trans d2
      have k0 : (0 : Int) ≤ (k : Int) := by omega
      have k1 : (k : Int) < (n : Int) := by omega
      have HB : Hid (∀ wx : World, Below wr.heap.size wr wx → Below w.heap.size w wx) := fun wx h => hbel.trans (h.mono hbel.size)
      clear c1 c2 d1 d2 Ha Hb
      go_upto_region 6 with fail
      go_cut [26] from 11 to 26 (fun r wx => r = .bool false ∧ Below wr.heap.size wr wx)
      case first =>
        go_region_held3 (fun w' => w'.cell? ⟨ba, k * 2, none⟩ = some (.string x) ∧ w'.cell? ⟨ba, k * 2 + 1, none⟩ = some (.string y) ∧ w'.cell? ⟨bb, k * 2, none⟩ = some (.string x) ∧ w'.cell? ⟨bb, k * 2 + 1, none⟩ = some (.string y)) (first | go_keep | (go_split_ands; exact ⟨keep_cell hb' (by assumption), keep_cell hb' (by assumption), keep_cell hb' (by assumption), keep_cell hb' (by assumption)⟩)) (first | (go_at_call 50; refine (eqAttr_same x y _).mono ?_; rintro e w' ⟨rfl, hb'⟩))
        go_wp2_with fail
        go_meet
        case rel => exact ⟨rfl, ((Below.refl _ _).drew).trans hb'⟩
      case rest =>
        obtain ⟨rfl, hbx⟩ := hcut
        have hbel2 := HB.out _ hbx
        go_wp2_with fail
        go_roundw
        case rel => exact ⟨k + 1, by omega, by go_num, hbel2⟩
        case measure => simp [intOf]; omega
    · have g1 : decide ((k : Int) < (n : Int)) = false := decide_eq_false (by omega)
      go_wp2
      go_ret
      exact ⟨rfl, hbel⟩

end Go.Proofs.YtbmmghkieolpkaaGreatDoor.Sg

namespace Go.Proofs.YtbmmghkieolpkaaGreatDoor.Sg
open Go.ChangeShapes Go.WideShapes Go.ChangeAt Go.RowKit

/-- n attributes marked from k on. -/
def markL (k n : Nat) : List AttrB := (List.range n).map fun i => (markB (k + 2 * i), markB (k + 2 * i + 1))
theorem markL_length (k n : Nat) : (markL k n).length = n := by simp [markL]
theorem markL_cells (k n j : Nat) (h : j < n * 2) : (attrCells (markL k n))[j]? = some (.string (markB (k + j))) := by
  have hl : j / 2 < (markL k n).length := by rw [markL_length]; omega
  obtain ⟨h1, h2⟩ := attrCells_at (markL k n) (j / 2) hl
  have e : (markL k n).getD (j / 2) (ByteArray.empty, ByteArray.empty) = (markB (k + 2 * (j / 2)), markB (k + 2 * (j / 2) + 1)) := by
    rw [markL_length] at hl
    simp [markL, hl]
  rw [e] at h1 h2
  rcases Nat.mod_two_eq_zero_or_one j with hm | hm
  · have ej : j / 2 * 2 = j := by omega
    rw [ej] at h1
    rw [h1]
    show some (Value.string (markB (k + 2 * (j / 2)))) = _
    rw [show k + 2 * (j / 2) = k + j by omega]
  · have ej : j / 2 * 2 + 1 = j := by omega
    rw [ej] at h2
    rw [h2]
    show some (Value.string (markB (k + 2 * (j / 2) + 1))) = _
    rw [show k + 2 * (j / 2) + 1 = k + j by omega]

theorem own_of_rowIs {w : World} {B g cap n k : Nat} {e : TypeId} {f : Nat → Value} (hB : B ≤ g) (hn : n ≤ cap) (hm : cap ≤ maxLen) (h : w.rowIs g e (cap * 2) f) (hf : ∀ j, j < n * 2 → f j = .string (markB (k + j))) :
    w.ownsRow B e 2 (.slice (some ⟨g, 0, none⟩) n cap) n (attrCells (markL k n)) := by
  obtain ⟨c, hb, hc, hv⟩ := h
  refine ⟨by rw [attrCells_length, markL_length], .inr ⟨g, cap, c, rfl, hB, hb, hn, hm, hc, ?_⟩⟩
  apply List.ext_getElem?
  intro j
  by_cases hj : j < n * 2
  · rw [List.getElem?_take_of_lt hj, Array.getElem?_toList, hv j (by omega), hf j hj, markL_cells k n j hj]
  · rw [List.getElem?_eq_none (by simp; omega), List.getElem?_eq_none (by rw [attrCells_length, markL_length]; omega)]

end Go.Proofs.YtbmmghkieolpkaaGreatDoor.Sg

namespace Go.Proofs.YtbmmghkieolpkaaGreatDoor.Sg
open Go.ChangeShapes Go.WideShapes Go.ChangeAt Go.RowKit

abbrev Foot := Nat → Prop
/-- An element as a value, whose attributes are owned, and whose kids are S; all of it in blocks that are F. -/
def ElOwn (S : List ElB → Value → Foot → Prop) (w : World) (B : Nat) : ElB → Value → Foot → Prop
  | .mk kd sp nm ats tx ks, v, F => ∃ av kv Fk, v = .agg #[.int .i64 kd, .int .i64 sp, .string nm, av, .string tx, kv] ∧ w.ownsRow B 73 2 av ats.length (attrCells ats) ∧ (∀ b, av.ownBlock = some b → F b ∧ ¬ Fk b) ∧ S ks kv Fk ∧ ∀ b, Fk b → F b
/-- A row of elements, so deep at most, that is owned: in blocks that are F. -/
def OwnS (w : World) (B : Nat) : Nat → List ElB → Value → Foot → Prop
  | 0, l, v, F => l = [] ∧ w.ownsRow B 25 6 v 0 [] ∧ ∀ b, v.ownBlock = some b → F b
  | n + 1, l, v, F => ∃ (C : List Value) (Fs : Nat → Foot), w.ownsRow B 25 6 v l.length C ∧ (∀ b, v.ownBlock = some b → F b) ∧ (∀ i, i < l.length → ∀ b, Fs i b → F b ∧ v.ownBlock ≠ some b) ∧ (∀ i j, i < l.length → j < l.length → i ≠ j → ∀ b, Fs i b → ¬ Fs j b) ∧ ∀ i (hi : i < l.length), ElOwn (OwnS w B n) w B (l[i]'hi) (sixV C i) (Fs i)

theorem owns_stay {w w' : World} {base : Nat} {e : TypeId} {size : Nat} {v : Value} {n : Nat} {xs : List Value} (ho : w.ownsRow base e size v n xs) (hb : ∀ b, v.ownBlock = some b → b < w.heap.size → w'.heap[b]? = w.heap[b]?) : w'.ownsRow base e size v n xs := by
  obtain ⟨h1, h2⟩ := ho
  refine ⟨h1, ?_⟩
  rcases h2 with h2 | ⟨g, cap, cur, rfl, h3, h4, h5⟩
  · exact .inl h2
  · exact .inr ⟨g, cap, cur, rfl, h3, (hb g rfl (Array.getElem?_eq_some_iff.1 h4).1).trans h4, h5⟩
theorem ElOwn.stay {S S' : List ElB → Value → Foot → Prop} {w w' : World} {B : Nat} {e : ElB} {v : Value} {F : Foot} (h : ElOwn S w B e v F) (hS : ∀ l v F', (∀ b, F' b → F b) → S l v F' → S' l v F') (hb : ∀ b, F b → b < w.heap.size → w'.heap[b]? = w.heap[b]?) : ElOwn S' w' B e v F := by
  obtain ⟨kd, sp, nm, ats, tx, ks⟩ := e
  obtain ⟨av, kv, Fk, rfl, ha, hab, hk, hkf⟩ := h
  exact ⟨av, kv, Fk, rfl, owns_stay ha (fun b h1 h2 => hb b (hab b h1).1 h2), hab, hS _ _ _ hkf hk, hkf⟩
theorem OwnS.stay {B : Nat} : ∀ (n : Nat) {w w' : World} {l : List ElB} {v : Value} {F : Foot}, OwnS w B n l v F → (∀ b, F b → b < w.heap.size → w'.heap[b]? = w.heap[b]?) → OwnS w' B n l v F
  | 0, _, _, _, _, _, ⟨h1, h2, h3⟩, hb => ⟨h1, owns_stay h2 (fun b h4 h5 => hb b (h3 b h4) h5), h3⟩
  | n + 1, _, _, _, _, _, ⟨C, Fs, h1, h2, h3, h4, h5⟩, hb =>
    ⟨C, Fs, owns_stay h1 (fun b h6 h7 => hb b (h2 b h6) h7), h2, h3, h4, fun i hi => (h5 i hi).stay (fun _ _ _ hF hs => OwnS.stay n hs (fun b hb1 hb2 => hb b ((h3 i hi b (hF b hb1)).1) hb2)) (fun b h6 h7 => hb b (h3 i hi b h6).1 h7)⟩
theorem OwnS.up {B : Nat} : ∀ (n : Nat) {w : World} {l : List ElB} {v : Value} {F : Foot}, OwnS w B n l v F → OwnS w B (n + 1) l v F
  | 0, _, _, _, _, ⟨h1, h2, h3⟩ => by
    subst h1
    exact ⟨[], fun _ _ => False, h2, h3, fun i hi => absurd hi (Nat.not_lt_zero _), fun i j hi => absurd hi (Nat.not_lt_zero _), fun i hi => absurd hi (Nat.not_lt_zero _)⟩
  | n + 1, _, _, _, _, ⟨C, Fs, h1, h2, h3, h4, h5⟩ => ⟨C, Fs, h1, h2, h3, h4, fun i hi => (h5 i hi).stay (fun _ _ _ _ hs => OwnS.up n hs) (fun _ _ _ => rfl)⟩
theorem OwnS.ups {B : Nat} {n m : Nat} {w : World} {l : List ElB} {v : Value} {F : Foot} (h : OwnS w B n l v F) (hm : n ≤ m) : OwnS w B m l v F := by
  obtain ⟨d, rfl⟩ := Nat.exists_eq_add_of_le hm
  clear hm
  induction d with
  | zero => exact h
  | succ k ih => exact OwnS.up _ ih
theorem OwnS.nil (w : World) (B n : Nat) (F : Foot) : OwnS w B n [] (.slice none 0 0) F := OwnS.ups (n := 0) ⟨rfl, ⟨rfl, .inl ⟨rfl, rfl⟩⟩, fun _ h => by cases h⟩ (Nat.zero_le _)
theorem OwnS.wide {B : Nat} {n : Nat} {w : World} {l : List ElB} {v : Value} {F F' : Foot} (h : OwnS w B n l v F) (hF : ∀ b, F b → F' b) : OwnS w B n l v F' := by
  cases n with
  | zero => exact ⟨h.1, h.2.1, fun b hb => hF b (h.2.2 b hb)⟩
  | succ n =>
    obtain ⟨C, Fs, h1, h2, h3, h4, h5⟩ := h
    exact ⟨C, Fs, h1, fun b hb => hF b (h2 b hb), fun i hi b hb => ⟨hF b (h3 i hi b hb).1, (h3 i hi b hb).2⟩, h4, h5⟩
/-- Owned elements lie in memory. -/
theorem els_type : (25 : Nat) ≠ 73 := by decide
theorem OwnS.form {B : Nat} {n : Nat} {w : World} {l : List ElB} {v : Value} {F : Foot} (h : OwnS w B n l v F) : ∃ C, w.ownsRow B 25 6 v l.length C ∧ ∀ b, v.ownBlock = some b → F b := by
  cases n with
  | zero => obtain ⟨h1, h2, h3⟩ := h; subst h1; exact ⟨[], h2, h3⟩
  | succ n => obtain ⟨C, Fs, h1, h2, _⟩ := h; exact ⟨C, h1, h2⟩
theorem OwnS.kids {B : Nat} : ∀ (n : Nat) {w : World} {l : List ElB} {v : Value} {F : Foot}, OwnS w B n l v F → ∃ a c, v = .slice a l.length c ∧ KidsIn (QP (B ≤ ·)) (B ≤ ·) w a l
  | 0, w, l, v, F, ⟨h1, h2, h3⟩ => by
    subst h1
    rcases h2.2 with ⟨rfl, _⟩ | ⟨g, cap, cur, rfl, _⟩
    · exact ⟨none, 0, rfl, .inl rfl⟩
    · exact ⟨_, cap, rfl, .inl rfl⟩
  | n + 1, w, l, v, F, ⟨C, Fs, ho, h2, h3, h4, h5⟩ => by
    have hC : C.length = l.length * 6 := ho.1
    rcases ho.2 with ⟨rfl, h0⟩ | ⟨g, cap, cur, rfl, hg, _⟩
    · have : l = [] := List.eq_nil_of_length_eq_zero h0
      subst this
      exact ⟨none, 0, rfl, .inl rfl⟩
    · refine ⟨some ⟨g, 0, none⟩, cap, rfl, .inr ⟨g, 0, rfl, hg, ElsIn.of fun i hi => ?_⟩⟩
      have cell : ∀ j, j < 6 → w.cell? ⟨g, i * 6 + j, none⟩ = some (C.getD (i * 6 + j) undef) := fun j hj => by
        have hlt : i * 6 + j < l.length * 6 := by omega
        rw [(own_cell ho hlt).1]
        simp [List.getD, show i * 6 + j < C.length by omega]
      have hv : ElV (QP (B ≤ ·)) (B ≤ ·) w (sixV C i) (l[i]'hi) := by
        have h6 := h5 i hi
        generalize l[i]'hi = e0 at h6 ⊢
        obtain ⟨kd, sp, nm, ats, tx, ks⟩ := e0
        obtain ⟨av, kv, Fk, e, ha, hab, hk, hkf⟩ := h6
        obtain ⟨a, c, ek, hkk⟩ := OwnS.kids n hk
        subst ek
        exact ⟨av, a, c, e, QP.of_own ha, hkk⟩
      rw [Nat.zero_add]
      exact ElV.cells hv (cell 0 (by omega)) (cell 1 (by omega)) (cell 2 (by omega)) (cell 3 (by omega)) (cell 4 (by omega)) (cell 5 (by omega))

mutual
def mkE : ElB → Nat → ElB
  | .mk _ _ _ ats _ ks, k => .mk (k : Int) ((k : Int) + 1) (markB (k + 2)) (markL (k + 3) ats.length) (markB (k + 3 + 2 * ats.length)) (mkEs ks (k + 4 + 2 * ats.length))
def mkEs : List ElB → Nat → List ElB
  | [], _ => []
  | e :: es, k => mkE e k :: mkEs es (k + cntE e)
def cntE : ElB → Nat
  | .mk _ _ _ ats _ ks => 4 + 2 * ats.length + cntEs ks
def cntEs : List ElB → Nat
  | [] => 0
  | e :: es => cntE e + cntEs es
end
theorem mkEs_length : ∀ (es : List ElB) (k : Nat), (mkEs es k).length = es.length
  | [], _ => by rw [mkEs]
  | e :: es, k => by rw [mkEs, List.length_cons, List.length_cons, mkEs_length es]
theorem cntEs_take : ∀ (es : List ElB) (i : Nat) (hi : i < es.length), cntEs (es.take (i + 1)) = cntEs (es.take i) + cntE (es[i]'hi) ∧ cntEs (es.take i) + cntE (es[i]'hi) ≤ cntEs es
  | e :: es, 0, _ => by simp [cntEs]
  | e :: es, i + 1, hi => by
    have h := cntEs_take es i (by simpa using hi)
    simp only [List.take_succ_cons, cntEs, List.getElem_cons_succ]
    omega
theorem mkEs_get : ∀ (es : List ElB) (k i : Nat) (hi : i < es.length) (hi' : i < (mkEs es k).length), (mkEs es k)[i]'hi' = mkE (es[i]'hi) (k + cntEs (es.take i))
  | e :: es, k, 0, _, _ => by simp [mkEs, cntEs]
  | e :: es, k, i + 1, hi, hi' => by
    have h := mkEs_get es (k + cntE e) i (by simpa using hi) (by rw [mkEs_length]; simpa using hi)
    simp only [mkEs, List.getElem_cons_succ, List.take_succ_cons, cntEs]
    rw [h]
    congr 1
    omega
theorem cntE_ats (kd sp : Int) (nm : ByteArray) (ats : List AttrB) (tx : ByteArray) (ks : List ElB) : cntE (.mk kd sp nm ats tx ks) = 4 + 2 * ats.length + cntEs ks := by rw [cntE]

end Go.Proofs.YtbmmghkieolpkaaGreatDoor.Sg

namespace Go.Proofs.YtbmmghkieolpkaaGreatDoor.Sg
open Go.ChangeShapes Go.WideShapes Go.ChangeAt Go.RowKit

/-- A text of some bytes. -/
def strB (l : List UInt8) : ByteArray := ⟨l.toArray⟩
theorem strB_size (l : List UInt8) : (strB l).size = l.length := by simp [strB, ByteArray.size]
theorem strB_inj {l m : List UInt8} (h : strB l = strB m) : l = m := by
  have := congrArg (fun s : ByteArray => s.data.toList) h
  simpa [strB] using this
theorem strB_of (s : ByteArray) : strB s.data.toList = s := by simp [strB]

theorem str_eq {y : List UInt8} {s : ByteArray} (h : y = s.data.toList) : ((strB y).toList == s.toList) = true := by
  rw [ByteArray.toList_eq, ByteArray.toList_eq, ← h]
  simp [strB]
theorem str_ne {y : List UInt8} {s : ByteArray} (h : y ≠ s.data.toList) : ((strB y).toList == s.toList) = false := by
  rw [ByteArray.toList_eq, ByteArray.toList_eq]
  simpa [strB] using h

/-- Texts lie one behind the other from a block's beginning. -/
def Texts (w : World) (b : Nat) (ls : List (List UInt8)) : Prop :=
  b < w.heap.size ∧ ∀ k, k < ls.length → w.cell? ⟨b, k, none⟩ = some (.string (strB (ls.getD k [])))

theorem Texts.laid (w : World) (ls : List (List UInt8)) (C : Array Value) (t : TypeId) (hC : C = (ls.map fun l => Value.string (strB l)).toArray) : Texts (w.alloc (.cells C t)) w.heap.size ls := by
  subst hC
  refine ⟨by simp, fun k hk => ?_⟩
  rw [World.cell?_alloc_new, List.getElem?_toArray, List.getElem?_map]
  simp [List.getD, hk]

theorem Texts.below {w w' : World} {b : Nat} {ls : List (List UInt8)} (h : Texts w b ls) {B : Nat} (hB : b < B) (hb : Below B w w') : Texts w' b ls :=
  ⟨Nat.lt_of_lt_of_le h.1 hb.size, fun k hk => (hb.cell hB).trans (h.2 k hk)⟩

end Go.Proofs.YtbmmghkieolpkaaGreatDoor.Sg

namespace Go.Proofs.YtbmmghkieolpkaaGreatDoor.Sg

/-- The bytes that are escaped (in a value), and what stands in their place. -/
def escW : Bool → List UInt8
  | false => [38, 60, 62, 13]
  | true => [38, 60, 62, 13, 34, 9, 10]
def escT : Bool → List (List UInt8)
  | false => [[38, 97, 109, 112, 59], [38, 108, 116, 59], [38, 103, 116, 59], [38, 35, 49, 51, 59]]
  | true => [[38, 97, 109, 112, 59], [38, 108, 116, 59], [38, 103, 116, 59], [38, 35, 49, 51, 59], [38, 113, 117, 111, 116, 59], [38, 35, 57, 59], [38, 35, 49, 48, 59]]
def escL (v : Bool) (l : List UInt8) : List UInt8 := swapL (escW v) (escT v) l
def escS (s : ByteArray) (v : Bool) : ByteArray := strB (escL v s.data.toList)
theorem esc1_length (v : Bool) (b : UInt8) : (swap1 (escW v) (escT v) b).length ≤ 6 := by
  unfold swap1
  split
  · simp
  · rename_i k hk
    have : ∀ v k, (List.getD (escT v) k []).length ≤ 6 := by
      intro v k
      rw [List.getD_eq_getElem?_getD]
      cases h : (escT v)[k]? with
      | none => simp
      | some x =>
        have hm := List.mem_of_getElem? h
        have : ∀ v, ∀ x ∈ escT v, x.length ≤ 6 := by decide
        exact this v x hm
    exact this v k
theorem escL_length (v : Bool) (l : List UInt8) : (escL v l).length ≤ 6 * l.length := by
  unfold escL swapL
  induction l with
  | nil => simp
  | cons b l ih =>
    rw [List.flatMap_cons, List.length_append, List.length_cons]
    have := esc1_length v b
    omega
theorem escS_size (s : ByteArray) (v : Bool) : (escS s v).size ≤ 6 * s.size := by
  unfold escS
  rw [strB_size]
  have := escL_length v s.data.toList
  rw [Array.length_toList] at this
  exact this

/-- The name of a space. -/
def spaceS (n : Int) : ByteArray :=
  if n = 0 then ⟨#[104, 116, 116, 112, 58, 47, 47, 119, 119, 119, 46, 119, 51, 46, 111, 114, 103, 47, 49, 57, 57, 57, 47, 120, 104, 116, 109, 108]⟩
  else if n = 1 then ⟨#[104, 116, 116, 112, 58, 47, 47, 119, 119, 119, 46, 119, 51, 46, 111, 114, 103, 47, 50, 48, 48, 48, 47, 115, 118, 103]⟩
  else if n = 2 then ⟨#[104, 116, 116, 112, 58, 47, 47, 119, 119, 119, 46, 119, 51, 46, 111, 114, 103, 47, 49, 57, 57, 56, 47, 77, 97, 116, 104, 47, 77, 97, 116, 104, 77, 76]⟩
  else ⟨#[]⟩

end Go.Proofs.YtbmmghkieolpkaaGreatDoor.Sg

namespace Go.Proofs.YtbmmghkieolpkaaGreatDoor.Sg

/-- A text's byte, by its bytes. -/
theorem at_list {l : List UInt8} {k : Nat} {b : UInt8} (h : l[k]? = some b) : ∃ hk : k < (strB l).size, (strB l)[k]'hk = b := by
  have hk : k < l.length := (List.getElem?_eq_some_iff.1 h).1
  refine ⟨by rw [strB_size]; exact hk, ?_⟩
  have h2 := (List.getElem?_eq_some_iff.1 h).2
  exact h2
theorem get_mid (pre l : List UInt8) (j : Nat) : (pre ++ l)[pre.length + j]? = l[j]? := by
  rw [List.getElem?_append_right (by omega), show pre.length + j - pre.length = j by omega]
theorem extract_mid (pre m post : List UInt8) : ((strB (pre ++ (m ++ post))).extract pre.length (pre.length + m.length)).data.toList = m := by
  rw [ByteArray.data_extract, Array.toList_extract]
  simp [strB]
/-- A text stands where its bytes come next. -/
theorem stands_pre (pre l t : List UInt8) : standsB (strB (pre ++ l)) pre.length (strB t) = t.isPrefixOf l := by
  unfold standsB
  rw [strB_size, strB_size, List.length_append, ByteArray.toList_eq, ByteArray.toList_eq]
  have e1 : (strB t).data.toList = t := by simp [strB]
  have e2 : ((strB (pre ++ l)).extract pre.length (pre.length + t.length)).data.toList = l.take t.length := by
    rw [ByteArray.data_extract, Array.toList_extract]
    simp [strB]
  rw [e1, e2]
  by_cases h : t <+: l
  · rw [List.isPrefixOf_iff_prefix.2 h]
    have := h.length_le
    have e := List.prefix_iff_eq_take.1 h
    rw [decide_eq_true (by omega), ← e]
    simp
  · have h2 : t.isPrefixOf l = false := by
      cases hc : t.isPrefixOf l with
      | false => rfl
      | true => exact absurd (List.isPrefixOf_iff_prefix.1 hc) h
    rw [h2, Bool.and_eq_false_iff]
    right
    rw [beq_eq_false_iff_ne]
    intro e
    exact h (List.prefix_iff_eq_take.2 e.symm)

/-- Digits up to a semicolon. -/
theorem xdig_list (ds : List UInt8) : ∀ (pre rest : List UInt8) (f n : Nat), ds.length ≤ f → (∀ d ∈ ds, 48 ≤ d.toNat ∧ d.toNat ≤ 57) →
    xdigR (strB (pre ++ (ds ++ 59 :: rest))) f pre.length n = (ds.foldl (fun n d => 10 * n + (d.toNat - 48)) n, pre.length + ds.length) := by
  induction ds with
  | nil =>
    intro pre rest f n hf hd
    obtain ⟨hk, e⟩ := at_list (l := pre ++ ([] ++ 59 :: rest)) (k := pre.length) (b := 59) (by
      simp)
    exact xdigR_stop hk (by rw [e]; decide)
  | cons d ds ih =>
    intro pre rest f n hf hd
    obtain ⟨g, rfl⟩ : ∃ g, f = g + 1 := ⟨f - 1, by simp at hf; omega⟩
    obtain ⟨hk, e⟩ := at_list (l := pre ++ (d :: ds ++ 59 :: rest)) (k := pre.length) (b := d) (by
      simp)
    rw [xdigR_go hk (by rw [e]; exact hd d List.mem_cons_self), e]
    have h := ih (pre ++ [d]) rest g (10 * n + (d.toNat - 48)) (by simp at hf; omega) fun x hx => hd x (List.mem_cons_of_mem _ hx)
    rw [List.length_append, List.length_singleton, List.append_assoc] at h
    rw [show pre ++ (d :: ds ++ 59 :: rest) = pre ++ ([d] ++ (ds ++ 59 :: rest)) by simp, h]
    simp [List.foldl_cons]
    omega
theorem xnum_list (pre rest ds : List UInt8) (h0 : ds ≠ []) (h7 : ds.length ≤ 7) (hd : ∀ d ∈ ds, 48 ≤ d.toNat ∧ d.toNat ≤ 57) (hn : ds.head? ≠ some 48) (ht : textB ((ds.foldl (fun n d => 10 * n + (d.toNat - 48)) 0 : Nat) : Int) = true) :
    xnumR (strB (pre ++ (38 :: 35 :: (ds ++ 59 :: rest)))) pre.length = some (ds.foldl (fun n d => 10 * n + (d.toNat - 48)) 0, pre.length + 2 + ds.length) := by
  have e0 : pre ++ (38 :: 35 :: (ds ++ 59 :: rest)) = (pre ++ [38, 35]) ++ (ds ++ 59 :: rest) := by simp
  have hx := xdig_list ds (pre ++ [38, 35]) rest 7 0 h7 hd
  rw [List.length_append, show ([38, 35] : List UInt8).length = 2 from rfl] at hx
  rw [e0]
  unfold xnumR
  simp only
  rw [hx]
  have hl : ds.length ≠ 0 := by
    intro h
    exact h0 (List.eq_nil_of_length_eq_zero h)
  rw [if_neg]
  rintro (h | h | h | h | h)
  · simp only at h
    omega
  · have : bN (strB ((pre ++ [38, 35]) ++ (ds ++ 59 :: rest))) (pre.length + 2) = (ds.getD 0 0).toNat := by
      have := bN_mid (pre ++ [38, 35]) ds (59 :: rest) 0 (by omega)
      rw [List.length_append, show ([38, 35] : List UInt8).length = 2 from rfl] at this
      exact this
    rw [this] at h
    cases ds with
    | nil => exact h0 rfl
    | cons d ds =>
      have : d = 48 := UInt8.toNat_inj.1 h
      exact hn (by rw [this]; rfl)
  · apply h
    simp only
    rw [strB_size]
    simp
    omega
  · apply h
    have := bN_mid (pre ++ [38, 35] ++ ds) [59] rest 0 (by simp)
    rw [List.length_append, List.length_append, show ([38, 35] : List UInt8).length = 2 from rfl, List.append_assoc (pre ++ [38, 35])] at this
    exact this
  · rw [ht] at h
    cases h

/-- The byte that is escaped, and what stands in its place. -/
def entOf (b : UInt8) : List UInt8 := if b = 38 then [38, 97, 109, 112, 59] else if b = 60 then [38, 108, 116, 59] else if b = 62 then [38, 103, 116, 59] else if b = 13 then [38, 35, 49, 51, 59] else if b = 34 then [38, 113, 117, 111, 116, 59] else if b = 9 then [38, 35, 57, 59] else [38, 35, 49, 48, 59]
theorem swap_in (v : Bool) (b : UInt8) (h : b ∈ escW v) : swap1 (escW v) (escT v) b = entOf b := by
  have : ∀ v, ∀ b ∈ escW v, swap1 (escW v) (escT v) b = entOf b := by decide
  exact this v b h
theorem swap_out (v : Bool) (b : UInt8) (h : b ∉ escW v) : swap1 (escW v) (escT v) b = [b] := by
  have key : ∀ (l : List UInt8), b ∉ l → findL b l = none := by
    intro l
    induction l with
    | nil => intro _; rfl
    | cons x l ih =>
      intro hn
      show (if x = b then some 0 else Option.map (· + 1) (findL b l)) = none
      rw [if_neg (fun e => hn (by rw [e]; exact List.mem_cons_self)), ih (fun hm => hn (List.mem_cons_of_mem _ hm))]
      rfl
  unfold swap1
  rw [key _ h]
theorem escL_nil (v : Bool) : escL v [] = [] := rfl
theorem escL_append (v : Bool) (a b : List UInt8) : escL v (a ++ b) = escL v a ++ escL v b := by unfold escL swapL; rw [List.flatMap_append]
theorem escL_one (v : Bool) (b : UInt8) : escL v [b] = swap1 (escW v) (escT v) b := by unfold escL swapL; simp
theorem escL_same (v : Bool) : ∀ (l : List UInt8), (∀ b ∈ l, b ∉ escW v) → escL v l = l
  | [], _ => rfl
  | b :: l, h => by
    rw [show b :: l = [b] ++ l from rfl, escL_append, escL_one, swap_out v b (h b List.mem_cons_self), escL_same v l fun x hx => h x (List.mem_cons_of_mem _ hx)]
/-- What was escaped has no byte 60, 62, and in a value no 34. -/
theorem escL_free (v : Bool) (l : List UInt8) : ∀ b ∈ escL v l, b ≠ 60 ∧ b ≠ 62 ∧ (v = true → b ≠ 34) := by
  have one : ∀ (v : Bool) (x b : UInt8), b ∈ swap1 (escW v) (escT v) x → b ≠ 60 ∧ b ≠ 62 ∧ (v = true → b ≠ 34) := by
    intro v x b hb
    by_cases h : x ∈ escW v
    · rw [swap_in v x h] at hb
      have : ∀ v, ∀ x ∈ escW v, ∀ b ∈ entOf x, b ≠ 60 ∧ b ≠ 62 ∧ (v = true → b ≠ 34) := by decide
      exact this v x h b hb
    · rw [swap_out v x h, List.mem_singleton] at hb
      subst hb
      refine ⟨?_, ?_, ?_⟩
      · rintro rfl
        cases v <;> exact h (by decide)
      · rintro rfl
        cases v <;> exact h (by decide)
      · rintro rfl rfl
        exact h (by decide)
  intro b hb
  unfold escL swapL at hb
  rw [List.mem_flatMap] at hb
  obtain ⟨x, _, hx⟩ := hb
  exact one v x b hx
theorem putS_z {z : Int} (h0 : 0 ≤ z) (h1 : z ≤ 127) : putS z = strB [UInt8.ofNat z.toNat] := by
  apply ByteArray.ext
  apply Array.toList_inj.1
  rw [putS_one h0 h1]
  simp [strB]
/-- A byte's reference is read as the byte. -/
theorem ref_ent (v : Bool) (b : UInt8) (hb : b ∈ escW v) (pre rest : List UInt8) : xrefR (strB (pre ++ (entOf b ++ rest))) pre.length = some (strB [b], pre.length + (entOf b).length) := by
  have hc : b = 38 ∨ b = 60 ∨ b = 62 ∨ b = 13 ∨ b = 34 ∨ b = 9 ∨ b = 10 := by
    have : ∀ v, ∀ b ∈ escW v, b = 38 ∨ b = 60 ∨ b = 62 ∨ b = 13 ∨ b = 34 ∨ b = 9 ∨ b = 10 := by decide
    exact this v b hb
  have S : ∀ l, standsB (strB (pre ++ l)) pre.length ampB = List.isPrefixOf [38, 97, 109, 112, 59] l ∧ standsB (strB (pre ++ l)) pre.length ltB = List.isPrefixOf [38, 108, 116, 59] l ∧ standsB (strB (pre ++ l)) pre.length gtB = List.isPrefixOf [38, 103, 116, 59] l ∧ standsB (strB (pre ++ l)) pre.length quotB = List.isPrefixOf [38, 113, 117, 111, 116, 59] l ∧ standsB (strB (pre ++ l)) pre.length aposB = List.isPrefixOf [38, 97, 112, 111, 115, 59] l ∧ standsB (strB (pre ++ l)) pre.length hashB = List.isPrefixOf [38, 35] l :=
    fun l => ⟨stands_pre pre l _, stands_pre pre l _, stands_pre pre l _, stands_pre pre l _, stands_pre pre l _, stands_pre pre l _⟩
  unfold xrefR
  obtain ⟨s1, s2, s3, s4, s5, s6⟩ := S (entOf b ++ rest)
  rw [s1, s2, s3, s4, s5, s6]
  rcases hc with rfl | rfl | rfl | rfl | rfl | rfl | rfl
  · rfl
  · rfl
  · rfl
  · have h := xnum_list pre rest [49, 51] (by simp) (by decide) (by decide) (by decide) (by decide)
    show Option.map _ (xnumR (strB (pre ++ (38 :: 35 :: ([49, 51] ++ 59 :: rest)))) pre.length) = _
    rw [h]
    show some (putS 13, _) = _
    rw [putS_z (by decide) (by decide)]
    rfl
  · rfl
  · have h := xnum_list pre rest [57] (by simp) (by decide) (by decide) (by decide) (by decide)
    show Option.map _ (xnumR (strB (pre ++ (38 :: 35 :: ([57] ++ 59 :: rest)))) pre.length) = _
    rw [h]
    show some (putS 9, _) = _
    rw [putS_z (by decide) (by decide)]
    rfl
  · have h := xnum_list pre rest [49, 48] (by simp) (by decide) (by decide) (by decide) (by decide)
    show Option.map _ (xnumR (strB (pre ++ (38 :: 35 :: ([49, 48] ++ 59 :: rest)))) pre.length) = _
    rw [h]
    show some (putS 10, _) = _
    rw [putS_z (by decide) (by decide)]
    rfl

end Go.Proofs.YtbmmghkieolpkaaGreatDoor.Sg
