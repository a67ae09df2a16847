/- What is kept but for some blocks. Contract of the laws' marks of texts. Contract of the laws' attributes compared: one with itself. Contract of the laws' slices of attributes compared: one with itself. Contracts of the laws' marks of texts, and of attributes compared. Elements that a call owns: each row in a block of its own. Texts in memory, one behind the other. What is escaped, and the names of the spaces, plain. No program in it. What is escaped is read as it was, plain. No program in it. -/
import Derived.Test.YthipdkagkdnaiaaGreatDoorGOwn
import Derived.Test.YthipdkagkdnaiaaGreatDoorMRD06
import Derived.Test.YthipdkagkdnaiaaGreatDoorSgOk
import Derived.Below
import Derived.Test.YthipdkagkdnaiaaGreatDoorMRD01
import Derived.Deep.Cut
import Derived.Deep.CutRange
import Derived.Deep.RegionHeld3
import Derived.Test.YthipdkagkdnaiaaGreatDoorElToS
import Derived.Test.YthipdkagkdnaiaaGreatDoorRdMem
import Derived.Test.YthipdkagkdnaiaaGreatDoorMRD03
import Derived.Test.YthipdkagkdnaiaaGreatDoorXmP
namespace Go.Proofs.YthipdkagkdnaiaaGreatDoor.Sg
open Go.ChangeShapes Go.WideShapes Go.ChangeAt Go.RowKit

/-- Of what was there nothing has turned but blocks that are S. -/
structure Kb (w w' : World) (S : Nat → Prop) : Prop where
  os : w'.os = w.os
  tape : w'.tape = w.tape
  output : w'.output = w.output
  size : w.heap.size ≤ w'.heap.size
  block : ∀ k, k < w.heap.size → ¬ S k → w'.heap[k]? = w.heap[k]?
theorem Kb.refl (w : World) (S : Nat → Prop) : Kb w w S := ⟨rfl, rfl, rfl, Nat.le_refl _, fun _ _ _ => rfl⟩
theorem Kb.trans {a b c : World} {S : Nat → Prop} (h : Kb a b S) (k : Kb b c S) : Kb a c S :=
  ⟨k.os.trans h.os, k.tape.trans h.tape, k.output.trans h.output, Nat.le_trans h.size k.size, fun i hi hS => (k.block i (Nat.lt_of_lt_of_le hi h.size) hS).trans (h.block i hi hS)⟩
theorem Kb.more {a b : World} {S T : Nat → Prop} (h : Kb a b S) (hST : ∀ k, S k → T k) : Kb a b T :=
  ⟨h.os, h.tape, h.output, h.size, fun i hi hT => h.block i hi fun hS => hT (hST i hS)⟩
theorem Kb.of_below {a b : World} (h : Below a.heap.size a b) (S : Nat → Prop) : Kb a b S := ⟨h.os, h.tape, h.output, h.size, fun i hi _ => h.block i hi⟩
theorem Kb.of_grown {a b : World} {r : Option Nat} (h : a.grownBy b r) {S : Nat → Prop} (hS : ∀ k, r = some k → S k) : Kb a b S :=
  ⟨h.os, h.tape, h.output, h.size, fun i hi hn => h.block i hi fun e => hn (hS i e.symm)⟩
theorem Kb.below {a b : World} {S : Nat → Prop} (h : Kb a b S) {B : Nat} (hB : B ≤ a.heap.size) (hS : ∀ k, S k → B ≤ k) : Below B a b :=
  ⟨h.os, h.tape, h.output, h.size, fun i hi => h.block i (Nat.lt_of_lt_of_le hi hB) fun hs => absurd (hS i hs) (Nat.not_le_of_lt hi)⟩
/-- A row that is none of these blocks is kept. -/
theorem Kb.owns {a b : World} {S : Nat → Prop} (h : Kb a b S) {base : Nat} {e : TypeId} {size : Nat} {v : Value} {n : Nat} {xs : List Value} (ho : a.ownsRow base e size v n xs) (hne : ∀ k, v.ownBlock = some k → ¬ S k) : b.ownsRow base e size v n xs := by
  obtain ⟨h1, h2⟩ := ho
  refine ⟨h1, ?_⟩
  rcases h2 with h2 | ⟨g, cap, cur, rfl, h3, h4, h5⟩
  · exact .inl h2
  · exact .inr ⟨g, cap, cur, rfl, h3, (h.block g (Array.getElem?_eq_some_iff.1 h4).1 (hne g rfl)).trans h4, h5⟩

end Go.Proofs.YthipdkagkdnaiaaGreatDoor.Sg

namespace Go.Proofs.YthipdkagkdnaiaaGreatDoor.Sg
open Go.ChangeShapes Go.WideShapes Go.ChangeAt Go.RowKit

/-- The digits of a number ahead of a text. -/
def digS (k : Nat) (out : ByteArray) : ByteArray := if 0 < k then digS (k / 10) (strOfNums [48 + ((k % 10 : Nat) : Int)] ++ out) else out
  termination_by k
  decreasing_by omega
/-- The text that marks a number. -/
def markB (k : Nat) : ByteArray := if 0 < k then ⟨#[109]⟩ ++ digS k ⟨#[]⟩ else ⟨#[109, 48]⟩

theorem digS_yes {k : Nat} {out : ByteArray} (h : 0 < k) : digS k out = digS (k / 10) (strOfNums [48 + ((k % 10 : Nat) : Int)] ++ out) := by
  rw [digS, if_pos h]
theorem digS_no {k : Nat} {out : ByteArray} (h : ¬ 0 < k) : digS k out = out := by
  rw [digS, if_neg h]

theorem ret_text {a b : ByteArray} (h : a = b) : Ending.returned (.string a) = .returned (.string b) := by rw [h]

set_option maxHeartbeats 2000000 in
theorem markText_any (k0 : Nat) (w : World) (hk0 : k0 ≤ 1152921504606846976) :
    Calls Tryz.prog 36 #[.int .i64 (k0 : Int)] w fun e w' => e = .returned (.string (markB k0)) ∧ Below w.heap.size w w' := by
  by_cases h0 : 0 < k0
  · have Hm : Hid (markB k0 = ⟨#[109]⟩ ++ digS k0 ⟨#[]⟩) := if_pos h0
    have g0 : ¬ (k0 : Int) ≤ 0 := by omega
    go_enter Tryz.func36, Tryz.ntmps36
    go_wp2
    go_loopw [0, 3] (fun kv ov wr => ∃ (k : Nat) (out : ByteArray), k ≤ k0 ∧ out.size + k ≤ k0 ∧ kv = .int .i64 (k : Int) ∧ ov = .string out ∧ Hid (digS k0 ⟨#[]⟩ = digS k out) ∧ Below w.heap.size w wr) (fun kv _ _ => (intOf kv).toNat)
    case atStart => exact ⟨k0, ⟨#[]⟩, Nat.le_refl _, Nat.le_of_eq (by show 0 + k0 = k0; omega), rfl, rfl, rfl, Below.refl _ _⟩
    case round =>
      obtain ⟨k, out, hk, hks, rfl, rfl, Hsp, hbel⟩ := hrel
      by_cases hlt : 0 < k
      · have Hn : Hid (digS k0 ⟨#[]⟩ = digS (k / 10) (strOfNums [48 + ((k % 10 : Nat) : Int)] ++ out)) := Hsp.out.trans (digS_yes hlt)
        have g1 : (0 : Int) < (k : Int) := by omega
        obtain ⟨d, hd⟩ : ∃ d : Nat, k % 10 = d := ⟨_, rfl⟩
        obtain ⟨q, hq⟩ : ∃ q : Nat, k / 10 = q := ⟨_, rfl⟩
        have e1 : (k : Int) % 10 = (d : Int) := by omega
        have e2 : (k : Int) / 10 = (q : Int) := by omega
        have hd10 : d < 10 := by omega
        have hqk : q + 1 ≤ k := by omega
        rw [hd, hq] at Hn
        have c1 := conv1 (48 + (d : Int)) wr
        have hs1 : (strOfNums [48 + (d : Int)]).size = 1 := rfl
        generalize strOfNums [48 + (d : Int)] = t at *
        have hst : (t ++ out).size = t.size + out.size := by simp [ByteArray.size_append]
        clear Hsp hd hq
        go_wp2
        go_roundw
        case rel => exact ⟨q, t ++ out, by omega, by rw [hst, hs1]; omega, rfl, rfl, Hn, hbel.alloc hbel.size _⟩
        case measure => simp [intOf]; omega
      · have Hn : Hid (digS k0 ⟨#[]⟩ = out) := Hsp.out.trans (digS_no hlt)
        have g1 : ¬ (0 : Int) < (k : Int) := by omega
        have g2 : decide ((0 : Int) < (k : Int)) = false := decide_eq_false g1
        clear Hsp
        go_wp2
        go_ret
        exact ⟨ret_text (by rw [Hm.out, Hn.out]), hbel⟩
  · have Hm : Hid (markB k0 = ⟨#[109, 48]⟩) := if_neg h0
    have g0 : (k0 : Int) ≤ 0 := by omega
    go_enter Tryz.func36, Tryz.ntmps36
    go_wp2
    go_ret
    exact ⟨ret_text (by rw [Hm.out]), Below.refl _ _⟩

end Go.Proofs.YthipdkagkdnaiaaGreatDoor.Sg

namespace Go.Proofs.YthipdkagkdnaiaaGreatDoor.Sg
open Go.ChangeShapes Go.WideShapes Go.ChangeAt Go.RowKit

set_option maxHeartbeats 2000000 in
theorem eqAttr_same (x y : ByteArray) (w : World) :
    Calls Tryz.prog 50 #[.agg #[.string x, .string y], .agg #[.string x, .string y]] w fun e w' => e = .returned (.bool true) ∧ Below w.heap.size w w' := by
  have g1 : (x.toList == x.toList) = true := by simp
  have g2 : (y.toList == y.toList) = true := by simp
  go_enter Tryz.func50, Tryz.ntmps50
  go_wp2
  go_ret
  exact ⟨rfl, ((Below.refl _ _).alloc (Nat.le_refl _) _).alloc (by simp) _⟩

end Go.Proofs.YthipdkagkdnaiaaGreatDoor.Sg

namespace Go.Proofs.YthipdkagkdnaiaaGreatDoor.Sg
open Go.ChangeShapes Go.WideShapes Go.ChangeAt Go.RowKit

set_option maxHeartbeats 4000000 in
theorem eqAttrS_same (l : List AttrB) (a b : Option Addr) (n ca cb : Nat) (w : World) (ha : AttrsAt w a l) (hb : AttrsAt w b l) (hl : l.length = n) (hn : n ≤ 17592186044416) :
    Calls Tryz.prog 24 #[.slice a n ca, .slice b n cb] w fun e w' => e = .returned (.bool true) ∧ Below w.heap.size w w' := by
  have Hl : Hid (l.length = n) := hl
  have Ha : Hid (AttrsAt w a l) := ha
  have Hb : Hid (AttrsAt w b l) := hb
  have g0 : ((n : Int) != (n : Int)) = false := by simp
  clear hl ha hb
  go_enter Tryz.func24, Tryz.ntmps24
  go_wp2
  go_loopw [5] (fun v wr => ∃ k : Nat, k ≤ n ∧ v = .int .i64 (k : Int) ∧ Below w.heap.size w wr) (fun v _ => n - (intOf v).toNat)
  case atStart => exact ⟨0, Nat.zero_le _, rfl, Below.refl _ _⟩
  case round =>
    obtain ⟨k, hk, rfl, hbel⟩ := hrel
    by_cases hlt : k < n
    · have hkl : k < l.length := by rw [Hl.out]; exact hlt
      rcases Ha.out with h | ⟨ba, rfl, hba, hca⟩
      · rw [h] at hkl
        exact absurd hkl (Nat.not_lt_zero _)
      rcases Hb.out with h | ⟨bb, rfl, hbb, hcb⟩
      · rw [h] at hkl
        exact absurd hkl (Nat.not_lt_zero _)
      obtain ⟨c1, c2⟩ := hca k hkl
      obtain ⟨d1, d2⟩ := hcb k hkl
      clear hca hcb hkl
      generalize l.getD k (ByteArray.empty, ByteArray.empty) = p at *
      obtain ⟨x, y⟩ := p
      have c1' : wr.cell? ⟨ba, k * 2, none⟩ = some (.string x) := (hbel.cell (by exact hba)).trans c1
      have c2' : wr.cell? ⟨ba, k * 2 + 1, none⟩ = some (.string y) := (hbel.cell (by exact hba)).trans c2
      have d1' : wr.cell? ⟨bb, k * 2, none⟩ = some (.string x) := (hbel.cell (by exact hbb)).trans d1
      have d2' : wr.cell? ⟨bb, k * 2 + 1, none⟩ = some (.string y) := (hbel.cell (by exact hbb)).trans d2
      have k0 : (0 : Int) ≤ (k : Int) := by omega
      have k1 : (k : Int) < (n : Int) := by omega
      have HB : Hid (∀ wx : World, Below wr.heap.size wr wx → Below w.heap.size w wx) := fun wx h => hbel.trans (h.mono hbel.size)
      clear c1 c2 d1 d2 Ha Hb
      go_upto_region 6 with fail
      go_cut [26] from 11 to 26 (fun r wx => r = .bool false ∧ Below wr.heap.size wr wx)
      case first =>
        go_region_held3 (fun w' => w'.cell? ⟨ba, k * 2, none⟩ = some (.string x) ∧ w'.cell? ⟨ba, k * 2 + 1, none⟩ = some (.string y) ∧ w'.cell? ⟨bb, k * 2, none⟩ = some (.string x) ∧ w'.cell? ⟨bb, k * 2 + 1, none⟩ = some (.string y)) (first | go_keep | (go_split_ands; exact ⟨keep_cell hb' (by assumption), keep_cell hb' (by assumption), keep_cell hb' (by assumption), keep_cell hb' (by assumption)⟩)) (first | (go_at_call 50; refine (eqAttr_same x y _).mono ?_; rintro e w' ⟨rfl, hb'⟩))
        go_wp2_with fail
        go_meet
        case rel => exact ⟨rfl, ((Below.refl _ _).drew).trans hb'⟩
      case rest =>
        obtain ⟨rfl, hbx⟩ := hcut
        have hbel2 := HB.out _ hbx
        go_wp2_with fail
        go_roundw
        case rel => exact ⟨k + 1, by omega, by go_num, hbel2⟩
        case measure => simp [intOf]; omega
    · have g1 : decide ((k : Int) < (n : Int)) = false := decide_eq_false (by omega)
      go_wp2
      go_ret
      exact ⟨rfl, hbel⟩

end Go.Proofs.YthipdkagkdnaiaaGreatDoor.Sg

namespace Go.Proofs.YthipdkagkdnaiaaGreatDoor.Sg
open Go.ChangeShapes Go.WideShapes Go.ChangeAt Go.RowKit

/-- n attributes marked from k on. -/
def markL (k n : Nat) : List AttrB := (List.range n).map fun i => (markB (k + 2 * i), markB (k + 2 * i + 1))
theorem markL_length (k n : Nat) : (markL k n).length = n := by simp [markL]
theorem markL_cells (k n j : Nat) (h : j < n * 2) : (attrCells (markL k n))[j]? = some (.string (markB (k + j))) := by
  have hl : j / 2 < (markL k n).length := by rw [markL_length]; omega
  obtain ⟨h1, h2⟩ := attrCells_at (markL k n) (j / 2) hl
  have e : (markL k n).getD (j / 2) (ByteArray.empty, ByteArray.empty) = (markB (k + 2 * (j / 2)), markB (k + 2 * (j / 2) + 1)) := by
    rw [markL_length] at hl
    simp [markL, hl]
  rw [e] at h1 h2
  rcases Nat.mod_two_eq_zero_or_one j with hm | hm
  · have ej : j / 2 * 2 = j := by omega
    rw [ej] at h1
    rw [h1]
    show some (Value.string (markB (k + 2 * (j / 2)))) = _
    rw [show k + 2 * (j / 2) = k + j by omega]
  · have ej : j / 2 * 2 + 1 = j := by omega
    rw [ej] at h2
    rw [h2]
    show some (Value.string (markB (k + 2 * (j / 2) + 1))) = _
    rw [show k + 2 * (j / 2) + 1 = k + j by omega]

theorem own_of_rowIs {w : World} {B g cap n k : Nat} {e : TypeId} {f : Nat → Value} (hB : B ≤ g) (hn : n ≤ cap) (hm : cap ≤ maxLen) (h : w.rowIs g e (cap * 2) f) (hf : ∀ j, j < n * 2 → f j = .string (markB (k + j))) :
    w.ownsRow B e 2 (.slice (some ⟨g, 0, none⟩) n cap) n (attrCells (markL k n)) := by
  obtain ⟨c, hb, hc, hv⟩ := h
  refine ⟨by rw [attrCells_length, markL_length], .inr ⟨g, cap, c, rfl, hB, hb, hn, hm, hc, ?_⟩⟩
  apply List.ext_getElem?
  intro j
  by_cases hj : j < n * 2
  · rw [List.getElem?_take_of_lt hj, Array.getElem?_toList, hv j (by omega), hf j hj, markL_cells k n j hj]
  · rw [List.getElem?_eq_none (by simp; omega), List.getElem?_eq_none (by rw [attrCells_length, markL_length]; omega)]

end Go.Proofs.YthipdkagkdnaiaaGreatDoor.Sg

namespace Go.Proofs.YthipdkagkdnaiaaGreatDoor.Sg
open Go.ChangeShapes Go.WideShapes Go.ChangeAt Go.RowKit

abbrev Foot := Nat → Prop
/-- An element as a value, whose attributes are owned, and whose kids are S; all of it in blocks that are F. -/
def ElOwn (S : List ElB → Value → Foot → Prop) (w : World) (B : Nat) : ElB → Value → Foot → Prop
  | .mk kd sp nm ats tx ks, v, F => ∃ av kv Fk, v = .agg #[.int .i64 kd, .int .i64 sp, .string nm, av, .string tx, kv] ∧ w.ownsRow B 73 2 av ats.length (attrCells ats) ∧ (∀ b, av.ownBlock = some b → F b ∧ ¬ Fk b) ∧ S ks kv Fk ∧ ∀ b, Fk b → F b
/-- A row of elements, so deep at most, that is owned: in blocks that are F. -/
def OwnS (w : World) (B : Nat) : Nat → List ElB → Value → Foot → Prop
  | 0, l, v, F => l = [] ∧ w.ownsRow B 25 6 v 0 [] ∧ ∀ b, v.ownBlock = some b → F b
  | n + 1, l, v, F => ∃ (C : List Value) (Fs : Nat → Foot), w.ownsRow B 25 6 v l.length C ∧ (∀ b, v.ownBlock = some b → F b) ∧ (∀ i, i < l.length → ∀ b, Fs i b → F b ∧ v.ownBlock ≠ some b) ∧ (∀ i j, i < l.length → j < l.length → i ≠ j → ∀ b, Fs i b → ¬ Fs j b) ∧ ∀ i (hi : i < l.length), ElOwn (OwnS w B n) w B (l[i]'hi) (sixV C i) (Fs i)

theorem owns_stay {w w' : World} {base : Nat} {e : TypeId} {size : Nat} {v : Value} {n : Nat} {xs : List Value} (ho : w.ownsRow base e size v n xs) (hb : ∀ b, v.ownBlock = some b → b < w.heap.size → w'.heap[b]? = w.heap[b]?) : w'.ownsRow base e size v n xs := by
  obtain ⟨h1, h2⟩ := ho
  refine ⟨h1, ?_⟩
  rcases h2 with h2 | ⟨g, cap, cur, rfl, h3, h4, h5⟩
  · exact .inl h2
  · exact .inr ⟨g, cap, cur, rfl, h3, (hb g rfl (Array.getElem?_eq_some_iff.1 h4).1).trans h4, h5⟩
theorem ElOwn.stay {S S' : List ElB → Value → Foot → Prop} {w w' : World} {B : Nat} {e : ElB} {v : Value} {F : Foot} (h : ElOwn S w B e v F) (hS : ∀ l v F', (∀ b, F' b → F b) → S l v F' → S' l v F') (hb : ∀ b, F b → b < w.heap.size → w'.heap[b]? = w.heap[b]?) : ElOwn S' w' B e v F := by
  obtain ⟨kd, sp, nm, ats, tx, ks⟩ := e
  obtain ⟨av, kv, Fk, rfl, ha, hab, hk, hkf⟩ := h
  exact ⟨av, kv, Fk, rfl, owns_stay ha (fun b h1 h2 => hb b (hab b h1).1 h2), hab, hS _ _ _ hkf hk, hkf⟩
theorem OwnS.stay {B : Nat} : ∀ (n : Nat) {w w' : World} {l : List ElB} {v : Value} {F : Foot}, OwnS w B n l v F → (∀ b, F b → b < w.heap.size → w'.heap[b]? = w.heap[b]?) → OwnS w' B n l v F
  | 0, _, _, _, _, _, ⟨h1, h2, h3⟩, hb => ⟨h1, owns_stay h2 (fun b h4 h5 => hb b (h3 b h4) h5), h3⟩
  | n + 1, _, _, _, _, _, ⟨C, Fs, h1, h2, h3, h4, h5⟩, hb =>
    ⟨C, Fs, owns_stay h1 (fun b h6 h7 => hb b (h2 b h6) h7), h2, h3, h4, fun i hi => (h5 i hi).stay (fun _ _ _ hF hs => OwnS.stay n hs (fun b hb1 hb2 => hb b ((h3 i hi b (hF b hb1)).1) hb2)) (fun b h6 h7 => hb b (h3 i hi b h6).1 h7)⟩
theorem OwnS.up {B : Nat} : ∀ (n : Nat) {w : World} {l : List ElB} {v : Value} {F : Foot}, OwnS w B n l v F → OwnS w B (n + 1) l v F
  | 0, _, _, _, _, ⟨h1, h2, h3⟩ => by
    subst h1
    exact ⟨[], fun _ _ => False, h2, h3, fun i hi => absurd hi (Nat.not_lt_zero _), fun i j hi => absurd hi (Nat.not_lt_zero _), fun i hi => absurd hi (Nat.not_lt_zero _)⟩
  | n + 1, _, _, _, _, ⟨C, Fs, h1, h2, h3, h4, h5⟩ => ⟨C, Fs, h1, h2, h3, h4, fun i hi => (h5 i hi).stay (fun _ _ _ _ hs => OwnS.up n hs) (fun _ _ _ => rfl)⟩
theorem OwnS.ups {B : Nat} {n m : Nat} {w : World} {l : List ElB} {v : Value} {F : Foot} (h : OwnS w B n l v F) (hm : n ≤ m) : OwnS w B m l v F := by
  obtain ⟨d, rfl⟩ := Nat.exists_eq_add_of_le hm
  clear hm
  induction d with
  | zero => exact h
  | succ k ih => exact OwnS.up _ ih
theorem OwnS.nil (w : World) (B n : Nat) (F : Foot) : OwnS w B n [] (.slice none 0 0) F := OwnS.ups (n := 0) ⟨rfl, ⟨rfl, .inl ⟨rfl, rfl⟩⟩, fun _ h => by cases h⟩ (Nat.zero_le _)
theorem OwnS.kids {B : Nat} : ∀ (n : Nat) {w : World} {l : List ElB} {v : Value} {F : Foot}, OwnS w B n l v F → ∃ a c, v = .slice a l.length c ∧ KidsIn (QP (B ≤ ·)) (B ≤ ·) w a l
  | 0, w, l, v, F, ⟨h1, h2, h3⟩ => by
    subst h1
    rcases h2.2 with ⟨rfl, _⟩ | ⟨g, cap, cur, rfl, _⟩
    · exact ⟨none, 0, rfl, .inl rfl⟩
    · exact ⟨_, cap, rfl, .inl rfl⟩
  | n + 1, w, l, v, F, ⟨C, Fs, ho, h2, h3, h4, h5⟩ => by
    have hC : C.length = l.length * 6 := ho.1
    rcases ho.2 with ⟨rfl, h0⟩ | ⟨g, cap, cur, rfl, hg, _⟩
    · have : l = [] := List.eq_nil_of_length_eq_zero h0
      subst this
      exact ⟨none, 0, rfl, .inl rfl⟩
    · refine ⟨some ⟨g, 0, none⟩, cap, rfl, .inr ⟨g, 0, rfl, hg, ElsIn.of fun i hi => ?_⟩⟩
      have cell : ∀ j, j < 6 → w.cell? ⟨g, i * 6 + j, none⟩ = some (C.getD (i * 6 + j) undef) := fun j hj => by
        have hlt : i * 6 + j < l.length * 6 := by omega
        rw [(own_cell ho hlt).1]
        simp [List.getD, show i * 6 + j < C.length by omega]
      have hv : ElV (QP (B ≤ ·)) (B ≤ ·) w (sixV C i) (l[i]'hi) := by
        have h6 := h5 i hi
        generalize l[i]'hi = e0 at h6 ⊢
        obtain ⟨kd, sp, nm, ats, tx, ks⟩ := e0
        obtain ⟨av, kv, Fk, e, ha, hab, hk, hkf⟩ := h6
        obtain ⟨a, c, ek, hkk⟩ := OwnS.kids n hk
        subst ek
        exact ⟨av, a, c, e, QP.of_own ha, hkk⟩
      rw [Nat.zero_add]
      exact ElV.cells hv (cell 0 (by omega)) (cell 1 (by omega)) (cell 2 (by omega)) (cell 3 (by omega)) (cell 4 (by omega)) (cell 5 (by omega))

mutual
def mkE : ElB → Nat → ElB
  | .mk _ _ _ ats _ ks, k => .mk (k : Int) ((k : Int) + 1) (markB (k + 2)) (markL (k + 3) ats.length) (markB (k + 3 + 2 * ats.length)) (mkEs ks (k + 4 + 2 * ats.length))
def mkEs : List ElB → Nat → List ElB
  | [], _ => []
  | e :: es, k => mkE e k :: mkEs es (k + cntE e)
def cntE : ElB → Nat
  | .mk _ _ _ ats _ ks => 4 + 2 * ats.length + cntEs ks
def cntEs : List ElB → Nat
  | [] => 0
  | e :: es => cntE e + cntEs es
end
theorem mkEs_length : ∀ (es : List ElB) (k : Nat), (mkEs es k).length = es.length
  | [], _ => by rw [mkEs]
  | e :: es, k => by rw [mkEs, List.length_cons, List.length_cons, mkEs_length es]
theorem cntEs_take : ∀ (es : List ElB) (i : Nat) (hi : i < es.length), cntEs (es.take (i + 1)) = cntEs (es.take i) + cntE (es[i]'hi) ∧ cntEs (es.take i) + cntE (es[i]'hi) ≤ cntEs es
  | e :: es, 0, _ => by simp [cntEs]
  | e :: es, i + 1, hi => by
    have h := cntEs_take es i (by simpa using hi)
    simp only [List.take_succ_cons, cntEs, List.getElem_cons_succ]
    omega
theorem mkEs_get : ∀ (es : List ElB) (k i : Nat) (hi : i < es.length) (hi' : i < (mkEs es k).length), (mkEs es k)[i]'hi' = mkE (es[i]'hi) (k + cntEs (es.take i))
  | e :: es, k, 0, _, _ => by simp [mkEs, cntEs]
  | e :: es, k, i + 1, hi, hi' => by
    have h := mkEs_get es (k + cntE e) i (by simpa using hi) (by rw [mkEs_length]; simpa using hi)
    simp only [mkEs, List.getElem_cons_succ, List.take_succ_cons, cntEs]
    rw [h]
    congr 1
    omega
theorem cntE_ats (kd sp : Int) (nm : ByteArray) (ats : List AttrB) (tx : ByteArray) (ks : List ElB) : cntE (.mk kd sp nm ats tx ks) = 4 + 2 * ats.length + cntEs ks := by rw [cntE]

end Go.Proofs.YthipdkagkdnaiaaGreatDoor.Sg

namespace Go.Proofs.YthipdkagkdnaiaaGreatDoor.Sg
open Go.ChangeShapes Go.WideShapes Go.ChangeAt Go.RowKit

/-- A text of some bytes. -/
def strB (l : List UInt8) : ByteArray := ⟨l.toArray⟩
theorem strB_size (l : List UInt8) : (strB l).size = l.length := by simp [strB, ByteArray.size]
/-- Texts lie one behind the other from a block's beginning. -/
def Texts (w : World) (b : Nat) (ls : List (List UInt8)) : Prop :=
  b < w.heap.size ∧ ∀ k, k < ls.length → w.cell? ⟨b, k, none⟩ = some (.string (strB (ls.getD k [])))

theorem Texts.laid (w : World) (ls : List (List UInt8)) (C : Array Value) (t : TypeId) (hC : C = (ls.map fun l => Value.string (strB l)).toArray) : Texts (w.alloc (.cells C t)) w.heap.size ls := by
  subst hC
  refine ⟨by simp, fun k hk => ?_⟩
  rw [World.cell?_alloc_new, List.getElem?_toArray, List.getElem?_map]
  simp [List.getD, hk]

theorem Texts.below {w w' : World} {b : Nat} {ls : List (List UInt8)} (h : Texts w b ls) {B : Nat} (hB : b < B) (hb : Below B w w') : Texts w' b ls :=
  ⟨Nat.lt_of_lt_of_le h.1 hb.size, fun k hk => (hb.cell hB).trans (h.2 k hk)⟩

end Go.Proofs.YthipdkagkdnaiaaGreatDoor.Sg

namespace Go.Proofs.YthipdkagkdnaiaaGreatDoor.Sg

/-- The name of a space. -/
def spaceS (n : Int) : ByteArray :=
  if n = 0 then ⟨#[104, 116, 116, 112, 58, 47, 47, 119, 119, 119, 46, 119, 51, 46, 111, 114, 103, 47, 49, 57, 57, 57, 47, 120, 104, 116, 109, 108]⟩
  else if n = 1 then ⟨#[104, 116, 116, 112, 58, 47, 47, 119, 119, 119, 46, 119, 51, 46, 111, 114, 103, 47, 50, 48, 48, 48, 47, 115, 118, 103]⟩
  else if n = 2 then ⟨#[104, 116, 116, 112, 58, 47, 47, 119, 119, 119, 46, 119, 51, 46, 111, 114, 103, 47, 49, 57, 57, 56, 47, 77, 97, 116, 104, 47, 77, 97, 116, 104, 77, 76]⟩
  else ⟨#[]⟩

end Go.Proofs.YthipdkagkdnaiaaGreatDoor.Sg

namespace Go.Proofs.YthipdkagkdnaiaaGreatDoor.Sg

/-- A text's byte, by its bytes. -/
theorem at_list {l : List UInt8} {k : Nat} {b : UInt8} (h : l[k]? = some b) : ∃ hk : k < (strB l).size, (strB l)[k]'hk = b := by
  have hk : k < l.length := (List.getElem?_eq_some_iff.1 h).1
  refine ⟨by rw [strB_size]; exact hk, ?_⟩
  have h2 := (List.getElem?_eq_some_iff.1 h).2
  exact h2
/-- A text stands where its bytes come next. -/
theorem stands_pre (pre l t : List UInt8) : standsB (strB (pre ++ l)) pre.length (strB t) = t.isPrefixOf l := by
  unfold standsB
  rw [strB_size, strB_size, List.length_append, ByteArray.toList_eq, ByteArray.toList_eq]
  have e1 : (strB t).data.toList = t := by simp [strB]
  have e2 : ((strB (pre ++ l)).extract pre.length (pre.length + t.length)).data.toList = l.take t.length := by
    rw [ByteArray.data_extract, Array.toList_extract]
    simp [strB]
  rw [e1, e2]
  by_cases h : t <+: l
  · rw [List.isPrefixOf_iff_prefix.2 h]
    have := h.length_le
    have e := List.prefix_iff_eq_take.1 h
    rw [decide_eq_true (by omega), ← e]
    simp
  · have h2 : t.isPrefixOf l = false := by
      cases hc : t.isPrefixOf l with
      | false => rfl
      | true => exact absurd (List.isPrefixOf_iff_prefix.1 hc) h
    rw [h2, Bool.and_eq_false_iff]
    right
    rw [beq_eq_false_iff_ne]
    intro e
    exact h (List.prefix_iff_eq_take.2 e.symm)

/-- Digits up to a semicolon. -/
theorem xdig_list (ds : List UInt8) : ∀ (pre rest : List UInt8) (f n : Nat), ds.length ≤ f → (∀ d ∈ ds, 48 ≤ d.toNat ∧ d.toNat ≤ 57) →
    xdigR (strB (pre ++ (ds ++ 59 :: rest))) f pre.length n = (ds.foldl (fun n d => 10 * n + (d.toNat - 48)) n, pre.length + ds.length) := by
  induction ds with
  | nil =>
    intro pre rest f n hf hd
    obtain ⟨hk, e⟩ := at_list (l := pre ++ ([] ++ 59 :: rest)) (k := pre.length) (b := 59) (by
      simp)
    exact xdigR_stop hk (by rw [e]; decide)
  | cons d ds ih =>
    intro pre rest f n hf hd
    obtain ⟨g, rfl⟩ : ∃ g, f = g + 1 := ⟨f - 1, by simp at hf; omega⟩
    obtain ⟨hk, e⟩ := at_list (l := pre ++ (d :: ds ++ 59 :: rest)) (k := pre.length) (b := d) (by
      simp)
    rw [xdigR_go hk (by rw [e]; exact hd d List.mem_cons_self), e]
    have h := ih (pre ++ [d]) rest g (10 * n + (d.toNat - 48)) (by simp at hf; omega) fun x hx => hd x (List.mem_cons_of_mem _ hx)
    rw [List.length_append, List.length_singleton, List.append_assoc] at h
    rw [show pre ++ (d :: ds ++ 59 :: rest) = pre ++ ([d] ++ (ds ++ 59 :: rest)) by simp, h]
    simp [List.foldl_cons]
    omega
theorem putS_z {z : Int} (h0 : 0 ≤ z) (h1 : z ≤ 127) : putS z = strB [UInt8.ofNat z.toNat] := by
  apply ByteArray.ext
  apply Array.toList_inj.1
  rw [putS_one h0 h1]
  simp [strB]
end Go.Proofs.YthipdkagkdnaiaaGreatDoor.Sg
