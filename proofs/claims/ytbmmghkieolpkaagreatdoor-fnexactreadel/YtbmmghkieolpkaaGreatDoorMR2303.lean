/- A row is appended to: where it then lies. The laws' slices of elements, laid anew; one and several, joined. A row of elements that grows: each with all that is in it in other blocks. What is kept but for some blocks. Contract of the laws' marks of texts. Contract of the laws' attributes compared: one with itself. Contract of the laws' slices of attributes compared: one with itself. Contracts of the laws' marks of texts, and of attributes compared. -/
import Derived.Test.YtbmmghkieolpkaaGreatDoorMR2304
import Derived.Laws.AppendOwnNone
import Derived.Test.YtbmmghkieolpkaaGreatDoorMR2301
import Derived.Below
import Derived.Test.YtbmmghkieolpkaaGreatDoorGAttrs
import Derived.Deep.Cut
import Derived.Deep.CutRange
import Derived.Deep.RegionHeld3
namespace Go.Proofs.YtbmmghkieolpkaaGreatDoor.Sg
open Go.ChangeShapes Go.WideShapes Go.ChangeAt Go.RowKit

/-- What is appended to lies where it lay, or in a new block. -/
theorem run_append_at {P : Program} (w : World) (base : Nat) (t ty e : TypeId) (i : TypeInfo) (z : Value) (size bytes : Nat) (ht : P.underlying t = some (.slice e)) (hi : P.info? e = some i) (hz : i.zero = some z)
    (hsize : i.size = size) (hby : i.bytes = bytes) (hzs : z.cells.size = size) (hsz : 0 < size)
    (v : Value) (n : Nat) (xs : List Value) (hown : w.ownsRow base e size v n xs)
    (a : Addr) (m c : Nat) (news : List Value) (hl : news.length = m * size) (hnews : ∀ j u, news[j]? = some u → w.cell? (a.add j) = some u) (h1 : ∀ u ∈ news, u.oneCell' = true)
    (h63 : n + m ≤ maxLen) (hbytes : (n + m) * bytes ≤ 140737488355328) (hbase : base ≤ w.heap.size) :
    ∃ v' w', (Builtin.append_ #[t, t] ty #[v, .slice (some a) m c]).run P w = .ok v' w' ∧ w'.ownsRow base e size v' (n + m) (xs ++ news) ∧ w.grownBy w' v.ownBlock ∧
      (∀ b, v'.ownBlock = some b → v.ownBlock = some b ∨ w.heap.size ≤ b) := by
  obtain ⟨v', w', hr, h2, h3, _⟩ := run_append_own (P := P) w base t ty e i z size bytes ht hi hz hsize hby hzs hsz v n xs hown a m c news hl hnews h1 h63 hbytes hbase
  refine ⟨v', w', hr, h2, h3, fun b hb => ?_⟩
  rcases hown.2 with ⟨rfl, rfl⟩ | ⟨g, cap, cur, rfl, hbg, hg, hnc, hcm, hcs, htake⟩
  · have hx : xs = [] := List.eq_nil_of_length_eq_zero (by simpa using hown.1)
    subst hx
    obtain ⟨v2, w2, hr2, k2, _⟩ := run_append_own (P := P) w w.heap.size t ty e i z size bytes ht hi hz hsize hby hzs hsz (.slice none 0 0) 0 [] (World.ownsRow_nil w _ e size) a m c news hl hnews h1 h63 hbytes (Nat.le_refl _)
    rw [hr] at hr2
    cases hr2
    exact .inr (k2.lt b hb).1
  · by_cases hroom : n + m ≤ cap
    · have hfit : n * i.size + news.length ≤ cur.size := by rw [hl, hcs, hsize, ← Nat.add_mul]; exact Nat.mul_le_mul_right _ hroom
      have hr2 := run_append_room (P := P) w t ty e i ht hi g n cap cur hg a m c news (by rw [hsize]; exact hl) hnews h1 hroom hfit
      rw [hr] at hr2
      cases hr2
      exact .inl hb
    · have holds : ∀ j u, xs[j]? = some u → w.cell? ((⟨g, 0, none⟩ : Addr).add j) = some u := hown.cells (g := g) rfl
      obtain ⟨v2, w2, hr2, k2, _⟩ := run_append_arg_grows (P := P) w t ty e i z size bytes ht hi hz hsize hby hzs hsz ⟨g, 0, none⟩ n cap xs hown.1 holds a m c news hl hnews (by omega) h63 hbytes
      rw [hr] at hr2
      cases hr2
      exact .inr (k2.lt b hb).1

theorem wpList_append_at {P : Program} (w : World) {ops : Array Oper} {rest : List Oper} {o : Oper} {a : Act} {Q : Exit → Act → World → Prop} (hgd : o.guard = none) (s x : Operand) (t : TypeId)
    (ho : o.op = .call { callee := .builtin .append, args := #[s, x], argTypes := #[t, t] })
    (base : Nat) (e : TypeId) (i : TypeInfo) (z : Value) (size bytes : Nat) (ht : P.underlying t = some (.slice e)) (hi : P.info? e = some i) (hz : i.zero = some z)
    (hsize : i.size = size) (hby : i.bytes = bytes) (hzs : z.cells.size = size) (hsz : 0 < size)
    (v : Value) (n : Nat) (xs : List Value) (hs : a.eval s = v) (hown : w.ownsRow base e size v n xs)
    (ad : Addr) (m c : Nat) (news : List Value) (hx : a.eval x = .slice (some ad) m c) (hl : news.length = m * size) (hnews : ∀ j u, news[j]? = some u → w.cell? (ad.add j) = some u) (h1 : ∀ u ∈ news, u.oneCell' = true)
    (h63 : n + m ≤ maxLen) (hbytes : (n + m) * bytes ≤ 140737488355328) (hbase : base ≤ w.heap.size)
    (h : ∀ v' w', w'.ownsRow base e size v' (n + m) (xs ++ news) → w.grownBy w' v.ownBlock → (∀ b, v'.ownBlock = some b → v.ownBlock = some b ∨ w.heap.size ≤ b) → wpList P ops Q rest (a.put o.dst v') w') : wpList P ops Q (o :: rest) a w := by
  obtain ⟨v', w', hrun, r1, r2, r3⟩ := run_append_at (P := P) w base t o.type e i z size bytes ht hi hz hsize hby hzs hsz v n xs hown ad m c news hl hnews h1 h63 hbytes hbase
  refine wpList_plain hgd fun K hK => ?_
  unfold Oper.wp
  simp [execOp, ho, resolve, invoke, builtin, hs, hx, hrun, Result.andThen]
  exact hK _ _ (h v' w' r1 r2 r3)

end Go.Proofs.YtbmmghkieolpkaaGreatDoor.Sg

namespace Go.Proofs.YtbmmghkieolpkaaGreatDoor.Sg
open Go.ChangeShapes Go.WideShapes Go.ChangeAt Go.RowKit

theorem info_el : (Tryz.prog.info? 25).map (fun i => (i.zero, i.size, i.bytes)) = some (some (.agg #[.int .i64 0, .int .i64 0, .string ⟨#[]⟩, .slice none 0 0, .string ⟨#[]⟩, .slice none 0 0]), 6, 96) := by kernel_rfl
def elZ : Array Value := #[.int .i64 0, .int .i64 0, .string ⟨#[]⟩, .slice none 0 0, .string ⟨#[]⟩, .slice none 0 0]
def elZf (j : Nat) : Value := elZ[j % 6]!
theorem make_els (n : Nat) (hn : n ≤ 1099511627776) (w : World) :
    (Instr.makeSlice 23 (.int .i64 (n : Int)) (.int .i64 (n : Int))).run Tryz.prog w = .ok (.slice (some ⟨w.heap.size, 0, none⟩) n n) (w.alloc (.cells (madeCells elZ (n * 6)) 25)) := by
  obtain ⟨i, hi, hz, hs, hb⟩ := info_parts info_el
  have hr := run_make (P := Tryz.prog) w 23 25 i _ Tryz.underlying23 hi hz .i64 .i64 n n (by omega) (Int.le_refl _) (by rw [hb]; omega) (by omega)
  simp only [Int.toNat_natCast, hs] at hr
  exact hr
theorem made_six (w : World) (m : Nat) (t : TypeId) : (w.alloc (.cells (madeCells elZ m) t)).rowIs w.heap.size t m elZf := by
  have h := World.rowIs_alloc w (madeCells elZ m) t elZf (fun i hi => by
    rw [size_madeCells] at hi
    simp [madeCells, hi, elZf, elZ])
  rw [size_madeCells] at h
  exact h
/-- The value of six cells. -/
def sixV (C : List Value) (i : Nat) : Value := .agg #[C.getD (i * 6) undef, C.getD (i * 6 + 1) undef, C.getD (i * 6 + 2) undef, C.getD (i * 6 + 3) undef, C.getD (i * 6 + 4) undef, C.getD (i * 6 + 5) undef]
theorem getD_old {C D : List Value} {j : Nat} (h : j < C.length) : (C ++ D).getD j undef = C.getD j undef := by
  simp only [List.getD_eq_getElem?_getD]
  rw [List.getElem?_append_left h]
theorem getD_new {C D : List Value} {j : Nat} : (C ++ D).getD (C.length + j) undef = D.getD j undef := by
  simp only [List.getD_eq_getElem?_getD]
  rw [List.getElem?_append_right (by omega), show C.length + j - C.length = j by omega]

theorem getD_new0 {C D : List Value} : (C ++ D).getD C.length undef = D.getD 0 undef := getD_new (j := 0)

end Go.Proofs.YtbmmghkieolpkaaGreatDoor.Sg

namespace Go.Proofs.YtbmmghkieolpkaaGreatDoor.Sg
open Go.ChangeShapes Go.WideShapes Go.ChangeAt Go.RowKit

def RowL (w : World) (lo : Nat) (v : Value) (l : List ElB) : Prop :=
  ∃ g cap C, v = .slice (some ⟨g, 0, none⟩) l.length cap ∧ w.ownsRow lo 25 6 v l.length C ∧ ∀ i (hi : i < l.length), ElP (fun b => lo ≤ b ∧ b ≠ g) w (sixV C i) (l[i]'hi)
theorem RowL.empty (w : World) (lo : Nat) (h : lo ≤ w.heap.size) : RowL (w.alloc (.cells #[] 25)) lo (.slice (some ⟨w.heap.size, 0, none⟩) 0 0) [] :=
  ⟨w.heap.size, 0, [], rfl, ⟨rfl, .inr ⟨w.heap.size, 0, #[], rfl, h, by show (w.heap.push _)[w.heap.size]? = _; simp, Nat.le_refl _, Nat.zero_le _, rfl, rfl⟩⟩, fun i hi => absurd hi (Nat.not_lt_zero _)⟩
theorem RowL.keep {w w' : World} {lo : Nat} {v : Value} {l : List ElB} (h : RowL w lo v l) (hb : Below w.heap.size w w') : RowL w' lo v l := by
  obtain ⟨g, cap, C, e, ho, hv⟩ := h
  exact ⟨g, cap, C, e, owns_below ho (Nat.le_refl _) hb, fun i hi => (hv i hi).stay (fun b _ h2 => hb.block b h2) hb.size⟩
theorem RowL.fr {p : Nat} {w w' : World} {lo : Nat} {v : Value} {l : List ElB} (h : RowL w lo v l) (hf : Fr p w w') (hp : p < lo) : RowL w' lo v l := by
  obtain ⟨g, cap, C, e, ho, hv⟩ := h
  exact ⟨g, cap, C, e, hf.owns hp ho, fun i hi => (hv i hi).fr hf (by intro h; omega)⟩
theorem RowL.form {w : World} {lo : Nat} {v : Value} {l : List ElB} (h : RowL w lo v l) : ∃ g cap, v = .slice (some ⟨g, 0, none⟩) l.length cap ∧ lo ≤ g ∧ g < w.heap.size := by
  obtain ⟨g, cap, C, e, ho, hv⟩ := h
  subst e
  have := ho.lt g rfl
  exact ⟨g, cap, rfl, this.1, this.2⟩
/-- The kids of an element. -/
theorem RowL.kids {w : World} {lo : Nat} {v : Value} {l : List ElB} (h : RowL w lo v l) : ∃ g cap, v = .slice (some ⟨g, 0, none⟩) l.length cap ∧ KidsIn (QP (lo ≤ ·)) (lo ≤ ·) w (some ⟨g, 0, none⟩) l := by
  obtain ⟨g, cap, C, e, ho, hv⟩ := h
  subst e
  have hg := (ho.lt g rfl).1
  refine ⟨g, cap, rfl, .inr ⟨g, 0, rfl, hg, ElsIn.of fun i hi => ?_⟩⟩
  have hw := (hv i hi).wide (P' := (lo ≤ ·)) (fun b _ h => h.1)
  have hC : C.length = l.length * 6 := ho.1
  have cell : ∀ j, j < 6 → w.cell? ⟨g, i * 6 + j, none⟩ = some (C.getD (i * 6 + j) undef) := fun j hj => by
    have hlt : i * 6 + j < l.length * 6 := by omega
    rw [(own_cell ho hlt).1]
    simp [List.getD, show i * 6 + j < C.length by omega]
  rw [Nat.zero_add]
  exact ElV.cells hw (cell 0 (by omega)) (cell 1 (by omega)) (cell 2 (by omega)) (cell 3 (by omega)) (cell 4 (by omega)) (cell 5 (by omega))
/-- One more is appended. -/
theorem RowL.more {w w' : World} {lo N : Nat} {v v' : Value} {l : List ElB} {C : List Value} {g : Nat} {a0 a1 a2 a3 a4 a5 : Value} {e : ElB}
    (hv : v.ownBlock = some g) (hC : C.length = l.length * 6) (hl : ∀ i (hi : i < l.length), ElP (fun b => lo ≤ b ∧ b ≠ g) w (sixV C i) (l[i]'hi)) (hN : g < N) (hlo : lo ≤ N) (he : ElP (N ≤ ·) w (.agg #[a0, a1, a2, a3, a4, a5]) e)
    (ho : w'.ownsRow lo 25 6 v' (l.length + 1) (C ++ [a0, a1, a2, a3, a4, a5])) (hg : w.grownBy w' v.ownBlock) (hb : ∀ b, v'.ownBlock = some b → v.ownBlock = some b ∨ w.heap.size ≤ b) : RowL w' lo v' (l ++ [e]) := by
  rcases ho.2 with ⟨rfl, h0⟩ | ⟨g', cap', cur, rfl, h3, h4, h5⟩
  · omega
  have hlen : (l ++ [e]).length = l.length + 1 := by simp
  have hg' := hb g' rfl
  have kept : ∀ b, (lo ≤ b ∧ b ≠ g) → b < w.heap.size → w'.heap[b]? = w.heap[b]? := fun b h1 h2 => hg.block b h2 (fun e => h1.2 (by rw [hv] at e; injection e))
  have new : ∀ b, b < w.heap.size → b ≠ g → b ≠ g' := fun b h1 h2 => by
    rcases hg' with h | h
    · rw [hv] at h
      injection h with h
      omega
    · omega
  refine ⟨g', cap', C ++ [a0, a1, a2, a3, a4, a5], by rw [hlen], by rw [hlen]; exact ho, fun i hi => ?_⟩
  have e1 : ∀ j, j < C.length → (C ++ [a0, a1, a2, a3, a4, a5]).getD j undef = C.getD j undef := fun j hj => getD_old hj
  by_cases hil : i < l.length
  · have h1 := (((hl i hil).wide (P' := fun b => (lo ≤ b ∧ b ≠ g) ∧ b ≠ g') (fun b h1 h2 => ⟨h2, new b h1 h2.2⟩)).stay (w' := w') (fun b h1 h2 => kept b h1.1 h2) hg.size).wide (P' := fun b => lo ≤ b ∧ b ≠ g') (fun b _ h => ⟨h.1.1, h.2⟩)
    have eS : sixV (C ++ [a0, a1, a2, a3, a4, a5]) i = sixV C i := by
      unfold sixV
      rw [e1 _ (by omega), e1 _ (by omega), e1 _ (by omega), e1 _ (by omega), e1 _ (by omega), e1 _ (by omega)]
    have eL : (l ++ [e])[i]'hi = l[i]'hil := List.getElem_append_left hil
    rw [eS, eL]
    exact h1
  · have hie : i = l.length := by rw [hlen] at hi; omega
    subst hie
    have h1 := ((he.wide (P' := fun b => (lo ≤ b ∧ b ≠ g) ∧ b ≠ g') (fun b h1 h2 => by
      have h3 : b ≠ g := by omega
      exact ⟨⟨Nat.le_trans hlo h2, h3⟩, new b h1 h3⟩)).stay (w' := w') (fun b h1 h2 => kept b h1.1 h2) hg.size).wide (P' := fun b => lo ≤ b ∧ b ≠ g') (fun b _ h => ⟨h.1.1, h.2⟩)
    have e2 : ∀ j, (C ++ [a0, a1, a2, a3, a4, a5]).getD (l.length * 6 + j) undef = [a0, a1, a2, a3, a4, a5].getD j undef := fun j => by rw [← hC]; exact getD_new
    have eS : sixV (C ++ [a0, a1, a2, a3, a4, a5]) l.length = .agg #[a0, a1, a2, a3, a4, a5] := by
      have e20 := e2 0
      rw [Nat.add_zero] at e20
      unfold sixV
      rw [e20, e2 1, e2 2, e2 3, e2 4, e2 5]
      rfl
    have eL : (l ++ [e])[l.length]'hi = e := by simp
    rw [eS, eL]
    exact h1

end Go.Proofs.YtbmmghkieolpkaaGreatDoor.Sg

namespace Go.Proofs.YtbmmghkieolpkaaGreatDoor.Sg
open Go.ChangeShapes Go.WideShapes Go.ChangeAt Go.RowKit

/-- Of what was there nothing has turned but blocks that are S. -/
structure Kb (w w' : World) (S : Nat → Prop) : Prop where
  os : w'.os = w.os
  tape : w'.tape = w.tape
  output : w'.output = w.output
  size : w.heap.size ≤ w'.heap.size
  block : ∀ k, k < w.heap.size → ¬ S k → w'.heap[k]? = w.heap[k]?
theorem Kb.refl (w : World) (S : Nat → Prop) : Kb w w S := ⟨rfl, rfl, rfl, Nat.le_refl _, fun _ _ _ => rfl⟩
theorem Kb.trans {a b c : World} {S : Nat → Prop} (h : Kb a b S) (k : Kb b c S) : Kb a c S :=
  ⟨k.os.trans h.os, k.tape.trans h.tape, k.output.trans h.output, Nat.le_trans h.size k.size, fun i hi hS => (k.block i (Nat.lt_of_lt_of_le hi h.size) hS).trans (h.block i hi hS)⟩
theorem Kb.more {a b : World} {S T : Nat → Prop} (h : Kb a b S) (hST : ∀ k, S k → T k) : Kb a b T :=
  ⟨h.os, h.tape, h.output, h.size, fun i hi hT => h.block i hi fun hS => hT (hST i hS)⟩
theorem Kb.of_below {a b : World} (h : Below a.heap.size a b) (S : Nat → Prop) : Kb a b S := ⟨h.os, h.tape, h.output, h.size, fun i hi _ => h.block i hi⟩
theorem Kb.of_grown {a b : World} {r : Option Nat} (h : a.grownBy b r) {S : Nat → Prop} (hS : ∀ k, r = some k → S k) : Kb a b S :=
  ⟨h.os, h.tape, h.output, h.size, fun i hi hn => h.block i hi fun e => hn (hS i e.symm)⟩
theorem Kb.below {a b : World} {S : Nat → Prop} (h : Kb a b S) {B : Nat} (hB : B ≤ a.heap.size) (hS : ∀ k, S k → B ≤ k) : Below B a b :=
  ⟨h.os, h.tape, h.output, h.size, fun i hi => h.block i (Nat.lt_of_lt_of_le hi hB) fun hs => absurd (hS i hs) (Nat.not_le_of_lt hi)⟩
/-- A row that is none of these blocks is kept. -/
theorem Kb.owns {a b : World} {S : Nat → Prop} (h : Kb a b S) {base : Nat} {e : TypeId} {size : Nat} {v : Value} {n : Nat} {xs : List Value} (ho : a.ownsRow base e size v n xs) (hne : ∀ k, v.ownBlock = some k → ¬ S k) : b.ownsRow base e size v n xs := by
  obtain ⟨h1, h2⟩ := ho
  refine ⟨h1, ?_⟩
  rcases h2 with h2 | ⟨g, cap, cur, rfl, h3, h4, h5⟩
  · exact .inl h2
  · exact .inr ⟨g, cap, cur, rfl, h3, (h.block g (Array.getElem?_eq_some_iff.1 h4).1 (hne g rfl)).trans h4, h5⟩

end Go.Proofs.YtbmmghkieolpkaaGreatDoor.Sg

namespace Go.Proofs.YtbmmghkieolpkaaGreatDoor.Sg
open Go.ChangeShapes Go.WideShapes Go.ChangeAt Go.RowKit

/-- The digits of a number ahead of a text. -/
def digS (k : Nat) (out : ByteArray) : ByteArray := if 0 < k then digS (k / 10) (strOfNums [48 + ((k % 10 : Nat) : Int)] ++ out) else out
  termination_by k
  decreasing_by omega
/-- The text that marks a number. -/
def markB (k : Nat) : ByteArray := if 0 < k then ⟨#[109]⟩ ++ digS k ⟨#[]⟩ else ⟨#[109, 48]⟩

theorem digS_yes {k : Nat} {out : ByteArray} (h : 0 < k) : digS k out = digS (k / 10) (strOfNums [48 + ((k % 10 : Nat) : Int)] ++ out) := by
  rw [digS, if_pos h]
theorem digS_no {k : Nat} {out : ByteArray} (h : ¬ 0 < k) : digS k out = out := by
  rw [digS, if_neg h]

theorem ret_text {a b : ByteArray} (h : a = b) : Ending.returned (.string a) = .returned (.string b) := by rw [h]

set_option maxHeartbeats 2000000 in
theorem markText_any (k0 : Nat) (w : World) (hk0 : k0 ≤ 1152921504606846976) :
    Calls Tryz.prog 36 #[.int .i64 (k0 : Int)] w fun e w' => e = .returned (.string (markB k0)) ∧ Below w.heap.size w w' := by
  by_cases h0 : 0 < k0
  · have Hm : Hid (markB k0 = ⟨#[109]⟩ ++ digS k0 ⟨#[]⟩) := if_pos h0
    have g0 : ¬ (k0 : Int) ≤ 0 := by omega
    go_enter Tryz.func36, Tryz.ntmps36
    go_wp2
    go_loopw [0, 3] (fun kv ov wr => ∃ (k : Nat) (out : ByteArray), k ≤ k0 ∧ out.size + k ≤ k0 ∧ kv = .int .i64 (k : Int) ∧ ov = .string out ∧ Hid (digS k0 ⟨#[]⟩ = digS k out) ∧ Below w.heap.size w wr) (fun kv _ _ => (intOf kv).toNat)
    case atStart => exact ⟨k0, ⟨#[]⟩, Nat.le_refl _, Nat.le_of_eq (by show 0 + k0 = k0; omega), rfl, rfl, rfl, Below.refl _ _⟩
    case round =>
      obtain ⟨k, out, hk, hks, rfl, rfl, Hsp, hbel⟩ := hrel
      by_cases hlt : 0 < k
      · have Hn : Hid (digS k0 ⟨#[]⟩ = digS (k / 10) (strOfNums [48 + ((k % 10 : Nat) : Int)] ++ out)) := Hsp.out.trans (digS_yes hlt)
        have g1 : (0 : Int) < (k : Int) := by omega
        obtain ⟨d, hd⟩ : ∃ d : Nat, k % 10 = d := ⟨_, rfl⟩
        obtain ⟨q, hq⟩ : ∃ q : Nat, k / 10 = q := ⟨_, rfl⟩
        have e1 : (k : Int) % 10 = (d : Int) := by omega
        have e2 : (k : Int) / 10 = (q : Int) := by omega
        have hd10 : d < 10 := by omega
        have hqk : q + 1 ≤ k := by omega
        rw [hd, hq] at Hn
        have c1 := conv1 (48 + (d : Int)) wr
        have hs1 : (strOfNums [48 + (d : Int)]).size = 1 := rfl
        generalize strOfNums [48 + (d : Int)] = t at *
        have hst : (t ++ out).size = t.size + out.size := by simp [ByteArray.size_append]
        clear Hsp hd hq
        go_wp2
        go_roundw
        case rel => exact ⟨q, t ++ out, by omega, by rw [hst, hs1]; omega, rfl, rfl, Hn, hbel.alloc hbel.size _⟩
        case measure => simp [intOf]; omega
      · have Hn : Hid (digS k0 ⟨#[]⟩ = out) := Hsp.out.trans (digS_no hlt)
        have g1 : ¬ (0 : Int) < (k : Int) := by omega
        have g2 : decide ((0 : Int) < (k : Int)) = false := decide_eq_false g1
        clear Hsp
        go_wp2
        go_ret
        exact ⟨ret_text (by rw [Hm.out, Hn.out]), hbel⟩
  · have Hm : Hid (markB k0 = ⟨#[109, 48]⟩) := if_neg h0
    have g0 : (k0 : Int) ≤ 0 := by omega
    go_enter Tryz.func36, Tryz.ntmps36
    go_wp2
    go_ret
    exact ⟨ret_text (by rw [Hm.out]), Below.refl _ _⟩

end Go.Proofs.YtbmmghkieolpkaaGreatDoor.Sg

namespace Go.Proofs.YtbmmghkieolpkaaGreatDoor.Sg
open Go.ChangeShapes Go.WideShapes Go.ChangeAt Go.RowKit

set_option maxHeartbeats 2000000 in
theorem eqAttr_same (x y : ByteArray) (w : World) :
    Calls Tryz.prog 50 #[.agg #[.string x, .string y], .agg #[.string x, .string y]] w fun e w' => e = .returned (.bool true) ∧ Below w.heap.size w w' := by
  have g1 : (x.toList == x.toList) = true := by simp
  have g2 : (y.toList == y.toList) = true := by simp
  go_enter Tryz.func50, Tryz.ntmps50
  go_wp2
  go_ret
  exact ⟨rfl, ((Below.refl _ _).alloc (Nat.le_refl _) _).alloc (by simp) _⟩

end Go.Proofs.YtbmmghkieolpkaaGreatDoor.Sg

namespace Go.Proofs.YtbmmghkieolpkaaGreatDoor.Sg
open Go.ChangeShapes Go.WideShapes Go.ChangeAt Go.RowKit

set_option maxHeartbeats 4000000 in
theorem eqAttrS_same (l : List AttrB) (a b : Option Addr) (n ca cb : Nat) (w : World) (ha : AttrsAt w a l) (hb : AttrsAt w b l) (hl : l.length = n) (hn : n ≤ 17592186044416) :
    Calls Tryz.prog 24 #[.slice a n ca, .slice b n cb] w fun e w' => e = .returned (.bool true) ∧ Below w.heap.size w w' := by
  have Hl : Hid (l.length = n) := hl
  have Ha : Hid (AttrsAt w a l) := ha
  have Hb : Hid (AttrsAt w b l) := hb
  have g0 : ((n : Int) != (n : Int)) = false := by simp
  clear hl ha hb
  go_enter Tryz.func24, Tryz.ntmps24
  go_wp2
  go_loopw [5] (fun v wr => ∃ k : Nat, k ≤ n ∧ v = .int .i64 (k : Int) ∧ Below w.heap.size w wr) (fun v _ => n - (intOf v).toNat)
  case atStart => exact ⟨0, Nat.zero_le _, rfl, Below.refl _ _⟩
  case round =>
    obtain ⟨k, hk, rfl, hbel⟩ := hrel
    by_cases hlt : k < n
    · have hkl : k < l.length := by rw [Hl.out]; exact hlt
      rcases Ha.out with h | ⟨ba, rfl, hba, hca⟩
      · rw [h] at hkl
        exact absurd hkl (Nat.not_lt_zero _)
      rcases Hb.out with h | ⟨bb, rfl, hbb, hcb⟩
      · rw [h] at hkl
        exact absurd hkl (Nat.not_lt_zero _)
      obtain ⟨c1, c2⟩ := hca k hkl
      obtain ⟨d1, d2⟩ := hcb k hkl
      clear hca hcb hkl
      generalize l.getD k (ByteArray.empty, ByteArray.empty) = p at *
      obtain ⟨x, y⟩ := p
      have c1' : wr.cell? ⟨ba, k * 2, none⟩ = some (.string x) := (hbel.cell (by exact hba)).trans c1
      have c2' : wr.cell? ⟨ba, k * 2 + 1, none⟩ = some (.string y) := (hbel.cell (by exact hba)).trans c2
      have d1' : wr.cell? ⟨bb, k * 2, none⟩ = some (.string x) := (hbel.cell (by exact hbb)).trans d1
      have d2' : wr.cell? ⟨bb, k * 2 + 1, none⟩ = some (.string y) := (hbel.cell (by exact hbb)).trans d2
      have k0 : (0 : Int) ≤ (k : Int) := by omega
      have k1 : (k : Int) < (n : Int) := by omega
      have HB : Hid (∀ wx : World, Below wr.heap.size wr wx → Below w.heap.size w wx) := fun wx h => hbel.trans (h.mono hbel.size)
      clear c1 c2 d1 d2 Ha Hb
      go_upto_region 6 with fail
      go_cut [26] from 11 to 26 (fun r wx => r = .bool false ∧ Below wr.heap.size wr wx)
      case first =>
        go_region_held3 (fun w' => w'.cell? ⟨ba, k * 2, none⟩ = some (.string x) ∧ w'.cell? ⟨ba, k * 2 + 1, none⟩ = some (.string y) ∧ w'.cell? ⟨bb, k * 2, none⟩ = some (.string x) ∧ w'.cell? ⟨bb, k * 2 + 1, none⟩ = some (.string y)) (first | go_keep | (go_split_ands; exact ⟨keep_cell hb' (by assumption), keep_cell hb' (by assumption), keep_cell hb' (by assumption), keep_cell hb' (by assumption)⟩)) (first | (go_at_call 50; refine (eqAttr_same x y _).mono ?_; rintro e w' ⟨rfl, hb'⟩))
        go_wp2_with fail
        go_meet
        case rel => exact ⟨rfl, ((Below.refl _ _).drew).trans hb'⟩
      case rest =>
        obtain ⟨rfl, hbx⟩ := hcut
        have hbel2 := HB.out _ hbx
        go_wp2_with fail
        go_roundw
        case rel => exact ⟨k + 1, by omega, by go_num, hbel2⟩
        case measure => simp [intOf]; omega
    · have g1 : decide ((k : Int) < (n : Int)) = false := decide_eq_false (by omega)
      go_wp2
      go_ret
      exact ⟨rfl, hbel⟩

end Go.Proofs.YtbmmghkieolpkaaGreatDoor.Sg

namespace Go.Proofs.YtbmmghkieolpkaaGreatDoor.Sg
open Go.ChangeShapes Go.WideShapes Go.ChangeAt Go.RowKit

/-- n attributes marked from k on. -/
def markL (k n : Nat) : List AttrB := (List.range n).map fun i => (markB (k + 2 * i), markB (k + 2 * i + 1))
theorem markL_length (k n : Nat) : (markL k n).length = n := by simp [markL]
theorem markL_cells (k n j : Nat) (h : j < n * 2) : (attrCells (markL k n))[j]? = some (.string (markB (k + j))) := by
  have hl : j / 2 < (markL k n).length := by rw [markL_length]; omega
  obtain ⟨h1, h2⟩ := attrCells_at (markL k n) (j / 2) hl
  have e : (markL k n).getD (j / 2) (ByteArray.empty, ByteArray.empty) = (markB (k + 2 * (j / 2)), markB (k + 2 * (j / 2) + 1)) := by
    rw [markL_length] at hl
    simp [markL, hl]
  rw [e] at h1 h2
  rcases Nat.mod_two_eq_zero_or_one j with hm | hm
  · have ej : j / 2 * 2 = j := by omega
    rw [ej] at h1
    rw [h1]
    show some (Value.string (markB (k + 2 * (j / 2)))) = _
    rw [show k + 2 * (j / 2) = k + j by omega]
  · have ej : j / 2 * 2 + 1 = j := by omega
    rw [ej] at h2
    rw [h2]
    show some (Value.string (markB (k + 2 * (j / 2) + 1))) = _
    rw [show k + 2 * (j / 2) + 1 = k + j by omega]

theorem own_of_rowIs {w : World} {B g cap n k : Nat} {e : TypeId} {f : Nat → Value} (hB : B ≤ g) (hn : n ≤ cap) (hm : cap ≤ maxLen) (h : w.rowIs g e (cap * 2) f) (hf : ∀ j, j < n * 2 → f j = .string (markB (k + j))) :
    w.ownsRow B e 2 (.slice (some ⟨g, 0, none⟩) n cap) n (attrCells (markL k n)) := by
  obtain ⟨c, hb, hc, hv⟩ := h
  refine ⟨by rw [attrCells_length, markL_length], .inr ⟨g, cap, c, rfl, hB, hb, hn, hm, hc, ?_⟩⟩
  apply List.ext_getElem?
  intro j
  by_cases hj : j < n * 2
  · rw [List.getElem?_take_of_lt hj, Array.getElem?_toList, hv j (by omega), hf j hj, markL_cells k n j hj]
  · rw [List.getElem?_eq_none (by simp; omega), List.getElem?_eq_none (by rw [attrCells_length, markL_length]; omega)]

end Go.Proofs.YtbmmghkieolpkaaGreatDoor.Sg
