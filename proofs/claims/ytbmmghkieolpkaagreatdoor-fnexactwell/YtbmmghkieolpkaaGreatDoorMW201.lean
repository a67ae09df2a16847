/- Attributes that came in. Elements that came in. Contracts of the laws' szEl, szElS. The laws' attributes, laid anew. A block of some cells that may be written. The laws' elements, laid anew: one, where its kids are. Written by mk_elto.py. The model's reader in memory: its block, and what else stays. Elements in blocks of some kind: they stay where these blocks stay, and lie in blocks of a wider kind. A row is appended to: where it then lies. The laws' slices of elements, laid anew; one and several, joined. -/
import Derived.Test.YtbmmghkieolpkaaGreatDoorLwToA
import Derived.Deep.SlicePairs
import Derived.OpenShut
import Derived.Test.YtbmmghkieolpkaaGreatDoorElMem
import Derived.Test.YtbmmghkieolpkaaGreatDoorSgOk
import Derived.Below
import Derived.Test.YtbmmghkieolpkaaGreatDoorMW205
import Derived.Laws.AppendOwnNone
namespace Go.Proofs.YtbmmghkieolpkaaGreatDoor.Sg
open Go.ChangeShapes Go.WideShapes Go.ChangeAt Go.RowKit

end Go.Proofs.YtbmmghkieolpkaaGreatDoor.Sg

namespace Go.Proofs.YtbmmghkieolpkaaGreatDoor.Sg
open Go.ChangeShapes Go.WideShapes Go.ChangeAt Go.RowKit

end Go.Proofs.YtbmmghkieolpkaaGreatDoor.Sg

namespace Go.Proofs.YtbmmghkieolpkaaGreatDoor.Sg
open Go.ChangeShapes Go.WideShapes Go.ChangeAt Go.RowKit

end Go.Proofs.YtbmmghkieolpkaaGreatDoor.Sg

namespace Go.Proofs.YtbmmghkieolpkaaGreatDoor.Sg
open Go.ChangeShapes Go.WideShapes Go.ChangeAt Go.RowKit

end Go.Proofs.YtbmmghkieolpkaaGreatDoor.Sg

namespace Go.Proofs.YtbmmghkieolpkaaGreatDoor.Sg
open Go.ChangeShapes Go.WideShapes Go.ChangeAt Go.RowKit

/-- A block has n cells that may be written. -/
def Many (n : Nat) (w : World) (b : Nat) (f : Nat → Value) : Prop := b < w.heap.size ∧ ∀ i, i < n → w.cell? ⟨b, i, none⟩ = some (f i) ∧ w.frozen? ⟨b, i, none⟩ = false
theorem Many.set {n : Nat} {w : World} {b i : Nat} {f : Nat → Value} (h : Many n w b f) (v : Value) : Many n (w.setCell ⟨b, i, none⟩ v) b (fun j => if j = i then v else f j) := by
  refine ⟨by simpa using h.1, fun j hj => ⟨?_, by simpa using (h.2 j hj).2⟩⟩
  show _ = some (if j = i then v else f j)
  by_cases e : j = i
  · subst e
    rw [if_pos rfl]
    exact World.cell?_setCell_same _ _ _ (h.2 j hj).1
  · rw [if_neg e]
    exact (World.cell?_setCell_other _ _ _ _ (by intro e2; apply e; exact (congrArg Addr.off e2).symm)).trans (h.2 j hj).1
theorem Many.other {n : Nat} {w : World} {b c i : Nat} {f : Nat → Value} (h : Many n w b f) (hc : c ≠ b) (v : Value) : Many n (w.setCell ⟨c, i, none⟩ v) b f :=
  ⟨by simpa using h.1, fun j hj => ⟨(World.cell?_setCell_other _ _ _ _ (fun e => hc (congrArg Addr.block e))).trans (h.2 j hj).1, by simpa using (h.2 j hj).2⟩⟩
theorem Many.below {n : Nat} {w w' : World} {b B : Nat} {f : Nat → Value} (h : Many n w b f) (hB : b < B) (hb : Below B w w') : Many n w' b f :=
  ⟨Nat.lt_of_lt_of_le h.1 hb.size, fun j hj => ⟨(hb.cell hB).trans (h.2 j hj).1, (hb.frozen hB).trans (h.2 j hj).2⟩⟩
theorem Many.new (w : World) (xs : List Value) (t : TypeId) (d : Value) : Many xs.length (w.alloc (.cells xs.toArray t)) w.heap.size (fun i => xs.getD i d) := by
  refine ⟨by simp, fun j hj => ⟨?_, by simp⟩⟩
  rw [World.cell?_alloc_new, List.getElem?_toArray]
  simp [List.getD, hj]

end Go.Proofs.YtbmmghkieolpkaaGreatDoor.Sg

namespace Go.Proofs.YtbmmghkieolpkaaGreatDoor.Sg
open Go.ChangeShapes Go.WideShapes Go.ChangeAt Go.RowKit

/-- From some block on two worlds are one. -/
def Agr (lo : Nat) (w w' : World) : Prop := (∀ b, lo ≤ b → w'.heap[b]? = w.heap[b]?) ∧ w.heap.size ≤ w'.heap.size
theorem Agr.trans {lo : Nat} {a b c : World} (h : Agr lo a b) (k : Agr lo b c) : Agr lo a c := ⟨fun x hx => (k.1 x hx).trans (h.1 x hx), Nat.le_trans h.2 k.2⟩
theorem Agr.set {lo c : Nat} (w : World) (i : Nat) (v : Value) (h : c < lo) : Agr lo w (w.setCell ⟨c, i, none⟩ v) := ⟨fun b hb => Below.heap_setCell _ _ _ _ (by show b ≠ c; omega), by simp [World.setCell]⟩
/-- Attributes that were laid from some block on. -/
def QA (lo : Nat) (w : World) (v : Value) (l : List AttrB) : Prop := ∃ x c, v = .slice x l.length c ∧ (∀ b o m, x = some ⟨b, o, m⟩ → lo ≤ b) ∧ (∀ b o m, x = some ⟨b, o, m⟩ → b < w.heap.size) ∧ AttrsAt w x l ∧ l.length ≤ c
theorem QA.lies (lo : Nat) : Lies (QA lo) := ⟨fun ⟨x, c, e, h1, h2, h3, h4⟩ hb => ⟨x, c, e, h1, fun b o m h => Nat.lt_of_lt_of_le (h2 b o m h) hb.size, h3.below hb, h4⟩, fun ⟨_, c, e, _⟩ => ⟨_, c, e⟩⟩
mutual
/-- Lists that can be laid. -/
def ElLight : ElB → Prop
  | .mk _ _ _ ats _ ks => ats.length ≤ 1099511627776 ∧ ks.length ≤ 1099511627776 ∧ ElsLight ks
def ElsLight : List ElB → Prop
  | [] => True
  | e :: es => ElLight e ∧ ElsLight es
end
theorem ElsLight.get : ∀ {es : List ElB}, ElsLight es → ∀ e ∈ es, ElLight e
  | [], _, _, h => nomatch h
  | x :: xs, h, e, hm => by
    unfold ElsLight at h
    rcases List.mem_cons.1 hm with rfl | hm
    · exact h.1
    · exact h.2.get e hm

end Go.Proofs.YtbmmghkieolpkaaGreatDoor.Sg

namespace Go.Proofs.YtbmmghkieolpkaaGreatDoor.Sg
open Go.ChangeShapes Go.WideShapes Go.ChangeAt Go.RowKit

/-- The reader's block. -/
def RdAt (w : World) (p : Nat) (s : ByteArray) (k : Int) (ok : Bool) : Prop :=
  w.heap[p]? = some (.cells #[.string s, .int .i64 k, .bool ok] 38 (0, 0))
theorem RdAt.lt {w : World} {p : Nat} {s : ByteArray} {k : Int} {ok : Bool} (h : RdAt w p s k ok) : p < w.heap.size := (Array.getElem?_eq_some_iff.1 h).1
theorem RdAt.c0 {w : World} {p : Nat} {s : ByteArray} {k : Int} {ok : Bool} (h : RdAt w p s k ok) : w.cell? ⟨p, 0, none⟩ = some (.string s) := by unfold RdAt at h; simp [World.cell?, h]
theorem RdAt.c1 {w : World} {p : Nat} {s : ByteArray} {k : Int} {ok : Bool} (h : RdAt w p s k ok) : w.cell? ⟨p, 1, none⟩ = some (.int .i64 k) := by unfold RdAt at h; simp [World.cell?, h]
theorem RdAt.c2 {w : World} {p : Nat} {s : ByteArray} {k : Int} {ok : Bool} (h : RdAt w p s k ok) : w.cell? ⟨p, 2, none⟩ = some (.bool ok) := by unfold RdAt at h; simp [World.cell?, h]
theorem RdAt.fz {w : World} {p : Nat} {s : ByteArray} {k : Int} {ok : Bool} (h : RdAt w p s k ok) (i : Nat) : w.frozen? ⟨p, i, none⟩ = false := by unfold RdAt at h; simp [World.frozen?, h]
theorem RdAt.set1 {w : World} {p : Nat} {s : ByteArray} {k : Int} {ok : Bool} (h : RdAt w p s k ok) (k' : Int) : RdAt (w.setCell ⟨p, 1, none⟩ (.int .i64 k')) p s k' ok := by
  unfold RdAt at *
  simp [World.setCell, Array.getElem?_modify, h]
theorem RdAt.set2 {w : World} {p : Nat} {s : ByteArray} {k : Int} {ok : Bool} (h : RdAt w p s k ok) (ok' : Bool) : RdAt (w.setCell ⟨p, 2, none⟩ (.bool ok')) p s k ok' := by
  unfold RdAt at *
  simp [World.setCell, Array.getElem?_modify, h]
theorem RdAt.keep {w w' : World} {p : Nat} {s : ByteArray} {k : Int} {ok : Bool} (h : RdAt w p s k ok) (hb : Below w.heap.size w w') : RdAt w' p s k ok := (hb.block p h.lt).trans h

/-- Of what was there nothing has turned but block p. -/
structure Fr (p : Nat) (w w' : World) : Prop where
  os : w'.os = w.os
  tape : w'.tape = w.tape
  output : w'.output = w.output
  size : w.heap.size ≤ w'.heap.size
  block : ∀ k, k < w.heap.size → k ≠ p → w'.heap[k]? = w.heap[k]?
theorem Fr.refl (p : Nat) (w : World) : Fr p w w := ⟨rfl, rfl, rfl, Nat.le_refl _, fun _ _ _ => rfl⟩
theorem Fr.trans {p : Nat} {a b c : World} (h : Fr p a b) (k : Fr p b c) : Fr p a c :=
  ⟨k.os.trans h.os, k.tape.trans h.tape, k.output.trans h.output, Nat.le_trans h.size k.size, fun i hi hp => (k.block i (Nat.lt_of_lt_of_le hi h.size) hp).trans (h.block i hi hp)⟩
theorem Fr.of_below {p : Nat} {a b : World} (h : Below a.heap.size a b) : Fr p a b := ⟨h.os, h.tape, h.output, h.size, fun i hi _ => h.block i hi⟩
theorem Fr.set {p : Nat} (w : World) (i : Nat) (v : Value) : Fr p w (w.setCell ⟨p, i, none⟩ v) :=
  ⟨rfl, rfl, rfl, by simp [World.setCell], fun k _ hk => Below.heap_setCell _ _ _ _ (by show k ≠ p; exact hk)⟩
theorem Fr.below {p : Nat} {a b : World} (h : Fr p a b) {B : Nat} (hp : B ≤ p) (hB : B ≤ a.heap.size) : Below B a b :=
  ⟨h.os, h.tape, h.output, h.size, fun i hi => h.block i (Nat.lt_of_lt_of_le hi hB) (by omega)⟩

/-- A row that is owned behind block p likewise. -/
theorem Fr.owns {p base : Nat} {a b : World} (h : Fr p a b) (hp : p < base) {e : TypeId} {size : Nat} {v : Value} {n : Nat} {xs : List Value} (ho : a.ownsRow base e size v n xs) : b.ownsRow base e size v n xs := by
  obtain ⟨h1, h2⟩ := ho
  refine ⟨h1, ?_⟩
  rcases h2 with h2 | ⟨g, cap, cur, rfl, h3, h4, h5⟩
  · exact .inl h2
  · exact .inr ⟨g, cap, cur, rfl, h3, (h.block g (Array.getElem?_eq_some_iff.1 h4).1 (by omega)).trans h4, h5⟩
theorem Fr.cell {p b o : Nat} {a c : World} {v : Value} (h : Fr p a c) (hb : b ≠ p) (hc : a.cell? ⟨b, o, none⟩ = some v) : c.cell? ⟨b, o, none⟩ = some v :=
  (cell_agree (h.block b (block_lt_of_cell hc) hb)).trans hc

end Go.Proofs.YtbmmghkieolpkaaGreatDoor.Sg

namespace Go.Proofs.YtbmmghkieolpkaaGreatDoor.Sg
open Go.ChangeShapes Go.WideShapes Go.ChangeAt Go.RowKit

/-- Attributes that lie in blocks of some kind. -/
def QP (P : Nat → Prop) (w : World) (v : Value) (l : List AttrB) : Prop := ∃ x c, v = .slice x l.length c ∧ (∀ b o m, x = some ⟨b, o, m⟩ → P b ∧ b < w.heap.size) ∧ AttrsAt w x l ∧ l.length ≤ c
theorem QP.stay {P : Nat → Prop} {w w' : World} {v : Value} {l : List AttrB} (h : QP P w v l) (hb : ∀ b, P b → b < w.heap.size → w'.heap[b]? = w.heap[b]?) (hs : w.heap.size ≤ w'.heap.size) : QP P w' v l := by
  obtain ⟨x, c, e, h1, h3, h6⟩ := h
  refine ⟨x, c, e, fun b o m h => ⟨(h1 b o m h).1, Nat.lt_of_lt_of_le (h1 b o m h).2 hs⟩, ?_, h6⟩
  rcases h3 with h3 | ⟨b', e', h4, h5⟩
  · exact .inl h3
  · subst e'
    have hc := hb b' (h1 _ _ _ rfl).1 h4
    exact .inr ⟨b', rfl, Nat.lt_of_lt_of_le h4 hs, fun k hk => ⟨(cell_agree hc).trans (h5 k hk).1, (cell_agree hc).trans (h5 k hk).2⟩⟩
theorem QP.wide {P P' : Nat → Prop} {w : World} {v : Value} {l : List AttrB} (h : QP P w v l) (hp : ∀ b, b < w.heap.size → P b → P' b) : QP P' w v l := by
  obtain ⟨x, c, e, h1, h3, h6⟩ := h
  exact ⟨x, c, e, fun b o m h => ⟨hp b (h1 b o m h).2 (h1 b o m h).1, (h1 b o m h).2⟩, h3, h6⟩
theorem QP.qa {lo : Nat} {w : World} {v : Value} {l : List AttrB} (h : QP (lo ≤ ·) w v l) : QA lo w v l := by
  obtain ⟨x, c, e, h1, h3, h6⟩ := h
  exact ⟨x, c, e, fun b o m h => (h1 b o m h).1, fun b o m h => (h1 b o m h).2, h3, h6⟩
theorem QP.nil (P : Nat → Prop) (w : World) : QP P w (.slice none 0 0) [] := ⟨none, 0, rfl, fun b o m h => (by cases h), .inl rfl, Nat.le_refl _⟩
/-- A row of attributes that is owned. -/
theorem QP.of_own {w : World} {base : Nat} {e : TypeId} {v : Value} {l : List AttrB} (h : w.ownsRow base e 2 v l.length (attrCells l)) : QP (base ≤ ·) w v l := by
  obtain ⟨x, c, e1, hA⟩ := attrs_of_own h
  rcases h.2 with ⟨e0, h0⟩ | ⟨g, cap, cur, e0, g3, g4, g5, _⟩
  · have hl : l = [] := List.eq_nil_of_length_eq_zero h0
    subst hl
    rw [e0]
    exact QP.nil _ _
  · rw [e0] at e1 ⊢
    injection e1 with e2 e3 e4
    subst e2
    exact ⟨_, cap, rfl, fun b o m h => (by cases h; exact ⟨g3, (Array.getElem?_eq_some_iff.1 g4).1⟩), hA, g5⟩

mutual
theorem ElIn.stayP {P : Nat → Prop} {w w' : World} (hb : ∀ b, P b → b < w.heap.size → w'.heap[b]? = w.heap[b]?) (hs : w.heap.size ≤ w'.heap.size) : ∀ (e : ElB) (b o : Nat), P b → ElIn (QP P) P w e b o → ElIn (QP P) P w' e b o
  | .mk kd sp nm ats tx ks, b, o, hP, h => by
    unfold ElIn at h ⊢
    obtain ⟨c0, c1, c2, ⟨av, c3, hq⟩, c4, ka, kc, c5, hk⟩ := h
    have hc := hb b hP (block_lt_of_cell c0)
    refine ⟨(cell_agree hc).trans c0, (cell_agree hc).trans c1, (cell_agree hc).trans c2, ⟨av, (cell_agree hc).trans c3, hq.stay hb hs⟩, (cell_agree hc).trans c4, ka, kc, (cell_agree hc).trans c5, ?_⟩
    rcases hk with h0 | ⟨kb, ko, e, hp, hk⟩
    · exact .inl h0
    · exact .inr ⟨kb, ko, e, hp, ElsIn.stayP hb hs ks kb ko hp hk⟩
theorem ElsIn.stayP {P : Nat → Prop} {w w' : World} (hb : ∀ b, P b → b < w.heap.size → w'.heap[b]? = w.heap[b]?) (hs : w.heap.size ≤ w'.heap.size) : ∀ (es : List ElB) (b o : Nat), P b → ElsIn (QP P) P w es b o → ElsIn (QP P) P w' es b o
  | [], _, _, _, _ => by unfold ElsIn; trivial
  | e :: es, b, o, hP, h => by
    unfold ElsIn at h ⊢
    exact ⟨ElIn.stayP hb hs e b o hP h.1, ElsIn.stayP hb hs es b (o + 6) hP h.2⟩
end
mutual
theorem ElIn.wideP {P P' : Nat → Prop} {w : World} (hp : ∀ b, b < w.heap.size → P b → P' b) : ∀ (e : ElB) (b o : Nat), ElIn (QP P) P w e b o → ElIn (QP P') P' w e b o
  | .mk kd sp nm ats tx ks, b, o, h => by
    unfold ElIn at h ⊢
    obtain ⟨c0, c1, c2, ⟨av, c3, hq⟩, c4, ka, kc, c5, hk⟩ := h
    refine ⟨c0, c1, c2, ⟨av, c3, hq.wide hp⟩, c4, ka, kc, c5, ?_⟩
    rcases hk with h0 | ⟨kb, ko, e, hP, hk⟩
    · exact .inl h0
    · cases ks with
      | nil => exact .inl rfl
      | cons x xs =>
        have hk' := hk
        unfold ElsIn at hk'
        have hlt : kb < w.heap.size := by
          have h1 := hk'.1
          obtain ⟨a1, a2, a3, a4, a5, a6⟩ := x
          unfold ElIn at h1
          exact block_lt_of_cell h1.1
        exact .inr ⟨kb, ko, e, hp kb hlt hP, ElsIn.wideP hp (x :: xs) kb ko hk⟩
theorem ElsIn.wideP {P P' : Nat → Prop} {w : World} (hp : ∀ b, b < w.heap.size → P b → P' b) : ∀ (es : List ElB) (b o : Nat), ElsIn (QP P) P w es b o → ElsIn (QP P') P' w es b o
  | [], _, _, _ => by unfold ElsIn; trivial
  | e :: es, b, o, h => by
    unfold ElsIn at h ⊢
    exact ⟨ElIn.wideP hp e b o h.1, ElsIn.wideP hp es b (o + 6) h.2⟩
end
/-- An element, all of it in blocks of some kind. -/
def ElP (P : Nat → Prop) (w : World) (v : Value) (e : ElB) : Prop := ElV (QP P) P w v e
theorem ElP.stay {P : Nat → Prop} {w w' : World} {v : Value} {e : ElB} (h : ElP P w v e) (hb : ∀ b, P b → b < w.heap.size → w'.heap[b]? = w.heap[b]?) (hs : w.heap.size ≤ w'.heap.size) : ElP P w' v e := by
  obtain ⟨kd, sp, nm, ats, tx, ks⟩ := e
  obtain ⟨av, ka, kc, e, hq, hk⟩ := h
  refine ⟨av, ka, kc, e, hq.stay hb hs, ?_⟩
  rcases hk with h0 | ⟨kb, ko, e, hp, hk⟩
  · exact .inl h0
  · exact .inr ⟨kb, ko, e, hp, ElsIn.stayP hb hs ks kb ko hp hk⟩
theorem ElP.wide {P P' : Nat → Prop} {w : World} {v : Value} {e : ElB} (h : ElP P w v e) (hp : ∀ b, b < w.heap.size → P b → P' b) : ElP P' w v e := by
  obtain ⟨kd, sp, nm, ats, tx, ks⟩ := e
  obtain ⟨av, ka, kc, ev, hq, hk⟩ := h
  refine ⟨av, ka, kc, ev, hq.wide hp, ?_⟩
  rcases hk with h0 | ⟨kb, ko, e, hP, hk⟩
  · exact .inl h0
  · cases ks with
    | nil => exact .inl rfl
    | cons x xs =>
      have hk' := hk
      unfold ElsIn at hk'
      have hlt : kb < w.heap.size := by
        have h1 := hk'.1
        obtain ⟨a1, a2, a3, a4, a5, a6⟩ := x
        unfold ElIn at h1
        exact block_lt_of_cell h1.1
      exact .inr ⟨kb, ko, e, hp kb hlt hP, ElsIn.wideP hp (x :: xs) kb ko hk⟩
/-- Where block p alone turns, and p is none of these. -/
theorem ElP.fr {P : Nat → Prop} {p : Nat} {w w' : World} {v : Value} {e : ElB} (h : ElP P w v e) (hf : Fr p w w') (hp : ¬ P p) : ElP P w' v e :=
  h.stay (fun b h1 h2 => hf.block b h2 (fun e => hp (e ▸ h1))) hf.size

end Go.Proofs.YtbmmghkieolpkaaGreatDoor.Sg

namespace Go.Proofs.YtbmmghkieolpkaaGreatDoor.Sg
open Go.ChangeShapes Go.WideShapes Go.ChangeAt Go.RowKit

/-- What is appended to lies where it lay, or in a new block. -/
theorem run_append_at {P : Program} (w : World) (base : Nat) (t ty e : TypeId) (i : TypeInfo) (z : Value) (size bytes : Nat) (ht : P.underlying t = some (.slice e)) (hi : P.info? e = some i) (hz : i.zero = some z)
    (hsize : i.size = size) (hby : i.bytes = bytes) (hzs : z.cells.size = size) (hsz : 0 < size)
    (v : Value) (n : Nat) (xs : List Value) (hown : w.ownsRow base e size v n xs)
    (a : Addr) (m c : Nat) (news : List Value) (hl : news.length = m * size) (hnews : ∀ j u, news[j]? = some u → w.cell? (a.add j) = some u) (h1 : ∀ u ∈ news, u.oneCell' = true)
    (h63 : n + m ≤ maxLen) (hbytes : (n + m) * bytes ≤ 140737488355328) (hbase : base ≤ w.heap.size) :
    ∃ v' w', (Builtin.append_ #[t, t] ty #[v, .slice (some a) m c]).run P w = .ok v' w' ∧ w'.ownsRow base e size v' (n + m) (xs ++ news) ∧ w.grownBy w' v.ownBlock ∧
      (∀ b, v'.ownBlock = some b → v.ownBlock = some b ∨ w.heap.size ≤ b) := by
  obtain ⟨v', w', hr, h2, h3, _⟩ := run_append_own (P := P) w base t ty e i z size bytes ht hi hz hsize hby hzs hsz v n xs hown a m c news hl hnews h1 h63 hbytes hbase
  refine ⟨v', w', hr, h2, h3, fun b hb => ?_⟩
  rcases hown.2 with ⟨rfl, rfl⟩ | ⟨g, cap, cur, rfl, hbg, hg, hnc, hcm, hcs, htake⟩
  · have hx : xs = [] := List.eq_nil_of_length_eq_zero (by simpa using hown.1)
    subst hx
    obtain ⟨v2, w2, hr2, k2, _⟩ := run_append_own (P := P) w w.heap.size t ty e i z size bytes ht hi hz hsize hby hzs hsz (.slice none 0 0) 0 [] (World.ownsRow_nil w _ e size) a m c news hl hnews h1 h63 hbytes (Nat.le_refl _)
    rw [hr] at hr2
    cases hr2
    exact .inr (k2.lt b hb).1
  · by_cases hroom : n + m ≤ cap
    · have hfit : n * i.size + news.length ≤ cur.size := by rw [hl, hcs, hsize, ← Nat.add_mul]; exact Nat.mul_le_mul_right _ hroom
      have hr2 := run_append_room (P := P) w t ty e i ht hi g n cap cur hg a m c news (by rw [hsize]; exact hl) hnews h1 hroom hfit
      rw [hr] at hr2
      cases hr2
      exact .inl hb
    · have holds : ∀ j u, xs[j]? = some u → w.cell? ((⟨g, 0, none⟩ : Addr).add j) = some u := hown.cells (g := g) rfl
      obtain ⟨v2, w2, hr2, k2, _⟩ := run_append_arg_grows (P := P) w t ty e i z size bytes ht hi hz hsize hby hzs hsz ⟨g, 0, none⟩ n cap xs hown.1 holds a m c news hl hnews (by omega) h63 hbytes
      rw [hr] at hr2
      cases hr2
      exact .inr (k2.lt b hb).1

theorem wpList_append_at {P : Program} (w : World) {ops : Array Oper} {rest : List Oper} {o : Oper} {a : Act} {Q : Exit → Act → World → Prop} (hgd : o.guard = none) (s x : Operand) (t : TypeId)
    (ho : o.op = .call { callee := .builtin .append, args := #[s, x], argTypes := #[t, t] })
    (base : Nat) (e : TypeId) (i : TypeInfo) (z : Value) (size bytes : Nat) (ht : P.underlying t = some (.slice e)) (hi : P.info? e = some i) (hz : i.zero = some z)
    (hsize : i.size = size) (hby : i.bytes = bytes) (hzs : z.cells.size = size) (hsz : 0 < size)
    (v : Value) (n : Nat) (xs : List Value) (hs : a.eval s = v) (hown : w.ownsRow base e size v n xs)
    (ad : Addr) (m c : Nat) (news : List Value) (hx : a.eval x = .slice (some ad) m c) (hl : news.length = m * size) (hnews : ∀ j u, news[j]? = some u → w.cell? (ad.add j) = some u) (h1 : ∀ u ∈ news, u.oneCell' = true)
    (h63 : n + m ≤ maxLen) (hbytes : (n + m) * bytes ≤ 140737488355328) (hbase : base ≤ w.heap.size)
    (h : ∀ v' w', w'.ownsRow base e size v' (n + m) (xs ++ news) → w.grownBy w' v.ownBlock → (∀ b, v'.ownBlock = some b → v.ownBlock = some b ∨ w.heap.size ≤ b) → wpList P ops Q rest (a.put o.dst v') w') : wpList P ops Q (o :: rest) a w := by
  obtain ⟨v', w', hrun, r1, r2, r3⟩ := run_append_at (P := P) w base t o.type e i z size bytes ht hi hz hsize hby hzs hsz v n xs hown ad m c news hl hnews h1 h63 hbytes hbase
  refine wpList_plain hgd fun K hK => ?_
  unfold Oper.wp
  simp [execOp, ho, resolve, invoke, builtin, hs, hx, hrun, Result.andThen]
  exact hK _ _ (h v' w' r1 r2 r3)

end Go.Proofs.YtbmmghkieolpkaaGreatDoor.Sg

namespace Go.Proofs.YtbmmghkieolpkaaGreatDoor.Sg
open Go.ChangeShapes Go.WideShapes Go.ChangeAt Go.RowKit

theorem info_el : (Tryz.prog.info? 25).map (fun i => (i.zero, i.size, i.bytes)) = some (some (.agg #[.int .i64 0, .int .i64 0, .string ⟨#[]⟩, .slice none 0 0, .string ⟨#[]⟩, .slice none 0 0]), 6, 96) := by kernel_rfl
/-- The value of six cells. -/
def sixV (C : List Value) (i : Nat) : Value := .agg #[C.getD (i * 6) undef, C.getD (i * 6 + 1) undef, C.getD (i * 6 + 2) undef, C.getD (i * 6 + 3) undef, C.getD (i * 6 + 4) undef, C.getD (i * 6 + 5) undef]
theorem getD_old {C D : List Value} {j : Nat} (h : j < C.length) : (C ++ D).getD j undef = C.getD j undef := by
  simp only [List.getD_eq_getElem?_getD]
  rw [List.getElem?_append_left h]
theorem getD_new {C D : List Value} {j : Nat} : (C ++ D).getD (C.length + j) undef = D.getD j undef := by
  simp only [List.getD_eq_getElem?_getD]
  rw [List.getElem?_append_right (by omega), show C.length + j - C.length = j by omega]

end Go.Proofs.YtbmmghkieolpkaaGreatDoor.Sg
