/- Attributes that came in. Elements that came in. Contracts of the laws' szEl, szElS. The laws' attributes, laid anew. A block of some cells that may be written. The laws' elements, laid anew: one, where its kids are. Written by mk_elto.py. -/
import Derived.Test.YtbmmghkieolpkaaGreatDoorLwToA
import Derived.Deep.SlicePairs
import Derived.OpenShut
import Derived.Test.YtbmmghkieolpkaaGreatDoorElMem
import Derived.Test.YtbmmghkieolpkaaGreatDoorSgOk
import Derived.Below
namespace Go.Proofs.YtbmmghkieolpkaaGreatDoor.Sg
open Go.ChangeShapes Go.WideShapes Go.ChangeAt Go.RowKit

def strOf : Value → ByteArray
  | .string s => s
  | _ => ⟨#[]⟩
theorem add_plain (b off i : Nat) : (⟨b, off, none⟩ : Addr).add i = ⟨b, off + i, none⟩ := by unfold Addr.add; split <;> simp_all
theorem cell_block {w : World} {b i : Nat} {v : Value} (h : w.cell? ⟨b, i, none⟩ = some v) : b < w.heap.size := by
  rcases Nat.lt_or_ge b w.heap.size with g | g
  · exact g
  · simp [World.cell?, Array.getElem?_eq_none g] at h

end Go.Proofs.YtbmmghkieolpkaaGreatDoor.Sg

namespace Go.Proofs.YtbmmghkieolpkaaGreatDoor.Sg
open Go.ChangeShapes Go.WideShapes Go.ChangeAt Go.RowKit

theorem lies_in : Lies SlAttrsIn := ⟨fun h hb => h.keep hb, fun ⟨a, c, e, _⟩ => ⟨a, c, e⟩⟩
/-- A slice of elements. -/
def SlEls (W : World) (v : Value) (l : List ElB) : Prop := ∃ ka kc, v = .slice ka l.length kc ∧ KidsIn SlAttrsIn anyB W ka l
def el0 : ElB := .mk 0 0 ⟨#[]⟩ [] ⟨#[]⟩ []

end Go.Proofs.YtbmmghkieolpkaaGreatDoor.Sg

namespace Go.Proofs.YtbmmghkieolpkaaGreatDoor.Sg
open Go.ChangeShapes Go.WideShapes Go.ChangeAt Go.RowKit

theorem elsW_drop : ∀ (es : List ElB) (k : Nat) (h : k < es.length), elsW (es.drop k) = elW (es[k]'h) + elsW (es.drop (k + 1))
  | [], k, h => absurd h (by simp)
  | e :: es, 0, _ => by simp [elsW]
  | e :: es, k + 1, h => by
    have := elsW_drop es k (by simpa using h)
    simpa using this
end Go.Proofs.YtbmmghkieolpkaaGreatDoor.Sg

namespace Go.Proofs.YtbmmghkieolpkaaGreatDoor.Sg
open Go.ChangeShapes Go.WideShapes Go.ChangeAt Go.RowKit

theorem own_of_list {w : World} {B g n z : Nat} {e : TypeId} {f : Nat → Value} {xs : List Value} (hB : B ≤ g) (hm : n ≤ maxLen) (h : w.rowIs g e (n * z) f) (hl : xs.length = n * z) (hf : ∀ j, j < n * z → xs[j]? = some (f j)) :
    w.ownsRow B e z (.slice (some ⟨g, 0, none⟩) n n) n xs := by
  obtain ⟨c, hb, hc, hv⟩ := h
  refine ⟨hl, .inr ⟨g, n, c, rfl, hB, hb, Nat.le_refl _, hm, hc, ?_⟩⟩
  apply List.ext_getElem?
  intro j
  by_cases hj : j < n * z
  · rw [List.getElem?_take_of_lt hj, Array.getElem?_toList, hv j hj, hf j hj]
  · rw [List.getElem?_eq_none (by simp; omega), List.getElem?_eq_none (by omega)]

theorem info_attr' : (Tryz.prog.info? 73).map (fun i => (i.zero, i.size, i.bytes)) = some (some (.agg #[.string ⟨#[]⟩, .string ⟨#[]⟩]), 2, 32) := by kernel_rfl

theorem make_attrs (n : Nat) (hn : n ≤ 1099511627776) (w : World) :
    (Instr.makeSlice 22 (.int .i64 (n : Int)) (.int .i64 (n : Int))).run Tryz.prog w = .ok (.slice (some ⟨w.heap.size, 0, none⟩) n n) (w.alloc (.cells (madeCells #[.string ⟨#[]⟩, .string ⟨#[]⟩] (n * 2)) 73)) := by
  obtain ⟨i, hi, hz, hs, hb⟩ := info_parts info_attr'
  have hr := run_make (P := Tryz.prog) w 22 73 i _ Tryz.underlying22 hi hz .i64 .i64 n n (by omega) (Int.le_refl _) (by rw [hb]; omega) (by omega)
  simp only [Int.toNat_natCast, hs] at hr
  exact hr

theorem made_two (w : World) (z : Value) (m : Nat) (t : TypeId) : (w.alloc (.cells (madeCells #[z, z] m) t)).rowIs w.heap.size t m (fun _ => z) := by
  have h := World.rowIs_alloc w (madeCells #[z, z] m) t (fun _ => z) (fun i hi => by
    rw [size_madeCells] at hi
    have h2 : i % 2 = 0 ∨ i % 2 = 1 := by omega
    rcases h2 with h2 | h2 <;> simp [madeCells, hi, h2])
  rw [size_madeCells] at h
  exact h

theorem attrs_get {l : List AttrB} {k : Nat} (h : k < l.length) : (attrCells l)[k * 2]? = some (.string (l[k]'h).1) ∧ (attrCells l)[k * 2 + 1]? = some (.string (l[k]'h).2) := by
  have e : l.getD k (ByteArray.empty, ByteArray.empty) = l[k]'h := by simp [List.getD, h]
  rw [← e]
  exact attrCells_at l k h

end Go.Proofs.YtbmmghkieolpkaaGreatDoor.Sg

namespace Go.Proofs.YtbmmghkieolpkaaGreatDoor.Sg
open Go.ChangeShapes Go.WideShapes Go.ChangeAt Go.RowKit

/-- A block has n cells that may be written. -/
def Many (n : Nat) (w : World) (b : Nat) (f : Nat → Value) : Prop := b < w.heap.size ∧ ∀ i, i < n → w.cell? ⟨b, i, none⟩ = some (f i) ∧ w.frozen? ⟨b, i, none⟩ = false
theorem Many.set {n : Nat} {w : World} {b i : Nat} {f : Nat → Value} (h : Many n w b f) (v : Value) : Many n (w.setCell ⟨b, i, none⟩ v) b (fun j => if j = i then v else f j) := by
  refine ⟨by simpa using h.1, fun j hj => ⟨?_, by simpa using (h.2 j hj).2⟩⟩
  show _ = some (if j = i then v else f j)
  by_cases e : j = i
  · subst e
    rw [if_pos rfl]
    exact World.cell?_setCell_same _ _ _ (h.2 j hj).1
  · rw [if_neg e]
    exact (World.cell?_setCell_other _ _ _ _ (by intro e2; apply e; exact (congrArg Addr.off e2).symm)).trans (h.2 j hj).1
theorem Many.other {n : Nat} {w : World} {b c i : Nat} {f : Nat → Value} (h : Many n w b f) (hc : c ≠ b) (v : Value) : Many n (w.setCell ⟨c, i, none⟩ v) b f :=
  ⟨by simpa using h.1, fun j hj => ⟨(World.cell?_setCell_other _ _ _ _ (fun e => hc (congrArg Addr.block e))).trans (h.2 j hj).1, by simpa using (h.2 j hj).2⟩⟩
theorem Many.below {n : Nat} {w w' : World} {b B : Nat} {f : Nat → Value} (h : Many n w b f) (hB : b < B) (hb : Below B w w') : Many n w' b f :=
  ⟨Nat.lt_of_lt_of_le h.1 hb.size, fun j hj => ⟨(hb.cell hB).trans (h.2 j hj).1, (hb.frozen hB).trans (h.2 j hj).2⟩⟩
theorem Many.new (w : World) (xs : List Value) (t : TypeId) (d : Value) : Many xs.length (w.alloc (.cells xs.toArray t)) w.heap.size (fun i => xs.getD i d) := by
  refine ⟨by simp, fun j hj => ⟨?_, by simp⟩⟩
  rw [World.cell?_alloc_new, List.getElem?_toArray]
  simp [List.getD, hj]

end Go.Proofs.YtbmmghkieolpkaaGreatDoor.Sg

namespace Go.Proofs.YtbmmghkieolpkaaGreatDoor.Sg
open Go.ChangeShapes Go.WideShapes Go.ChangeAt Go.RowKit

/-- From some block on two worlds are one. -/
def Agr (lo : Nat) (w w' : World) : Prop := (∀ b, lo ≤ b → w'.heap[b]? = w.heap[b]?) ∧ w.heap.size ≤ w'.heap.size
theorem Agr.refl (lo : Nat) (w : World) : Agr lo w w := ⟨fun _ _ => rfl, Nat.le_refl _⟩
theorem Agr.trans {lo : Nat} {a b c : World} (h : Agr lo a b) (k : Agr lo b c) : Agr lo a c := ⟨fun x hx => (k.1 x hx).trans (h.1 x hx), Nat.le_trans h.2 k.2⟩
theorem Agr.set {lo c : Nat} (w : World) (i : Nat) (v : Value) (h : c < lo) : Agr lo w (w.setCell ⟨c, i, none⟩ v) := ⟨fun b hb => Below.heap_setCell _ _ _ _ (by show b ≠ c; omega), by simp [World.setCell]⟩
/-- Attributes that were laid from some block on. -/
def QA (lo : Nat) (w : World) (v : Value) (l : List AttrB) : Prop := ∃ x c, v = .slice x l.length c ∧ (∀ b o m, x = some ⟨b, o, m⟩ → lo ≤ b) ∧ (∀ b o m, x = some ⟨b, o, m⟩ → b < w.heap.size) ∧ AttrsAt w x l ∧ l.length ≤ c
theorem QA.lies (lo : Nat) : Lies (QA lo) := ⟨fun ⟨x, c, e, h1, h2, h3, h4⟩ hb => ⟨x, c, e, h1, fun b o m h => Nat.lt_of_lt_of_le (h2 b o m h) hb.size, h3.below hb, h4⟩, fun ⟨_, c, e, _⟩ => ⟨_, c, e⟩⟩
theorem QA.liesP (lo : Nat) : LiesP (QA lo) (lo ≤ ·) := ⟨fun {w w' v l} h hb hs => by
  obtain ⟨x, c, e, h1, h2, h3, h6⟩ := h
  refine ⟨x, c, e, h1, fun b o m h => Nat.lt_of_lt_of_le (h2 b o m h) hs, ?_, h6⟩
  rcases h3 with h3 | ⟨b', e', h4, h5⟩
  · exact .inl h3
  · subst e'
    have hc := hb b' (h1 _ _ _ rfl)
    exact .inr ⟨b', rfl, Nat.lt_of_lt_of_le h4 hs, fun k hk => ⟨(cell_agree hc).trans (h5 k hk).1, (cell_agree hc).trans (h5 k hk).2⟩⟩⟩
theorem QA.wider {lo lo' : Nat} (h : lo' ≤ lo) {w : World} {v : Value} {l : List AttrB} (hq : QA lo w v l) : QA lo' w v l := by
  obtain ⟨x, c, e, h1, h2, h3, h4⟩ := hq
  exact ⟨x, c, e, fun b o m hx => Nat.le_trans h (h1 b o m hx), h2, h3, h4⟩
mutual
/-- Lists that can be laid. -/
def ElLight : ElB → Prop
  | .mk _ _ _ ats _ ks => ats.length ≤ 1099511627776 ∧ ks.length ≤ 1099511627776 ∧ ElsLight ks
def ElsLight : List ElB → Prop
  | [] => True
  | e :: es => ElLight e ∧ ElsLight es
end
theorem ElsLight.get : ∀ {es : List ElB}, ElsLight es → ∀ e ∈ es, ElLight e
  | [], _, _, h => nomatch h
  | x :: xs, h, e, hm => by
    unfold ElsLight at h
    rcases List.mem_cons.1 hm with rfl | hm
    · exact h.1
    · exact h.2.get e hm

end Go.Proofs.YtbmmghkieolpkaaGreatDoor.Sg
