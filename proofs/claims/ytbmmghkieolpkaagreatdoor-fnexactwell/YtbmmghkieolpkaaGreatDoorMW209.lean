/- The program's valueAt, strictAttrAt, XmlAttr. The program's strictAttrAt and XmlAttr. The program's XmlAttr answers as the model's. Contracts of the program's attr and attrs. The program's XmlText, up to a byte 34 or 60, answers as the model's. Contracts of the program's pieces as its reader takes them: a note, a text, a name. What stands in the place of a byte that is escaped: a text; empty where the byte itself stands. No program in it. Contracts of the program's strictRef, Escape and SpaceName. Contracts of the program's spaceTold and besideSpace. What the program's reader hands back of an element, of kids, and what it holds while a tag is read. -/
import Derived.Test.YtbmmghkieolpkaaGreatDoorPcVal
import Derived.Test.YtbmmghkieolpkaaGreatDoorMW212
import Derived.Test.YtbmmghkieolpkaaGreatDoorMW207
import Derived.BigRegion
import Derived.Test.YtbmmghkieolpkaaGreatDoorMW208
import Derived.Test.YtbmmghkieolpkaaGreatDoorRqP
import Derived.Test.YtbmmghkieolpkaaGreatDoorMW211
import Derived.Test.YtbmmghkieolpkaaGreatDoorMW214
import Derived.Deep.Cut
import Derived.Deep.CutRange
import Derived.Deep.RegionHeld3
import Derived.Test.YtbmmghkieolpkaaGreatDoorMW204
import Derived.Test.YtbmmghkieolpkaaGreatDoorMW205
import Derived.Lib.QuietBelow
import Derived.BigQuiet
import Derived.Test.YtbmmghkieolpkaaGreatDoorMW202
import Derived.Test.YtbmmghkieolpkaaGreatDoorRpP
import Derived.Test.YtbmmghkieolpkaaGreatDoorAtNamed
import Derived.Deep.QuietTactic
namespace Go.Proofs.YtbmmghkieolpkaaGreatDoor.Sg
open Go.ChangeShapes Go.WideShapes Go.ChangeAt Go.RowKit

def endB : ByteArray := ⟨#[34, 9, 10]⟩
theorem end_ok : EndOk endB.data.toList := by
  intro b hb
  have h : b ∈ ([34, 9, 10] : List UInt8) := hb
  simp only [List.mem_cons, List.not_mem_nil, or_false] at h
  rcases h with rfl | rfl | rfl <;> simp
/-- The value and the place behind its last quote. -/
def valO (s : ByteArray) (k : Nat) : Option (ByteArray × Nat) := (valP s k).map fun r => (strB r.1, r.2 + 1)

set_option maxHeartbeats 4000000 in
theorem implValueAt (s : ByteArray) (k : Nat) (a : Addr) (w : World) (hk : k ≤ s.size) (hs : s.size ≤ 1073741824) (hX : PcX a w) :
    Calls Tryz.prog 119 #[.string s, .int .i64 (k : Int)] w fun e w' => (∃ j, e = .returned (prefV a j (valO s k))) ∧ Below w.heap.size w w' := by
  have HX : Hid (PcX a w) := hX
  clear hX
  have HT := textAt_in s k endB a w hk hs HX.out
  rw [← textP_eq end_ok hk, show endB.data.toList = [34, 9, 10] from rfl] at HT
  have Ho : Hid (valP s k = match xtextR s [34, 9, 10] k with
    | none => none
    | some r => if Lib.hasPrefix (tailL s r.2) [34] then some r else none) := rfl
  have hle := fun r h => xtextR_le s [34, 9, 10] s.size k r (by omega) hk h
  have HV : Hid (valO s k = (valP s k).map fun r => (strB r.1, r.2 + 1)) := rfl
  unfold endB at HT
  cases hx : xtextR s [34, 9, 10] k with
  | none =>
    have Hn : Hid (valO s k = none) := by show _ = _; rw [HV.out, Ho.out, hx]; rfl
    rw [hx] at HT
    clear Ho HV hle hx
    go_enter Tryz.func119, Tryz.ntmps119
    go_wp2_with fail
    refine HT.mono ?_
    rintro e w1 ⟨⟨j, rfl⟩, b1⟩
    clear HT
    have hv1 : w1.cell? ⟨0, 0, none⟩ = some (errV a) := HX.out.1.2.below b1
    rw [show prefV a j (strO none) = .tuple #[.string ⟨#[]⟩, .int .i64 j, errV a] from rfl]
    go_wp2_with fail
    go_quiet (fail)
    have bf := drew_kd b1 nq
    go_wp2_with fail
    go_ret3
    exact ⟨⟨_, ret_pref0 Hn.out⟩, bf⟩
  | some r =>
    obtain ⟨v, q⟩ := r
    have hq := hle _ hx
    simp only at hq
    have HP : ∀ W, Calls Tryz.prog 55 #[.string (s.extract q s.size), .string ⟨#[34]⟩] W fun e w' => e = .returned (.bool (Lib.hasPrefix (tailL s q) [34])) ∧ w' = W := fun W => by
      have := Tryz.strings_HasPrefix (s.extract q s.size) ⟨#[34]⟩ W
      rw [tail_bytes] at this
      exact this
    rw [hx] at HT
    have q1 : (q : Int) ≤ (s.size : Int) := by omega
    have q2 : IntKind.i64.wrap ((q : Int) + 1) = (q : Int) + 1 := IntWalk.i64_in _ (by omega)
    cases hp : Lib.hasPrefix (tailL s q) [34]
    · have Hn : Hid (valO s k = none) := by
        show _ = _
        rw [HV.out, Ho.out, hx]
        simp only
        rw [hp]
        rfl
      rw [hp] at HP
      clear Ho HV hle hx hp
      go_enter Tryz.func119, Tryz.ntmps119
      go_wp2_with fail
      refine HT.mono ?_
      rintro e w1 ⟨⟨j, rfl⟩, b1⟩
      clear HT
      have hv1 : w1.cell? ⟨0, 0, none⟩ = some (errV a) := HX.out.1.2.below b1
      rw [show prefV a j (strO (some (v, q))) = .tuple #[.string (strB v), .int .i64 (q : Int), .nilIface] from rfl]
      generalize strB v = V at *
      go_wp2_with fail
      refine (HP _).mono ?_
      rintro e w2 ⟨rfl, rfl⟩
      clear HP
      go_wp2_with fail
      go_quiet (fail)
      have bf := drew_kd b1 nq
      go_wp2_with fail
      go_ret3
      exact ⟨⟨_, ret_pref0 Hn.out⟩, bf⟩
    · have Hn : Hid (valO s k = some (strB v, q + 1)) := by
        show _ = _
        rw [HV.out, Ho.out, hx]
        simp only
        rw [hp]
        rfl
      rw [hp] at HP
      clear Ho HV hle hx hp
      go_enter Tryz.func119, Tryz.ntmps119
      go_wp2_with fail
      refine HT.mono ?_
      rintro e w1 ⟨⟨j, rfl⟩, b1⟩
      clear HT
      rw [show prefV a j (strO (some (v, q))) = .tuple #[.string (strB v), .int .i64 (q : Int), .nilIface] from rfl]
      generalize strB v = V at *
      go_wp2_with fail
      refine (HP _).mono ?_
      rintro e w2 ⟨rfl, rfl⟩
      clear HP
      go_wp2_with fail
      go_ret3
      exact ⟨⟨0, ret_pref Hn.out (by rfl)⟩, b1⟩
end Go.Proofs.YtbmmghkieolpkaaGreatDoor.Sg

namespace Go.Proofs.YtbmmghkieolpkaaGreatDoor.Sg
open Go.ChangeShapes Go.WideShapes Go.ChangeAt Go.RowKit

/-- What strictAttrAt tells. -/
def pattrV (a : Addr) (x y : ByteArray) (j : Int) : Option (ByteArray × ByteArray × Nat) → Value
  | some r => .tuple #[.agg #[.string r.1, .string r.2.1], .int .i64 (r.2.2 : Int), .nilIface]
  | none => .tuple #[.agg #[.string x, .string y], .int .i64 j, errV a]
def attrO (s : ByteArray) (k : Nat) : Option (ByteArray × ByteArray × Nat) := (xattrR s k).map fun r => (s.extract k r.1, strB r.2.1, r.2.2 + 1)
theorem ret_pattr {a : Addr} {x y : ByteArray} {j : Int} {o : Option (ByteArray × ByteArray × Nat)} {n v : ByteArray} {m : Nat} {V : Value} (h : o = some (n, v, m)) (hv : V = .tuple #[.agg #[.string n, .string v], .int .i64 (m : Int), .nilIface]) : Ending.returned V = .returned (pattrV a x y j o) := by rw [h, hv]; rfl
theorem ret_pattr0 {a : Addr} {x y : ByteArray} {j : Int} {o : Option (ByteArray × ByteArray × Nat)} (h : o = none) : Ending.returned (.tuple #[.agg #[.string x, .string y], .int .i64 j, errV a]) = .returned (pattrV a x y j o) := by rw [h]; rfl
theorem eq_tail {s : ByteArray} {p : Nat} (h : p ≤ s.size) : standsB s p eqB = Lib.hasPrefix (tailL s p) [61, 34] := by
  obtain ⟨e, hl⟩ := ptail_all s p h
  have h1 := stands_pre (s.data.toList.take p) (tailL s p) [61, 34]
  rw [hl, ← e] at h1
  exact h1

set_option maxHeartbeats 4000000 in
theorem strictAttr_out (s : ByteArray) (i : Int) (a : Addr) (w : World) (h : i < 0 ∨ (s.size : Int) < i) (hX : PcX a w) :
    Calls Tryz.prog 100 #[.string s, .int .i64 i] w fun e w' => (∃ x y j, e = .returned (pattrV a x y j none)) ∧ Below w.heap.size w w' := by
  have HX : Hid (PcX a w) := hX
  have HX1 : Hid (PcX a (w.alloc (.cells #[.string ⟨#[]⟩, .string ⟨#[]⟩] 73))) := hX.below ((Below.refl _ _).alloc (Nat.le_refl _) _)
  have HN := xmlName_out s i a _ (by omega) HX1.out.1
  clear h hX
  go_enter Tryz.func100, Tryz.ntmps100
  go_wp2_with fail
  refine HN.mono ?_
  rintro e w1 ⟨rfl, b1⟩
  have X : Hid (Box2 _ w.heap.size) := Box2.of b1
  have B : Hid (Below w.heap.size w _) := below_box b1
  have hv1 : w1.cell? ⟨0, 0, none⟩ = some (errV a) := HX.out.1.2.below B.out
  clear b1 HN
  go_wp2_with fail
  have hg : 0 < w.heap.size := Classical.byContradiction fun h => by
    have h1 := HX.out.1.2
    unfold ErrA at h1
    simp [World.cell?, show w.heap[0]? = none from Array.getElem?_eq_none (by omega)] at h1
  obtain ⟨hx, hy, hf, hg', hs0, hs1⟩ := X.out
  go_region
  go_wp2_with fail
  refine bodyPost_ret (v := .tuple #[.agg #[.string ⟨#[]⟩, .string ⟨#[]⟩], .int .i64 i, errV a]) ?_ rfl ⟨⟨_, _, _, rfl⟩, ((B.out.setCell (Nat.le_refl _) _).setCell (Nat.le_refl _) _).drew⟩
  have t0 := hs0 (.string ⟨#[]⟩) (.string ⟨#[]⟩)
  have t1 := hs1 (.string ⟨#[]⟩) (.string ⟨#[]⟩)
  simp [results, Tryz.results100, go_sem, t0, t1]
theorem err_place {a : Addr} {w : World} (h : ErrA a w) : 0 < w.heap.size := Classical.byContradiction fun hn => by
  unfold ErrA at h
  simp [World.cell?, show w.heap[0]? = none from Array.getElem?_eq_none (by omega)] at h

set_option maxRecDepth 20000 in
set_option maxHeartbeats 8000000 in
theorem strictAttr_in (s : ByteArray) (k : Nat) (a : Addr) (w : World) (hk : k ≤ s.size) (hs : s.size ≤ 1073741824) (hX : PcX a w) :
    Calls Tryz.prog 100 #[.string s, .int .i64 (k : Int)] w fun e w' => (∃ x y j, e = .returned (pattrV a x y j (attrO s k))) ∧ Below w.heap.size w w' := by
  have HX : Hid (PcX a w) := hX
  have HX1 : Hid (PcX a (w.alloc (.cells #[.string ⟨#[]⟩, .string ⟨#[]⟩] 73))) := hX.below ((Below.refl _ _).alloc (Nat.le_refl _) _)
  have HN := xmlName_in s k a _ hk hs HX1.out.1
  have hle := xnameE_le s s.size k true (by omega) hk
  have HA : Hid (attrO s k = (xattrR s k).map fun r => (s.extract k r.1, strB r.2.1, r.2.2 + 1)) := rfl
  have HP := xattr_prog hk
  have hg := err_place hX.1.2
  clear hX
  generalize xnameE s true k = n at *
  by_cases hnk : n = k
  · have Hn : Hid (attrO s k = none) := by show _ = _; rw [HA.out, HP, if_pos (.inl hnk)]; rfl
    subst hnk
    rw [extract_none] at HN
    clear HA HP
    go_enter Tryz.func100, Tryz.ntmps100
    go_wp2_with fail
    refine HN.mono ?_
    rintro e w1 ⟨rfl, b1⟩
    have X : Hid (Box2 _ w.heap.size) := Box2.of b1
    have B : Hid (Below w.heap.size w _) := below_box b1
    have hv1 : w1.cell? ⟨0, 0, none⟩ = some (errV a) := HX.out.1.2.below B.out
    clear b1 HN
    go_wp2_with fail
    obtain ⟨hx, hy, hf, hg', hs0, hs1⟩ := X.out
    go_region
    go_wp2_with fail
    refine bodyPost_ret (v := .tuple #[.agg #[.string ⟨#[]⟩, .string ⟨#[]⟩], .int .i64 (n : Int), errV a]) ?_ rfl ⟨⟨_, _, _, ret_pattr0 Hn.out⟩, ((B.out.setCell (Nat.le_refl _) _).setCell (Nat.le_refl _) _).drew⟩
    have t0 := hs0 (.string ⟨#[]⟩) (.string ⟨#[]⟩)
    have t1 := hs1 (.string ⟨#[]⟩) (.string ⟨#[]⟩)
    simp [results, Tryz.results100, go_sem, t0, t1]
  · have hnm : ((s.extract k n).toList == []) = false := by
      rw [beq_eq_false_iff_ne, ByteArray.toList_eq]
      intro h
      have h2 := congrArg List.length h
      rw [Array.length_toList] at h2
      have h3 : (s.extract k n).size = 0 := h2
      rw [ByteArray.size_extract] at h3
      omega
    have HH : ∀ W, Calls Tryz.prog 55 #[.string (s.extract n s.size), .string ⟨#[61, 34]⟩] W fun e w' => e = .returned (.bool (standsB s n eqB)) ∧ w' = W := fun W => by
      have h := Tryz.strings_HasPrefix (s.extract n s.size) ⟨#[61, 34]⟩ W
      rw [tail_bytes] at h
      rw [eq_tail hle.2]
      exact h
    have q1 : (n : Int) ≤ (s.size : Int) := by omega
    cases hst : standsB s n eqB
    · have Hn : Hid (attrO s k = none) := by show _ = _; rw [HA.out, HP, if_pos (.inr hst)]; rfl
      rw [hst] at HH
      clear HA HP hst
      generalize s.extract k n = nm at *
      go_enter Tryz.func100, Tryz.ntmps100
      go_wp2_with fail
      refine HN.mono ?_
      rintro e w1 ⟨rfl, b1⟩
      have X : Hid (Box2 _ w.heap.size) := Box2.of b1
      have B : Hid (Below w.heap.size w _) := below_box b1
      have hv1 : w1.cell? ⟨0, 0, none⟩ = some (errV a) := HX.out.1.2.below B.out
      clear b1 HN
      go_wp2_with fail
      refine (HH _).mono ?_
      rintro e w2 ⟨rfl, rfl⟩
      clear HH
      go_wp2_with fail
      obtain ⟨hx, hy, hf, hg', hs0, hs1⟩ := X.out
      go_region
      go_wp2_with fail
      refine bodyPost_ret (v := .tuple #[.agg #[.string ⟨#[]⟩, .string ⟨#[]⟩], .int .i64 (k : Int), errV a]) ?_ rfl ⟨⟨_, _, _, ret_pattr0 Hn.out⟩, ((B.out.setCell (Nat.le_refl _) _).setCell (Nat.le_refl _) _).drew⟩
      have t0 := hs0 (.string ⟨#[]⟩) (.string ⟨#[]⟩)
      have t1 := hs1 (.string ⟨#[]⟩) (.string ⟨#[]⟩)
      simp [results, Tryz.results100, go_sem, t0, t1]
    · have h2 : n + 2 ≤ s.size := stands_le hst
      have Hd : Hid (attrO s k = (valP s (n + 2)).map fun r => (s.extract k n, strB r.1, r.2 + 1)) := by
        show _ = _
        rw [HA.out, HP, if_neg (fun h => h.elim hnk (fun h => by rw [hst] at h; cases h)), Option.map_map]
        rfl
      have HV := fun W h => implValueAt s (n + 2) a W h2 hs h
      rw [show ((n + 2 : Nat) : Int) = (n : Int) + 2 by omega] at HV
      have HVo : Hid (valO s (n + 2) = (valP s (n + 2)).map fun r => (strB r.1, r.2 + 1)) := rfl
      have q2 : IntKind.i64.wrap ((n : Int) + 2) = (n : Int) + 2 := IntWalk.i64_in _ (by omega)
      rw [hst] at HH
      clear HA HP hst
      generalize s.extract k n = nm at *
      cases ho : valP s (n + 2) with
      | none =>
        have Hn : Hid (attrO s k = none) := by show _ = _; rw [Hd.out, ho]; rfl
        rw [HVo.out, ho] at HV
        clear Hd HVo ho
        go_enter Tryz.func100, Tryz.ntmps100
        go_wp2_with fail
        refine HN.mono ?_
        rintro e w1 ⟨rfl, b1⟩
        have B0 := below_box b1
        go_wp2_with fail
        refine (HH _).mono ?_
        rintro e w2 ⟨rfl, rfl⟩
        clear HH
        go_wp2_with fail
        refine (HV _ (HX.out.below B0)).mono ?_
        rintro e w3 ⟨⟨j, rfl⟩, b3⟩
        have b4 := b1.trans (b3.mono b1.size)
        have X : Hid (Box2 _ w.heap.size) := Box2.of b4
        have B : Hid (Below w.heap.size w _) := below_box b4
        clear b1 b3 b4 B0 HN HV
        rw [show prefV a j (none.map fun r : List UInt8 × Nat => (strB r.1, r.2 + 1)) = .tuple #[.string ⟨#[]⟩, .int .i64 j, errV a] from rfl]
        obtain ⟨hx, hy, hf, hg', hs0, hs1⟩ := X.out
        go_wp2_with fail
        refine bodyPost_ret (v := .tuple #[.agg #[.string nm, .string ⟨#[]⟩], .int .i64 j, errV a]) ?_ rfl ⟨⟨_, _, _, ret_pattr0 Hn.out⟩, (B.out.setCell (Nat.le_refl _) _).setCell (Nat.le_refl _) _⟩
        have t0 := hs0 (.string nm) (.string ⟨#[]⟩)
        have t1 := hs1 (.string nm) (.string ⟨#[]⟩)
        simp [results, Tryz.results100, go_sem, t0, t1]
      | some r =>
        obtain ⟨v, q⟩ := r
        have Hn : Hid (attrO s k = some (nm, strB v, q + 1)) := by show _ = _; rw [Hd.out, ho]; rfl
        rw [HVo.out, ho] at HV
        clear Hd HVo ho
        go_enter Tryz.func100, Tryz.ntmps100
        go_wp2_with fail
        refine HN.mono ?_
        rintro e w1 ⟨rfl, b1⟩
        have B0 := below_box b1
        go_wp2_with fail
        refine (HH _).mono ?_
        rintro e w2 ⟨rfl, rfl⟩
        clear HH
        go_wp2_with fail
        refine (HV _ (HX.out.below B0)).mono ?_
        rintro e w3 ⟨⟨j, rfl⟩, b3⟩
        have b4 := b1.trans (b3.mono b1.size)
        have X : Hid (Box2 _ w.heap.size) := Box2.of b4
        have B : Hid (Below w.heap.size w _) := below_box b4
        clear b1 b3 b4 B0 HN HV
        rw [show prefV a j ((some (v, q)).map fun r : List UInt8 × Nat => (strB r.1, r.2 + 1)) = .tuple #[.string (strB v), .int .i64 ((q + 1 : Nat) : Int), .nilIface] from rfl]
        generalize strB v = V at *
        obtain ⟨hx, hy, hf, hg', hs0, hs1⟩ := X.out
        go_wp2_with fail
        refine bodyPost_ret (v := .tuple #[.agg #[.string nm, .string V], .int .i64 ((q + 1 : Nat) : Int), .nilIface]) ?_ rfl ⟨⟨nm, V, 0, ret_pattr Hn.out rfl⟩, (B.out.setCell (Nat.le_refl _) _).setCell (Nat.le_refl _) _⟩
        have t0 := hs0 (.string nm) (.string V)
        have t1 := hs1 (.string nm) (.string V)
        simp [results, Tryz.results100, go_sem, t0, t1]

end Go.Proofs.YtbmmghkieolpkaaGreatDoor.Sg

namespace Go.Proofs.YtbmmghkieolpkaaGreatDoor.Sg
open Go.ChangeShapes Go.WideShapes Go.ChangeAt Go.RowKit

end Go.Proofs.YtbmmghkieolpkaaGreatDoor.Sg

namespace Go.Proofs.YtbmmghkieolpkaaGreatDoor.Sg
open Go.ChangeShapes Go.WideShapes Go.ChangeAt Go.RowKit

theorem Fr.setN {p c i : Nat} {w X : World} (v : Value) (h : Fr p w X) (hc : w.heap.size ≤ c) : Fr p w (X.setCell ⟨c, i, none⟩ v) :=
  ⟨h.os, h.tape, h.output, by simpa [World.setCell] using h.size, fun k hk hp => (Below.heap_setCell _ _ _ _ (by show k ≠ c; omega)).trans (h.block k hk hp)⟩
theorem Rq.setN {a : Addr} {p c i : Nat} {s : ByteArray} {k : Int} {X : World} (v : Value) (h : Rq a p s k X) (hc : p < c) : Rq a p s k (X.setCell ⟨c, i, none⟩ v) := by
  refine ⟨(Below.heap_setCell _ _ _ _ (by show p ≠ c; omega)).trans h.1, ?_⟩
  obtain ⟨W0, h1, h2, h3⟩ := h.2
  exact ⟨W0, h1, h2, h3.setCell (by show W0.heap.size ≤ c; omega) _⟩
theorem Rq.grown {a : Addr} {p B : Nat} {X Y : World} {s : ByteArray} {k : Int} {e : TypeId} {z : Nat} {v : Value} {n : Nat} {xs : List Value} (h : Rq a p s k X) (ho : X.ownsRow B e z v n xs) (hg : X.grownBy Y v.ownBlock) (hp : p < B) : Rq a p s k Y := by
  refine ⟨(hg.block p h.1.lt (fun e => absurd (own_base ho e.symm) (Nat.not_le_of_lt hp))).trans h.1, ?_⟩
  obtain ⟨W0, h1, h2, h3⟩ := h.2
  exact ⟨W0, h1, h2, h3.grown hg h3.size (fun j hj => by have := own_base ho hj; omega)⟩
theorem Two.fr {p b : Nat} {w w' : World} {x y : Value} (h : Two w b x y) (hf : Fr p w w') (hb : b ≠ p) : Two w' b x y := by
  have e := hf.block b h.1 hb
  exact ⟨Nat.lt_of_lt_of_le h.1 hf.size, (cell_agree e).trans h.2.1, (cell_agree e).trans h.2.2.1, by rw [← h.2.2.2.1]; simp [World.frozen?, e], by rw [← h.2.2.2.2]; simp [World.frozen?, e]⟩

/-- What strictAttrAt tells. -/
def AttrTold (a : Addr) (o : Option (ByteArray × ByteArray × Nat)) (x y : ByteArray) (j : Int) (er : Value) : Prop :=
  (∃ n v m, o = some (n, v, m) ∧ x = n ∧ y = v ∧ j = ((m : Nat) : Int) ∧ er = .nilIface) ∨ (o = none ∧ er = errV a)

set_option maxRecDepth 20000 in
set_option maxHeartbeats 4000000 in
theorem implAttr (a : Addr) (p : Nat) (s : ByteArray) (k : Nat) (w : World) (h : Rq a p s (k : Int) w) (hk : k ≤ s.size) (hs : s.size ≤ 1073741824) :
    Calls Tryz.prog 75 #[.pointer (some ⟨p, 0, none⟩)] w fun e w' => ((∃ n v j, attrO s k = some (n, v, j) ∧ e = .returned (.agg #[.string n, .string v]) ∧ Rq a p s (j : Int) w') ∨ (attrO s k = none ∧ e = PanE a)) ∧ Fr p w w' := by
  have HX : Hid (∀ W, Below w.heap.size w W → Calls Tryz.prog 100 #[.string s, .int .i64 (k : Int)] W fun e w' => (∃ x y j er, AttrTold a (attrO s k) x y j er ∧ e = .returned (.tuple #[.agg #[.string x, .string y], .int .i64 j, er])) ∧ Below W.heap.size W w') := fun W hW => (strictAttr_in s k a W hk hs (h.2.x.below hW)).mono fun e w' hh => by
    obtain ⟨⟨x, y, j, rfl⟩, hb⟩ := hh
    refine ⟨?_, hb⟩
    cases attrO s k with
    | none => exact ⟨x, y, j, _, .inr ⟨rfl, rfl⟩, rfl⟩
    | some r => exact ⟨r.1, r.2.1, r.2.2, _, .inl ⟨r.1, r.2.1, r.2.2, rfl, rfl, rfl, rfl, rfl⟩, rfl⟩
  have hp := h.1.lt
  have B1 : Below w.heap.size w (w.alloc (.cells #[.string ⟨#[]⟩, .string ⟨#[]⟩] 73)) := (Below.refl _ _).alloc (Nat.le_refl _) _
  have H : Hid (Rq a p s (k : Int) (w.alloc (.cells #[.string ⟨#[]⟩, .string ⟨#[]⟩] 73))) := h.keep B1
  have HB : Hid (Below w.heap.size w (w.alloc (.cells #[.string ⟨#[]⟩, .string ⟨#[]⟩] 73))) := B1
  have HT : Hid (Two (w.alloc (.cells #[.string ⟨#[]⟩, .string ⟨#[]⟩] 73)) w.heap.size (.string ⟨#[]⟩) (.string ⟨#[]⟩)) := Two.new _ _ _ _
  have hgp : w.heap.size ≠ p := by omega
  clear h B1
  generalize attrO s k = o at *
  go_enter Tryz.func75, Tryz.ntmps75
  go_upto_region 1 with fail
  generalize w.alloc (.cells #[.string ⟨#[]⟩, .string ⟨#[]⟩] 73) = w1 at *
  obtain ⟨c0, c1, _, hpl⟩ := H.out.facts
  have hgp1 : w1.heap.size ≠ p := Nat.ne_of_gt hpl
  have HBd : Hid (∀ W, Below w1.heap.size w1 W → Below w.heap.size w W) := fun W hW => HB.out.trans (hW.mono HB.out.size)
  go_cut [3, 4, 5] (fun r q er wx => ∃ (g : Nat) (x y : ByteArray) (j : Int), r = .pointer (some ⟨g, 0, none⟩) ∧ q = .int .i64 j ∧ AttrTold a o x y j er ∧ wx.cell? ⟨g, 0, none⟩ = some (.string x) ∧ wx.cell? ⟨g, 1, none⟩ = some (.string y) ∧ w1.heap.size ≤ g ∧ ∃ W : World, W = wx ∧ Below w1.heap.size w1 W)
  case first =>
    go_region_held3 (fun w' => w'.cell? ⟨p, 0, none⟩ = some (.string s) ∧ w'.cell? ⟨p, 1, none⟩ = some (.int .i64 (k : Int))) (first | exact ⟨c0, c1⟩ | (go_split_ands; exact ⟨cell_set2 hgp1 (by assumption), cell_set2 hgp1 (by assumption)⟩) | (go_split_ands; exact ⟨cell_al (by assumption), cell_al (by assumption)⟩) | (exact ⟨cell_al (keep_cell hb' (by first | exact c0 | exact keep_cell (Below.refl _ _).drew c0)), cell_al (keep_cell hb' (by first | exact c1 | exact keep_cell (Below.refl _ _).drew c1))⟩) | (go_split_ands; exact ⟨keep_cell hb' (by assumption), keep_cell hb' (by assumption)⟩) | go_keep) (first | (go_at_call 100; refine (HX.out _ (HBd.out _ (by first | exact Below.refl _ _ | exact (Below.refl _ _).drew | exact ((Below.refl _ _).alloc (Nat.le_refl _) _).drew | exact (Below.refl _ _).drew.alloc (Nat.le_refl _) _))).mono ?_; rintro r w' ⟨⟨x, y, j, er, hq, rfl⟩, hb'⟩; first | (have hbz : Below (w1.alloc (.cells #[.string ⟨#[]⟩, .string ⟨#[]⟩] 73)).drew.heap.size (w1.alloc (.cells #[.string ⟨#[]⟩, .string ⟨#[]⟩] 73)).drew w' := (by with_reducible exact hb'); obtain ⟨y0, y1, y2, y3⟩ := pair_kept_drew hbz) | skip))
    · have hP := pair_new (x := .string x) (y := .string y) (t := 73) hb'
      have HP : Hid _ := hP
      have HQ : Hid (AttrTold a o x y j er) := hq
      clear hP hq
      go_wp2_with fail
      go_meet
      case rel =>
        obtain ⟨g, e1, e2, e3, e4, e5⟩ := HP.out
        exact ⟨g, x, y, j, e1, rfl, HQ.out, e2, e3, e4, _, rfl, e5⟩
    · have hP := pair_old (x := .string x) (y := .string y) hbz y0 y1
      have HP : Hid _ := hP
      have HQ : Hid (AttrTold a o x y j er) := hq
      clear hP hq
      go_wp2_with fail
      go_meet
      case rel =>
        obtain ⟨g, e1, e2, e3, e4, e5⟩ := HP.out
        exact ⟨g, x, y, j, e1, rfl, HQ.out, e2, e3, e4, _, rfl, e5⟩
  case rest =>
    obtain ⟨g, x, y, j, rfl, rfl, hq, d0, d1, hg, w2, rfl, b2⟩ := hcut
    have HF2 : Hid (Fr p w w2) := Fr.of_below (HBd.out _ b2)
    have HR2 : Hid (Rq a p s (k : Int) w2) := H.out.keep b2
    have HT2 : Hid (Two w2 w.heap.size (.string ⟨#[]⟩) (.string ⟨#[]⟩)) := HT.out.below HT.out.1 b2
    have hg2 : g ≠ p := by omega
    have hgw : g ≠ w.heap.size := by have := HT.out.1; omega
    clear H HB HBd HT HX c0 c1 b2
    rcases hq with ⟨n, v, m, rfl, rfl, rfl, rfl, rfl⟩ | ⟨rfl, rfl⟩
    · have HP := pass_yes a p s _ ((m : Nat) : Int) w2 HR2.out
      have HD : Hid (w2.cell? ⟨g, 0, none⟩ = some (.string x) ∧ w2.cell? ⟨g, 1, none⟩ = some (.string y)) := ⟨d0, d1⟩
      clear d0 d1
      go_wp2_with fail
      refine HP.mono ?_
      rintro e w3 ⟨rfl, R3, F3⟩
      have d0 := F3.cell hg2 HD.out.1
      have d1 := F3.cell hg2 HD.out.2
      have HR3 : Hid (Rq a p s ((m : Nat) : Int) w3) := R3
      have HF3 : Hid (Fr p w w3) := HF2.out.trans F3
      have T3 := HT2.out.fr F3 hgp
      obtain ⟨t0, t1, t2, t3, t4⟩ := T3
      have HT4 : Hid (Two _ w.heap.size (.string x) (.string y)) := Two.set ⟨t0, t1, t2, t3, t4⟩ (.string x) (.string y)
      clear HP HD HR2 HF2 HT2 R3 F3
      go_wp2_with fail
      refine bodyPost_ret (v := .agg #[.string x, .string y]) ?_ rfl ⟨.inl ⟨x, y, m, rfl, rfl, (HR3.out.setN _ (by omega)).setN _ (by omega)⟩, (HF3.out.setN _ (Nat.le_refl _)).setN _ (Nat.le_refl _)⟩
      obtain ⟨_, u1, u2, _, _⟩ := HT4.out
      simp [results, Tryz.results75, go_sem, u1, u2]
    · clear d0 d1
      go_wp2_with fail
      refine (pass_no a p _ _).mono ?_
      rintro e w3 ⟨rfl, rfl⟩
      go_wp2_with fail
      refine ⟨rfl, ?_, HF2.out⟩
      first | exact rfl | exact .inr rfl | exact .inr ⟨trivial, rfl⟩ | exact .inr ⟨rfl, rfl⟩

/-- What is told of an attribute, by the place behind it. -/
theorem attrO_cases (s : ByteArray) (k : Nat) (h : k + 1 ≤ s.size) : (attrO s (k + 1) = none ∧ xaI s ((k : Int) + 1) < 0) ∨ ∃ m : Nat, attrO s (k + 1) = some (xaN s ((k : Int) + 1), xaV s ((k : Int) + 1), m) ∧ xaI s ((k : Int) + 1) = (m : Int) ∧ k + 2 ≤ m ∧ m ≤ s.size := by
  have e : ((k : Int) + 1).toNat = k + 1 := by omega
  have h0 : 0 ≤ (k : Int) + 1 ∧ (k : Int) + 1 ≤ s.size := by omega
  by_cases hx : xaI s ((k : Int) + 1) < 0
  · left
    refine ⟨?_, hx⟩
    unfold xaI xaO at hx
    unfold attrO
    rw [if_pos h0, e] at hx
    cases hr : xattrR s (k + 1) with
    | none => rfl
    | some r =>
      rw [hr] at hx
      have h2 : ((r.2.2 + 1 : Nat) : Int) < 0 := hx
      omega
  · right
    obtain ⟨m, em, hm1, hm2, _⟩ := xaI_le hx
    refine ⟨m, ?_, em, hm1, hm2⟩
    unfold xaI xaN xaV xaO at *
    unfold attrO
    rw [if_pos h0, e] at em hx ⊢
    cases hr : xattrR s (k + 1) with
    | none =>
      rw [hr] at hx
      exact absurd (by decide) hx
    | some r =>
      rw [hr] at em
      have h2 : ((r.2.2 + 1 : Nat) : Int) = (m : Int) := em
      have h3 : r.2.2 + 1 = m := by omega
      subst h3
      rfl
def rqLeft (s : ByteArray) (p : Nat) (w : World) : Nat := s.size + 2 - (intOf ((w.cell? ⟨p, 1, none⟩).getD undef)).toNat
theorem rqLeft_at {w : World} {p : Nat} {s : ByteArray} {k : Nat} (h : RqAt w p s (k : Int)) : rqLeft s p w = s.size + 2 - k := by
  unfold rqLeft
  rw [h.c1]
  rfl

/-- All attributes that stand at a place, each of another name, and where they end. -/
def unlikeO : Option (List AttrB × Nat) → Option (List AttrB × Nat)
  | none => none
  | some r => if unlikeB r.1 = true then some r else none
def attrsT (s : ByteArray) (k : Nat) : Option (List AttrB × Nat) := unlikeO (rawA s (s.size + 1) k)
theorem unlikeO_no {r : List AttrB × Nat} (h : unlikeB r.1 = false) : unlikeO (some r) = none := by unfold unlikeO; simp [h]
theorem unlikeO_yes {r : List AttrB × Nat} (h : unlikeB r.1 = true) : unlikeO (some r) = some r := by unfold unlikeO; simp [h]
theorem attrsQ_eq (s : ByteArray) (about : Int) (i : Nat) : attrsQ s about i = match attrsT s i with
    | none => none
    | some r => (toldX about r.1).map fun sp => (besideA r.1, sp, r.2) := by
  unfold attrsQ attrsT unlikeO
  cases rawA s (s.size + 1) i with
  | none => rfl
  | some r =>
    simp only
    cases unlikeB r.1 <;> rfl
theorem raw_step (s : ByteArray) (f i : Nat) : rawA s (f + 1) i = if standsB s i ⟨#[32]⟩ = true then (match attrO s (i + 1) with
    | none => none
    | some r => (rawA s f r.2.2).map fun q => ((r.1, r.2.1) :: q.1, q.2)) else some ([], i) := by
  rw [rawA]
  by_cases h : standsB s i ⟨#[32]⟩ = true
  · rw [if_pos h, if_pos ((stands_one s i 32).1 h)]
    have h1 := stands_le h
    have u : (⟨#[32]⟩ : ByteArray).size = 1 := rfl
    rw [u] at h1
    rcases attrO_cases s i h1 with ⟨h2, h3⟩ | ⟨m, h2, h3, _⟩
    · rw [if_pos h3, h2]
    · rw [if_neg (not_neg h3), h2, h3]
      rfl
  · rw [if_neg h, if_neg (fun e => h ((stands_one s i 32).2 e))]
theorem raw_more {l : List AttrB} {x : AttrB} {o : Option (List AttrB × Nat)} : (o.map fun q => (x :: q.1, q.2)).map (fun r => (l ++ r.1, r.2)) = o.map fun r => ((l ++ [x]) ++ r.1, r.2) := by
  cases o <;> simp

set_option maxRecDepth 20000 in
set_option maxHeartbeats 4000000 in
theorem implAttrsR (a : Addr) (p : Nat) (s : ByteArray) (k : Nat) (w : World) (h : Rq a p s (k : Int) w) (hk : k ≤ s.size) (hs : s.size ≤ 1048576) :
    Calls Tryz.prog 43 #[.pointer (some ⟨p, 0, none⟩)] w fun e w' => ((∃ l j v, attrsT s k = some (l, j) ∧ e = .returned v ∧ l.length ≤ s.size ∧ k ≤ j ∧ j ≤ s.size ∧ w'.ownsRow w.heap.size 73 2 v l.length (attrCells l) ∧ Rq a p s (j : Int) w') ∨ (attrsT s k = none ∧ e = PanE a)) ∧ Fr p w w' := by
  obtain ⟨i0, hi0, hz0, hz1, hz2⟩ := info_parts info_pairR
  have Hi : Hid (Tryz.prog.info? 73 = some i0) := hi0
  have Hz0 : Hid (i0.zero = some (.agg #[.string ⟨#[]⟩, .string ⟨#[]⟩])) := hz0
  have Hz1 : Hid (i0.size = 2) := hz1
  have Hz2 : Hid (i0.bytes = 32) := hz2
  obtain ⟨R, HR⟩ : ∃ R, Hid (rawA s (s.size + 1) k = R) := ⟨_, rfl⟩
  have HT : Hid (attrsT s k = unlikeO R) := by
    show _ = _
    unfold attrsT
    rw [HR.out]
  have HR1 : Hid ((rawA s (s.size + 1) k).map (fun r => ([] ++ r.1, r.2)) = R) := by
    show _ = _
    rw [← HR.out]
    cases rawA s (s.size + 1) k <;> simp
  have H0 : Hid (Rq a p s (k : Int) w) := h
  have hp := h.1.lt
  rw [HT.out]
  clear HT
  clear hi0 hz0 hz1 hz2 h HR
  go_enter Tryz.func43, Tryz.ntmps43
  go_wp2_with fail
  go_loopw [3] (fun ov wr => ∃ (l : List AttrB) (f j : Nat), k ≤ j ∧ j ≤ s.size ∧ s.size + 1 ≤ f + j ∧ l.length ≤ j ∧ Hid ((rawA s f j).map (fun r => (l ++ r.1, r.2)) = R) ∧ Hid (Rq a p s (j : Int) wr) ∧ Hid (Fr p w wr) ∧ Hid (wr.ownsRow w.heap.size 73 2 ov l.length (attrCells l))) (fun _ wr => rqLeft s p wr)
  case atStart => exact ⟨[], s.size + 1, k, Nat.le_refl _, hk, by omega, Nat.zero_le _, HR1, H0, Fr.refl _ _, World.ownsRow_nil _ _ _ _⟩
  case round =>
    obtain ⟨l, f, j, hkj, hj, hf, hl, HR, HQ, HF, HO⟩ := hrel
    obtain ⟨f', rfl⟩ : ∃ f', f = f' + 1 := ⟨f - 1, by omega⟩
    have HM : Hid (rqLeft s p _ = s.size + 2 - j) := rqLeft_at HQ.out.1
    have hst := raw_step s f' j
    clear HR1 H0
    cases hb : standsB s j ⟨#[32]⟩
    · rw [hb, if_neg (by decide)] at hst
      have HRe : Hid (some (l, j) = R) := by
        show _ = _
        rw [← HR.out, hst]
        simp
      have HT := takes_no a p s ⟨#[32]⟩ j _ HQ.out hj hb
      clear HR hst hb HQ HM
      go_wp2_with fail
      refine HT.mono ?_
      rintro e w2 ⟨rfl, R2, F2⟩
      have HR2 : Hid (Rq a p s (j : Int) w2) := R2
      have HF2 : Hid (Fr p w w2) := HF.out.trans F2
      have HO2 : Hid (w2.ownsRow w.heap.size 73 2 _ l.length (attrCells l)) := F2.owns hp HO.out
      obtain ⟨x, c, ev, hat⟩ := attrs_of_own HO2.out
      subst ev
      have HU := implUnlike l x l.length c w2 hat rfl (by omega)
      clear HT R2 F2 HF HO hat
      go_wp2_with fail
      refine HU.mono ?_
      rintro e w3 ⟨rfl, b3⟩
      have HR3 : Hid (Rq a p s (j : Int) w3) := HR2.out.keep b3
      have HF3 : Hid (Fr p w w3) := HF2.out.trans (Fr.of_below b3)
      have HO3 : Hid (w3.ownsRow w.heap.size 73 2 (.slice x l.length c) l.length (attrCells l)) := owns_below HO2.out (Nat.le_refl _) b3
      have hE := HR3.out.2.x.1.2
      clear HU HR2 HF2 HO2 b3
      cases hu : unlikeB l
      · go_wp2_with fail
        refine (must_no a _ hE).mono ?_
        rintro e w4 ⟨rfl, rfl⟩
        go_wp2_with fail
        exact ⟨rfl, .inr ⟨by rw [← HRe.out]; exact unlikeO_no hu, rfl⟩, HF3.out⟩
      · go_wp2_with fail
        refine (must_yes _).mono ?_
        rintro e w4 ⟨rfl, rfl⟩
        go_wp2_with fail
        go_ret
        exact ⟨.inl ⟨l, j, _, by rw [← HRe.out]; exact unlikeO_yes hu, rfl, by omega, hkj, hj, HO3.out, HR3.out⟩, HF3.out⟩
    · rw [hb, if_pos rfl] at hst
      have hj1 := stands_le hb
      have u : (⟨#[32]⟩ : ByteArray).size = 1 := rfl
      rw [u] at hj1
      have HT := takes_yes a p s ⟨#[32]⟩ j _ HQ.out hj (by omega) (by rw [u]; omega) hb
      rw [u] at HT
      have hac := attrO_cases s j hj1
      clear hb HQ
      go_wp2_with fail
      refine HT.mono ?_
      rintro e w2 ⟨rfl, R2, F2⟩
      have HF2 : Hid (Fr p w w2) := HF.out.trans F2
      have HO2 : Hid (w2.ownsRow w.heap.size 73 2 _ l.length (attrCells l)) := F2.owns hp HO.out
      have HA := implAttr a p s (j + 1) w2 R2 hj1 (by omega)
      clear HT R2 F2 HF HO
      go_wp2_with fail
      refine HA.mono ?_
      rintro e w3 ⟨hcase, F3⟩
      have HF3 : Hid (Fr p w w3) := HF2.out.trans F3
      have HO3 : Hid (w3.ownsRow w.heap.size 73 2 _ l.length (attrCells l)) := F3.owns hp HO2.out
      clear HA HF2 HO2 F3
      rcases hcase with ⟨n, v, m, ha, rfl, R3⟩ | ⟨ha, rfl⟩
      · rw [ha] at hst
        have hm : j + 2 ≤ m ∧ m ≤ s.size := by
          rcases hac with ⟨h1, _⟩ | ⟨m', h1, h2, h3, h4⟩
          · rw [ha] at h1
            cases h1
          · rw [ha] at h1
            cases h1
            exact ⟨h3, h4⟩
        have HRn : Hid ((rawA s f' m).map (fun r => ((l ++ [(n, v)]) ++ r.1, r.2)) = R) := by
          show _ = _
          rw [← HR.out, hst]
          exact raw_more.symm
        have HR3 : Hid (Rq a p s (m : Int) w3) := R3
        have bA := (Below.refl w3.heap.size w3).alloc (Nat.le_refl _) (.cells #[.string n, .string v] 73)
        have O4 := HO3.out.alloc (.cells #[.string n, .string v] 73)
        have HR4 : Hid (Rq a p s (m : Int) (w3.alloc (.cells #[.string n, .string v] 73))) := R3.keep bA
        have F4 : Fr p w (w3.alloc (.cells #[.string n, .string v] 73)) := HF3.out.trans (Fr.of_below bA)
        have HF4 : Hid (Fr p w (w3.alloc (.cells #[.string n, .string v] 73))) := F4
        have hc5 := F4.size
        clear HR hst ha R3 bA HR3 HF3 HO3 hac F4
        go_wp2_with (at_builtin; refine wpList_append_own _ rfl (.tmp 6) (.tmp 9) 22 rfl w.heap.size 73 i0 (.agg #[.string ⟨#[]⟩, .string ⟨#[]⟩]) 2 32 Tryz.underlying22 Hi.out Hz0.out Hz1.out Hz2.out rfl (by decide) _ l.length (attrCells l) rfl O4 ⟨_, 0, none⟩ 1 1 [.string n, .string v] rfl rfl (two_cells _ _ _ _ _ (by simp)) (two_one _ _) ?c3 ?c4 ?c5 ?_)
        case c3 => unfold maxLen; omega
        case c4 => omega
        case c5 => exact hc5
        intro v' w5 ho5 hg5 _
        have HO5 : Hid (w5.ownsRow w.heap.size 73 2 v' (l ++ [(n, v)]).length (attrCells (l ++ [(n, v)]))) := by
          show World.ownsRow _ _ _ _ _ _ _
          rw [List.length_append, attrCells_more]
          exact ho5
        have HF5 : Hid (Fr p w w5) := HF4.out.grown O4 hg5
        have HR5 : Hid (Rq a p s (m : Int) w5) := HR4.out.grown O4 hg5 hp
        clear ho5 hg5 O4 HR4 HF4 hc5
        go_wp2_with fail
        go_roundw
        case rel => exact ⟨l ++ [(n, v)], f', m, by omega, hm.2, by omega, by rw [List.length_append]; show l.length + 1 ≤ m; omega, HRn, HR5, HF5, HO5⟩
        case measure =>
          rw [rqLeft_at HR5.out.1, HM.out]
          omega
      · rw [ha] at hst
        have HRe : Hid (none = R) := by
          show _ = _
          rw [← HR.out, hst]
          rfl
        clear HR hst ha hac
        go_wp2_with fail
        exact ⟨rfl, .inr ⟨by rw [← HRe.out]; rfl, rfl⟩, HF3.out⟩

end Go.Proofs.YtbmmghkieolpkaaGreatDoor.Sg

namespace Go.Proofs.YtbmmghkieolpkaaGreatDoor.Sg
open Go.ChangeShapes Go.WideShapes Go.ChangeAt Go.RowKit

end Go.Proofs.YtbmmghkieolpkaaGreatDoor.Sg

namespace Go.Proofs.YtbmmghkieolpkaaGreatDoor.Sg
open Go.ChangeShapes Go.WideShapes Go.ChangeAt Go.RowKit

set_option maxHeartbeats 2000000 in
theorem implNote (a : Addr) (p : Nat) (s : ByteArray) (k : Nat) (w : World) (h : Rq a p s (k : Int) w) (hk : k ≤ s.size) (hs : s.size ≤ 1073741824) :
    Calls Tryz.prog 56 #[.pointer (some ⟨p, 0, none⟩)] w fun e w' => ((∃ t j, noteO s k = some (t, j) ∧ e = .returned (.string t) ∧ Rq a p s (j : Int) w') ∨ (noteO s k = none ∧ e = PanE a)) ∧ Fr p w w' := by
  have HN : ∀ W, Below w.heap.size w W → Calls Tryz.prog 83 #[.string s, .int .i64 (k : Int)] W fun e w' => e = .returned (prefV a k (noteO s k)) ∧ Below W.heap.size W w' := fun W hW => noteAt_in s k a W hk hs (h.2.x.below hW)
  have H : Hid (Rq a p s (k : Int) w) := h
  obtain ⟨c0, c1, _, hp⟩ := h.facts
  have z0 := cell_regrown c0
  have z1 := cell_regrown c1
  clear h
  generalize noteO s k = o at *
  cases o with
  | none =>
    have cN := fun d os => Calls.regrown_of (w := w) (HN (Sort.grow (redrawn w d) os) (below_regrown w d os))
    rw [show prefV a k none = .tuple #[.string ⟨#[]⟩, .int .i64 k, errV a] from rfl] at cN
    clear HN
    go_enter Tryz.func56, Tryz.ntmps56
    go_upto_region 1 with fail
    refine wp_region_quiet_below (by kernel_rfl) (by kernel_rfl) ?_
    repeat (go_big_quiet_step (first | exact cN _ _))
    refine wpQuiet_nil ?_
    intro _ hw'
    obtain ⟨⟨dq, osq⟩, hw''⟩ := hw'
    subst hw''
    have HF : Hid (Fr p w (Sort.grow (redrawn w dq) osq)) := Fr.of_below (below_regrown w dq osq)
    clear H c0 c1 z0 z1 cN
    generalize Sort.grow (redrawn w dq) osq = w1 at *
    go_wp2_with fail
    refine (pass_no a p _ _).mono ?_
    rintro e w2 ⟨rfl, rfl⟩
    go_wp2_with fail
    exact ⟨rfl, .inr ⟨trivial, rfl⟩, HF.out⟩
  | some r =>
    obtain ⟨t, j⟩ := r
    have cN := fun d os => Calls.regrown_of (w := w) (HN (Sort.grow (redrawn w d) os) (below_regrown w d os))
    rw [show prefV a k (some (t, j)) = .tuple #[.string t, .int .i64 (j : Int), .nilIface] from rfl] at cN
    clear HN
    go_enter Tryz.func56, Tryz.ntmps56
    go_upto_region 1 with fail
    refine wp_region_quiet_below (by kernel_rfl) (by kernel_rfl) ?_
    repeat (go_big_quiet_step (first | exact cN _ _))
    refine wpQuiet_nil ?_
    intro _ hw'
    obtain ⟨⟨dq, osq⟩, hw''⟩ := hw'
    subst hw''
    have HF : Hid (Fr p w (Sort.grow (redrawn w dq) osq)) := Fr.of_below (below_regrown w dq osq)
    have HR := H.out.keep (below_regrown w dq osq)
    clear H c0 c1 z0 z1 cN
    generalize Sort.grow (redrawn w dq) osq = w1 at *
    have HP := pass_yes a p s _ (j : Int) w1 HR
    clear HR
    go_wp2_with fail
    refine HP.mono ?_
    rintro e w2 ⟨rfl, R2, F2⟩
    have H2 : Hid (Rq a p s (j : Int) w2 ∧ Fr p w w2) := ⟨R2, HF.out.trans F2⟩
    clear R2 F2 HP
    go_wp2_with fail
    go_ret
    exact ⟨.inl ⟨_, _, rfl, rfl, H2.out.1⟩, H2.out.2⟩

set_option maxHeartbeats 2000000 in
theorem implText (a : Addr) (p : Nat) (s : ByteArray) (k : Nat) (w : World) (h : Rq a p s (k : Int) w) (hk : k ≤ s.size) (hs : s.size ≤ 1073741824) :
    Calls Tryz.prog 57 #[.pointer (some ⟨p, 0, none⟩)] w fun e w' => ((∃ t j, strO (xtextR s [60] k) = some (t, j) ∧ e = .returned (.string t) ∧ Rq a p s (j : Int) w') ∨ (strO (xtextR s [60] k) = none ∧ e = PanE a)) ∧ Fr p w w' := by
  have hE : EndOk [60] := fun b hb => .inr (.inr (.inr (by simpa using hb)))
  have HT : ∀ W, Below w.heap.size w W → Calls Tryz.prog 85 #[.string s, .int .i64 (k : Int), .string ⟨#[60]⟩] W fun e w' => (∃ j, e = .returned (prefV a j (strO (xtextR s [60] k)))) ∧ Below W.heap.size W w' := fun W hW => by
    have C := textAt_in s k ⟨#[60]⟩ a W hk hs (h.2.x.below hW)
    rw [← textP_eq (e := ⟨#[60]⟩) hE hk] at C
    exact C
  have H : Hid (Rq a p s (k : Int) w) := h
  obtain ⟨c0, c1, _, hp⟩ := h.facts
  clear h hE
  generalize strO (xtextR s [60] k) = o at *
  cases o with
  | none =>
    have HU : Hid (∀ W, Below w.heap.size w W → Calls Tryz.prog 85 #[.string s, .int .i64 (k : Int), .string ⟨#[60]⟩] W fun e w' => (∃ j, e = .returned (.tuple #[.string ⟨#[]⟩, .int .i64 j, errV a])) ∧ Below W.heap.size W w') := HT
    clear HT
    go_enter Tryz.func57, Tryz.ntmps57
    go_upto_region 1 with fail
    go_region_with (go_at_call 85; refine Calls.mono (HU.out _ (by first | exact Below.refl _ _ | exact (Below.refl _ _).drew | exact (Below.refl _ _).drew.drew | exact (Below.refl _ _).drew.drew.drew)) ?_; rintro e w1 ⟨⟨j, rfl⟩, hb'⟩)
    all_goals
      have HF : Hid (Fr p w w1) := Fr.of_below (by first | exact hb' | exact ((Below.refl w.heap.size w).drew).trans hb' | exact ((Below.refl w.heap.size w).drew.drew).trans hb')
      clear hb' H c0 c1 HU
      go_wp2_with fail
      refine (pass_no a p _ _).mono ?_
      rintro e w2 ⟨rfl, rfl⟩
      go_wp2_with fail
      exact ⟨rfl, .inr ⟨trivial, rfl⟩, HF.out⟩
  | some r =>
    obtain ⟨t, j⟩ := r
    have z0 := cell_regrown c0
    have z1 := cell_regrown c1
    have cN : ∀ d os, _ := fun d os => Calls.regrown_of (w := w) (v := .tuple #[.string t, .int .i64 (j : Int), .nilIface]) ((HT (Sort.grow (redrawn w d) os) (below_regrown w d os)).mono fun e w' h => ⟨by obtain ⟨j', h1⟩ := h.1; exact h1, h.2⟩)
    clear HT
    go_enter Tryz.func57, Tryz.ntmps57
    go_upto_region 1 with fail
    refine wp_region_quiet_below (by kernel_rfl) (by kernel_rfl) ?_
    repeat (go_big_quiet_step (first | exact cN _ _))
    refine wpQuiet_nil ?_
    intro _ hw'
    obtain ⟨⟨dq, osq⟩, hw''⟩ := hw'
    subst hw''
    have HF : Hid (Fr p w (Sort.grow (redrawn w dq) osq)) := Fr.of_below (below_regrown w dq osq)
    have HR := H.out.keep (below_regrown w dq osq)
    clear H c0 c1 z0 z1 cN
    generalize Sort.grow (redrawn w dq) osq = w1 at *
    have HP := pass_yes a p s _ (j : Int) w1 HR
    clear HR
    go_wp2_with fail
    refine HP.mono ?_
    rintro e w2 ⟨rfl, R2, F2⟩
    have H2 : Hid (Rq a p s (j : Int) w2 ∧ Fr p w w2) := ⟨R2, HF.out.trans F2⟩
    clear R2 F2 HP
    go_wp2_with fail
    go_ret
    exact ⟨.inl ⟨_, _, rfl, rfl, H2.out.1⟩, H2.out.2⟩

set_option maxHeartbeats 2000000 in
theorem implName (a : Addr) (p : Nat) (s : ByteArray) (k : Nat) (w : World) (h : Rq a p s (k : Int) w) (hs : s.size ≤ 1073741824) :
    Calls Tryz.prog 42 #[.pointer (some ⟨p, 0, none⟩)] w fun e w' => (((xnS s (k : Int)).size ≠ 0 ∧ e = .returned (.string (xnS s (k : Int))) ∧ Rq a p s (xnI s (k : Int)) w') ∨ ((xnS s (k : Int)).size = 0 ∧ e = PanE a)) ∧ Fr p w w' := by
  have HN : ∀ W, Below w.heap.size w W → Calls Tryz.prog 74 #[.string s, .int .i64 (k : Int)] W fun e w' => e = .returned (.tuple #[.string (xnS s (k : Int)), .int .i64 (xnI s (k : Int))]) ∧ Below W.heap.size W w' := fun W hW => implXmlName s k a W hs (h.2.x.below hW).1
  have H : Hid (Rq a p s (k : Int) w) := h
  obtain ⟨c0, c1, _, hp⟩ := h.facts
  have z0 := cell_regrown c0
  have z1 := cell_regrown c1
  clear h
  generalize xnS s (k : Int) = nm at *
  generalize xnI s (k : Int) = j at *
  have cN := fun d os => Calls.regrown_of (w := w) (HN (Sort.grow (redrawn w d) os) (below_regrown w d os))
  clear HN
  by_cases hn : nm.size = 0
  · have en : nm = ⟨#[]⟩ := by
      obtain ⟨d⟩ := nm
      have : d = #[] := Array.eq_empty_of_size_eq_zero hn
      rw [this]
    subst en
    have HN0 : Hid ((⟨#[]⟩ : ByteArray).size = 0) := hn
    clear hn
    go_enter Tryz.func42, Tryz.ntmps42
    go_upto_region 1 with fail
    refine wp_region_quiet_below (by kernel_rfl) (by kernel_rfl) ?_
    repeat (go_big_quiet_step (first | exact cN _ _))
    refine wpQuiet_nil ?_
    intro _ hw'
    obtain ⟨⟨dq, osq⟩, hw''⟩ := hw'
    subst hw''
    have HF : Hid (Fr p w (Sort.grow (redrawn w dq) osq)) := Fr.of_below (below_regrown w dq osq)
    have hE := (H.out.2.x.below (below_regrown w dq osq)).1.2
    clear H c0 c1 z0 z1 cN
    generalize Sort.grow (redrawn w dq) osq = w1 at *
    go_wp2_with fail
    refine (must_no a _ hE).mono ?_
    rintro e w2 ⟨rfl, rfl⟩
    go_wp2_with fail
    exact ⟨rfl, .inr ⟨HN0.out, rfl⟩, HF.out⟩
  · have q0 : (nm.toList == []) = false := by
      rw [beq_eq_false_iff_ne]
      intro e
      apply hn
      rw [ByteArray.toList_eq] at e
      have := congrArg List.length e
      rw [Array.length_toList] at this
      exact this
    have q1 : (nm.toList != []) = true := by rw [bne, q0]; rfl
    have HN0 : Hid (nm.size ≠ 0) := hn
    clear hn
    go_enter Tryz.func42, Tryz.ntmps42
    go_upto_region 1 with fail
    refine wp_region_quiet_below (by kernel_rfl) (by kernel_rfl) ?_
    repeat (go_big_quiet_step (first | exact cN _ _))
    refine wpQuiet_nil ?_
    intro _ hw'
    obtain ⟨⟨dq, osq⟩, hw''⟩ := hw'
    subst hw''
    have HF : Hid (Fr p w (Sort.grow (redrawn w dq) osq)) := Fr.of_below (below_regrown w dq osq)
    have HR : Hid (Rq a p s (k : Int) (Sort.grow (redrawn w dq) osq)) := H.out.keep (below_regrown w dq osq)
    clear H c0 c1 z0 z1 cN
    generalize Sort.grow (redrawn w dq) osq = w1 at *
    obtain ⟨c0, c1, z, hp1⟩ := HR.out.facts
    have z1 := z 1
    have H2 : Hid (Rq a p s j (w1.setCell ⟨p, 1, none⟩ (.int .i64 j)) ∧ Fr p w (w1.setCell ⟨p, 1, none⟩ (.int .i64 j))) := ⟨HR.out.set j, HF.out.trans (Fr.set _ _ _)⟩
    clear HR HF
    go_wp2_with fail
    refine (must_yes _).mono ?_
    rintro e w2 ⟨rfl, rfl⟩
    go_wp2_with fail
    go_ret
    exact ⟨.inl ⟨HN0.out, rfl, H2.out.1⟩, H2.out.2⟩

end Go.Proofs.YtbmmghkieolpkaaGreatDoor.Sg

namespace Go.Proofs.YtbmmghkieolpkaaGreatDoor.Sg

end Go.Proofs.YtbmmghkieolpkaaGreatDoor.Sg

namespace Go.Proofs.YtbmmghkieolpkaaGreatDoor.Sg
open Go.ChangeShapes Go.WideShapes Go.ChangeAt Go.RowKit

theorem implSpaceName (n : Int) (w : World) :
    Calls Tryz.prog 78 #[.int .i64 n] w fun e w' => e = .returned (.string (spaceS n)) ∧ w' = w := by
  by_cases h0 : n = 0
  · subst h0
    go_enter Tryz.func78, Tryz.ntmps78
    go_wp2_with fail
    go_ret
    exact ⟨rfl, rfl⟩
  by_cases h1 : n = 1
  · subst h1
    go_enter Tryz.func78, Tryz.ntmps78
    go_wp2_with fail
    go_ret
    exact ⟨rfl, rfl⟩
  by_cases h2 : n = 2
  · subst h2
    go_enter Tryz.func78, Tryz.ntmps78
    go_wp2_with fail
    go_ret
    exact ⟨rfl, rfl⟩
  have e0 : (n == 0) = false := beq_false_of_ne h0
  have e1 : (n == 1) = false := beq_false_of_ne h1
  have e2 : (n == 2) = false := beq_false_of_ne h2
  have es : spaceS n = ⟨#[]⟩ := by
    unfold spaceS
    rw [if_neg h0, if_neg h1, if_neg h2]
  rw [es]
  go_enter Tryz.func78, Tryz.ntmps78
  go_wp2_with fail
  go_ret
  exact ⟨rfl, rfl⟩

end Go.Proofs.YtbmmghkieolpkaaGreatDoor.Sg

namespace Go.Proofs.YtbmmghkieolpkaaGreatDoor.Sg
open Go.ChangeShapes Go.WideShapes Go.ChangeAt Go.RowKit

/-- The first space but about whose name a text is, from place k on. -/
def tailX (about : Int) (z : ByteArray) : Nat → Nat → Option Int
  | 0, _ => none
  | f + 1, k => if (k : Int) ≠ about ∧ (z.toList == (spaceS (k : Int)).toList) = true then some (k : Int) else tailX about z f (k + 1)
theorem pickX (about : Int) (b0 b1 b2 : Bool) (d01 : ¬ (b0 = true ∧ b1 = true)) (d02 : ¬ (b0 = true ∧ b2 = true)) (d12 : ¬ (b1 = true ∧ b2 = true)) :
    (if (0 : Int) ≠ about ∧ b0 = true then some (0 : Int) else if (1 : Int) ≠ about ∧ b1 = true then some (1 : Int) else if (2 : Int) ≠ about ∧ b2 = true then some (2 : Int) else none) =
      if (if b0 = true then (0 : Int) else if b1 = true then 1 else if b2 = true then 2 else -1) = about ∨ (if b0 = true then (0 : Int) else if b1 = true then 1 else if b2 = true then 2 else -1) < 0 then none else some (if b0 = true then (0 : Int) else if b1 = true then 1 else if b2 = true then 2 else -1) := by
  cases b0 <;> cases b1 <;> cases b2 <;> simp at d01 d02 d12 ⊢ <;> first
    | (by_cases h : (2 : Int) = about <;> simp [h]; done)
    | (by_cases h : (1 : Int) = about <;> simp [h]; done)
    | (by_cases h : (0 : Int) = about <;> simp [h]; done)
theorem space_apart (i j : Int) (h : (spaceS i).data.toList ≠ (spaceS j).data.toList) (z : ByteArray) : ¬ (((spaceS i).toList == z.toList) = true ∧ ((spaceS j).toList == z.toList) = true) := by
  rintro ⟨h1, h2⟩
  rw [beq_iff_eq] at h1 h2
  rw [ByteArray.toList_eq] at h1 h2
  exact h (h1.trans h2.symm)
theorem tailX_eq (about : Int) (z : ByteArray) : tailX about z 3 0 = if spaceI z = about ∨ spaceI z < 0 then none else some (spaceI z) := by
  have c : ∀ k : Int, (z.toList == (spaceS k).toList) = ((spaceS k).toList == z.toList) := fun k => by rw [Bool.eq_iff_iff, beq_iff_eq, beq_iff_eq, eq_comm]
  have e0 : ((0 : Nat) : Int) = 0 := rfl
  have e1 : ((0 + 1 : Nat) : Int) = 1 := rfl
  have e2 : ((0 + 1 + 1 : Nat) : Int) = 2 := rfl
  unfold spaceI
  simp only [tailX, spaceG, c, e0, e1, e2]
  exact pickX about _ _ _ (space_apart 0 1 (by decide) z) (space_apart 0 2 (by decide) z) (space_apart 1 2 (by decide) z)

set_option maxRecDepth 20000 in
set_option maxHeartbeats 4000000 in
theorem implSpaceTold (l : List AttrB) (about : Int) (x : Option Addr) (cap : Nat) (a : Addr) (w : World) (ha : AttrsAt w x l) (hn : l.length ≤ 16777216) (hE : ErrA a w) :
    Calls Tryz.prog 44 #[.slice x l.length cap, .int .i64 about] w fun e w' => ((∃ sp, toldX about l = some sp ∧ e = .returned (.int .i64 sp)) ∨ (toldX about l = none ∧ e = PanE a)) ∧ Below w.heap.size w w' := by
  obtain ⟨y, z, Hyz⟩ : ∃ y z, Hid (findA l xmlnsB = (y, z)) := ⟨_, _, rfl⟩
  have HA : Calls Tryz.prog 77 #[.slice x l.length cap, .string ⟨#[120, 109, 108, 110, 115]⟩] w fun e w' => e = .returned (.agg #[.string y, .string z]) ∧ Below w.heap.size w w' := implAttrNamed l xmlnsB x l.length cap w ha rfl (by omega) y z Hyz
  have HE : Hid (ErrA a w) := hE
  have HR : Hid (toldX about l = if hasA l xmlnsB = true then tailX about z 3 0 else some about) := by
    show _ = _
    rw [tailX_eq]
    unfold toldX
    rw [Hyz.out]
  have hy : hasA l xmlnsB = true → y.toList ≠ [] := fun h => by
    have h1 := findA_some l xmlnsB h
    rw [Hyz.out] at h1
    have h2 : y.toList = xmlnsB.toList := h1
    rw [h2, ByteArray.toList_eq]
    decide
  have hz0 : hasA l xmlnsB = false → y = ⟨#[]⟩ ∧ z = ⟨#[]⟩ := fun h => by
    have h1 := Hyz.out
    rw [findA_none l xmlnsB h] at h1
    injection h1 with h1 h2
    exact ⟨h1.symm, h2.symm⟩
  generalize toldX about l = R at *
  generalize l.length = n at *
  cases hh : hasA l xmlnsB
  · obtain ⟨rfl, rfl⟩ := hz0 hh
    have HR1 : Hid (R = some about) := by show _ = _; rw [HR.out, hh]; rfl
    have he := eq_zero_yes
    clear hz0 hy HR hh Hyz ha hE
    go_enter Tryz.func44, Tryz.ntmps44
    go_wp2_with fail
    refine HA.mono ?_
    rintro e w1 ⟨rfl, b1⟩
    have HB : Hid (Below w.heap.size w (w1.alloc (.cells #[.string ⟨#[]⟩, .string ⟨#[]⟩] 73))) := b1.alloc b1.size _
    clear b1 HA
    go_wp2_with fail
    go_ret
    exact ⟨.inl ⟨_, HR1.out, rfl⟩, HB.out⟩
  · have hyy := hy hh
    have HR1 : Hid (tailX about z 3 0 = R) := by show _ = _; rw [HR.out, hh]; rfl
    have he := eq_zero_no y z hyy
    clear hz0 hy HR hh Hyz ha hyy hE
    go_enter Tryz.func44, Tryz.ntmps44
    go_wp2_with fail
    refine HA.mono ?_
    rintro e w1 ⟨rfl, b1⟩
    have HB : Hid (Below w.heap.size w (w1.alloc (.cells #[.string y, .string z] 73))) := b1.alloc b1.size _
    have HC : Hid ((w1.alloc (.cells #[.string y, .string z] 73)).cell? ⟨w1.heap.size, 1, none⟩ = some (.string z)) := by show _ = _; simp
    clear b1 HA
    go_wp2_with fail
    generalize w1.alloc (.cells #[.string y, .string z] 73) = w2 at *
    generalize w1.heap.size = B at *
    go_loopw [13] (fun v wr => ∃ k : Nat, k ≤ 3 ∧ v = .int .i64 (k : Int) ∧ Hid (tailX about z (3 - k) k = R) ∧ Hid (Below w.heap.size w wr) ∧ Hid (wr.cell? ⟨B, 1, none⟩ = some (.string z))) (fun v _ => 3 - (intOf v).toNat)
    case atStart => exact ⟨0, by omega, rfl, HR1, HB, HC⟩
    case round =>
      clear HR1 HB HC he
      obtain ⟨k, hk, rfl, HK, HB, HC⟩ := hrel
      have c1 := HC.out
      by_cases hlt : k < 3
      · have g0 : (k : Int) < 3 := by omega
        have g0' : decide ((k : Int) < 3) = true := decide_eq_true g0
        have HK0 : Hid ((if (k : Int) ≠ about ∧ (z.toList == (spaceS (k : Int)).toList) = true then some (k : Int) else tailX about z (3 - (k + 1)) (k + 1)) = R) := by
          show _ = _
          rw [← HK.out, show 3 - k = (3 - (k + 1)) + 1 by omega, tailX]
        have HS := fun W => implSpaceName (k : Int) W
        generalize spaceS (k : Int) = S at *
        by_cases hka : (k : Int) = about
        · have g1 : ((k : Int) != about) = false := by rw [hka]; simp
          have HKn : Hid (tailX about z (3 - (k + 1)) (k + 1) = R) := by
            show _ = _
            rw [← HK0.out, if_neg (fun h => h.1 hka)]
          clear HK HK0 hka HS
          go_upto_region 7 with fail
          go_quiet (fail)
          have bn := drew_kd (Below.refl wr.heap.size wr) nq
          have HB1 : Hid (Below w.heap.size w (wr.drewN nq)) := drew_kd HB.out nq
          have HC1 : Hid ((wr.drewN nq).cell? ⟨B, 1, none⟩ = some (.string z)) := keep_cell bn c1
          clear bn c1 HB HC
          generalize wr.drewN nq = w3 at *
          go_wp2_with fail
          go_roundw
          case rel => exact ⟨k + 1, by omega, by go_num, HKn, HB1, HC1⟩
          case measure => simp [intOf]; omega
        · have g1 : ((k : Int) != about) = true := by simp [hka]
          cases hq : z.toList == S.toList
          · have HKn : Hid (tailX about z (3 - (k + 1)) (k + 1) = R) := by
              show _ = _
              rw [← HK0.out, if_neg (fun h => by rw [hq] at h; exact absurd h.2 (by decide))]
            clear HK HK0 hka
            go_upto_region 7 with fail
            go_quiet ((go_at_call 78; exact Calls.quiet_of_same (HS _)))
            have bn := drew_kd (Below.refl wr.heap.size wr) nq
            have HB1 : Hid (Below w.heap.size w (wr.drewN nq)) := drew_kd HB.out nq
            have HC1 : Hid ((wr.drewN nq).cell? ⟨B, 1, none⟩ = some (.string z)) := keep_cell bn c1
            clear bn c1 HB HC
            generalize wr.drewN nq = w3 at *
            go_wp2_with fail
            go_roundw
            case rel => exact ⟨k + 1, by omega, by go_num, HKn, HB1, HC1⟩
            case measure => simp [intOf]; omega
          · have HKn : Hid (R = some (k : Int)) := by
              show _ = _
              rw [← HK0.out, if_pos ⟨hka, hq⟩]
            clear HK HK0 hka
            go_upto_region 7 with fail
            go_quiet ((go_at_call 78; exact Calls.quiet_of_same (HS _)))
            have HB1 : Hid (Below w.heap.size w (wr.drewN nq)) := drew_kd HB.out nq
            clear c1 HB HC
            generalize wr.drewN nq = w3 at *
            go_wp2_with fail
            go_ret
            exact ⟨.inl ⟨_, HKn.out, rfl⟩, HB1.out⟩
      · have hk3 : k = 3 := by omega
        subst hk3
        have HKn : Hid (R = none) := HK.out.symm
        have hv := HE.out.below HB.out
        unfold ErrA at hv
        clear HK c1 HC
        go_wp2_with fail
        exact ⟨rfl, .inr ⟨HKn.out, rfl⟩, HB.out⟩

theorem besideA_step (l : List AttrB) (k : Nat) (h : k < l.length) : besideA (l.take (k + 1)) = besideA (l.take k) ++ (if isX (l.getD k (ByteArray.empty, ByteArray.empty)) = true then [] else [l.getD k (ByteArray.empty, ByteArray.empty)]) := by
  have e : l.getD k (ByteArray.empty, ByteArray.empty) = l[k]'h := by simp [List.getD, h]
  rw [List.take_succ_eq_append_getElem h, beside_app, e]
  congr 1
  unfold besideA
  rw [List.filter_cons, List.filter_nil]
  generalize isX (l[k]'h) = b
  cases b <;> rfl

set_option maxRecDepth 20000 in
set_option maxHeartbeats 4000000 in
theorem implBeside (l : List AttrB) (x : Option Addr) (cap : Nat) (w : World) (ha : AttrsAt w x l) (hn : l.length ≤ 16777216) :
    Calls Tryz.prog 45 #[.slice x l.length cap] w fun e w' => ∃ v, e = .returned v ∧ w'.ownsRow w.heap.size 73 2 v (besideA l).length (attrCells (besideA l)) ∧ Below w.heap.size w w' := by
  obtain ⟨i0, hi0, hz0, hz1, hz2⟩ := info_parts info_pairR
  have Hi : Hid (Tryz.prog.info? 73 = some i0) := hi0
  have Hz0 : Hid (i0.zero = some (.agg #[.string ⟨#[]⟩, .string ⟨#[]⟩])) := hz0
  have Hz1 : Hid (i0.size = 2) := hz1
  have Hz2 : Hid (i0.bytes = 32) := hz2
  have HA : Hid (AttrsAt w x l) := ha
  obtain ⟨n, Hnl⟩ : ∃ n, Hid (l.length = n) := ⟨_, rfl⟩
  rw [Hnl.out] at hn ⊢
  clear hi0 hz0 hz1 hz2 ha
  have exm : xmlnsB.toList = [120, 109, 108, 110, 115] := ByteArray.toList_mk _
  go_enter Tryz.func45, Tryz.ntmps45
  go_wp2_with fail
  go_loopw [8, 3] (fun iv kv wr => ∃ (k : Nat) (out : List AttrB), k ≤ n ∧ iv = .int .i64 (k : Int) ∧ out.length ≤ k ∧ Hid (out = besideA (l.take k)) ∧ Hid (Below w.heap.size w wr) ∧ Hid (wr.ownsRow w.heap.size 73 2 kv out.length (attrCells out))) (fun iv _ _ => n - (intOf iv).toNat)
  case atStart => exact ⟨0, [], Nat.zero_le _, rfl, Nat.zero_le _, rfl, Below.refl _ _, World.ownsRow_nil _ _ _ _⟩
  case round =>
    obtain ⟨k, out, hk, rfl, hol, Hf, HB, HO⟩ := hrel
    by_cases hlt : k < n
    · have hkl : k < l.length := by rw [Hnl.out]; exact hlt
      rcases HA.out with h | ⟨g, rfl, hg, hc⟩
      · rw [h] at hkl
        exact absurd hkl (Nat.not_lt_zero _)
      have hd := besideA_step l k hkl
      obtain ⟨c1, c2⟩ := hc k hkl
      have c1' := (HB.out.cell (p := ⟨g, k * 2, none⟩) hg).trans c1
      have c2' := (HB.out.cell (p := ⟨g, k * 2 + 1, none⟩) hg).trans c2
      clear c1 c2 hkl hc
      generalize l.getD k (ByteArray.empty, ByteArray.empty) = p at *
      obtain ⟨p1, p2⟩ := p
      have k0 : (0 : Int) ≤ (k : Int) := by omega
      have k1 : (k : Int) < (n : Int) := by omega
      have hbs := HB.out.size
      have hbA : Hid (Below w.heap.size w (wr.alloc (.cells #[.string p1, .string p2] 73))) := HB.out.alloc hbs _
      have hoA : Hid ((wr.alloc (.cells #[.string p1, .string p2] 73)).ownsRow w.heap.size 73 2 _ out.length (attrCells out)) := HO.out.alloc _
      cases hq : p1.toList == xmlnsB.toList
      · have Hn : Hid (out ++ [(p1, p2)] = besideA (l.take (k + 1))) := by
          show _ = _
          rw [hd, Hf.out]
          unfold isX
          rw [hq]
          rfl
        rw [exm] at hq
        have hq' : (p1.toList != [120, 109, 108, 110, 115]) = true := by rw [bne, hq]; rfl
        clear hd Hf
        go_wp2_with (at_builtin; refine wpList_append_own _ rfl (.tmp 15) (.tmp 17) 22 rfl w.heap.size 73 i0 (.agg #[.string ⟨#[]⟩, .string ⟨#[]⟩]) 2 32 Tryz.underlying22 Hi.out Hz0.out Hz1.out Hz2.out rfl (by decide) _ out.length (attrCells out) rfl (hoA.out.alloc _) ⟨_, 0, none⟩ 1 1 [.string p1, .string p2] rfl rfl (two_cells _ _ _ _ _ (by simp)) (two_one _ _) ?c3 ?c4 ?c5 ?_)
        case c3 => unfold maxLen; omega
        case c4 => omega
        case c5 => have := hbA.out.size; first | omega | (simp; omega)
        intro v' w5 hown' hgrow _
        have HB5 : Hid (Below w.heap.size w w5) := grown_below (hoA.out.alloc _) (hbA.out.alloc hbA.out.size _) (Nat.le_refl _) hgrow (by have := hbA.out.size; first | omega | (simp; omega))
        have HO5 : Hid (w5.ownsRow w.heap.size 73 2 v' (out ++ [(p1, p2)]).length (attrCells (out ++ [(p1, p2)]))) := by
          show World.ownsRow _ _ _ _ _ _ _
          rw [List.length_append, attrCells_more]
          exact hown'
        clear hown' hgrow hoA hbA
        go_wp2_with fail
        go_roundw
        case rel => exact ⟨k + 1, out ++ [(p1, p2)], by omega, by go_num, by rw [List.length_append]; show out.length + 1 ≤ k + 1; omega, Hn, HB5, HO5⟩
        case measure => simp [intOf]; omega
      · have Hn : Hid (out = besideA (l.take (k + 1))) := by
          show _ = _
          rw [hd, ← Hf.out]
          unfold isX
          rw [hq]
          simp
        rw [exm] at hq
        have hq' : (p1.toList != [120, 109, 108, 110, 115]) = false := by rw [bne, hq]; rfl
        clear hd Hf
        go_wp2_with fail
        go_roundw
        case rel => exact ⟨k + 1, out, by omega, by go_num, by omega, Hn, hbA, hoA⟩
        case measure => simp [intOf]; omega
    · have Hn : Hid (out = besideA l) := by
        show _ = _
        rw [Hf.out, List.take_of_length_le (by have := Hnl.out; omega)]
      have g0 : decide ((k : Int) < (n : Int)) = false := decide_eq_false (by omega)
      clear Hf
      have ho := HO.out
      rw [Hn.out] at ho
      have HOn : Hid (World.ownsRow _ _ _ _ _ _ _) := ho
      clear ho
      go_wp2_with fail
      go_ret
      exact ⟨_, rfl, HOn.out, HB.out⟩

end Go.Proofs.YtbmmghkieolpkaaGreatDoor.Sg

namespace Go.Proofs.YtbmmghkieolpkaaGreatDoor.Sg
open Go.ChangeShapes Go.WideShapes Go.ChangeAt Go.RowKit

abbrev zero6L : List Value := [.int .i64 0, .int .i64 0, .string ⟨#[]⟩, .slice none 0 0, .string ⟨#[]⟩, .slice none 0 0]

/-- One element, made since the call began, and where it ends; or a panic. -/
def GotE (a : Addr) (p : Nat) (s : ByteArray) (n : Nat) (o : Option (ElB × Nat)) (W : World) (e : Ending) (w' : World) : Prop :=
  ((∃ (x : ElB) (j : Nat) (v : Value), o = some (x, j) ∧ e = .returned v ∧ ElNew w' W.heap.size n x v ∧ Rq a p s (j : Int) w') ∨ (o = none ∧ e = PanE a)) ∧ Fr p W w'
/-- A row of elements, made since the call began; where the text ends ahead of an end of a tag, it ends there; or a panic. -/
def GotK (a : Addr) (p : Nat) (s : ByteArray) (n k : Nat) (o : Option (List ElB × Nat)) (W : World) (e : Ending) (w' : World) : Prop :=
  ((∃ (l : List ElB) (j : Nat) (v : Value) (C : List Value) (Fs : Nat → Foot), e = .returned v ∧ RowO w' W.heap.size n v l C Fs ∧ k ≤ j ∧ j ≤ s.size ∧ Rq a p s (j : Int) w' ∧ (o = some (l, j) ∨ (o = none ∧ j = s.size))) ∨ (o = none ∧ e = PanE a)) ∧ Fr p W w'

theorem RowO.form {w : World} {N n : Nat} {v : Value} {l : List ElB} {C : List Value} {Fs : Nat → Foot} (h : RowO w N n v l C Fs) : ∃ g c, v = .slice g l.length c := by
  rcases h.1.2 with ⟨e, h0⟩ | ⟨g, cap, cur, e, _⟩
  · exact ⟨none, 0, by rw [e, h0]⟩
  · exact ⟨_, cap, e⟩
theorem RowO.blocks {w : World} {N n : Nat} {v : Value} {l : List ElB} {C : List Value} {Fs : Nat → Foot} (h : RowO w N n v l C Fs) : (∀ b, v.ownBlock = some b → b < w.heap.size) ∧ ∀ i, i < l.length → ∀ b, Fs i b → b < w.heap.size :=
  ⟨fun _ hb => (own_since h.1 hb).2, fun i hi b hF => (h.2.1 i hi b hF).1.2⟩
theorem ElNew.set {W : World} {N n c i : Nat} {e : ElB} {v u : Value} (h : ElNew W N n e v) (hc : c < N) : ElNew (W.setCell ⟨c, i, none⟩ u) N n e v :=
  h.keep (by simp [World.setCell]) (fun b hb => Below.heap_setCell _ _ _ _ (by have := hb.1; show b ≠ c; omega))

/-- The result's cells are written at the end. -/
theorem el_done {w W : World} {a : Addr} {p : Nat} {s : ByteArray} {k : Int} {N n : Nat} {f : Nat → Value} {v0 v1 v2 v3 v4 v5 : Value} {e : ElB} (hp : p < w.heap.size) (hD : Rq a p s k W) (hF : Fr p w W) (h6 : Many 6 W w.heap.size f) (hE : ElNew W N n e (.agg #[v0, v1, v2, v3, v4, v5])) (hN : w.heap.size < N) :
    Many 6 ((((((W.setCell ⟨w.heap.size, 0, none⟩ v0).setCell ⟨w.heap.size, 1, none⟩ v1).setCell ⟨w.heap.size, 2, none⟩ v2).setCell ⟨w.heap.size, 3, none⟩ v3).setCell ⟨w.heap.size, 4, none⟩ v4).setCell ⟨w.heap.size, 5, none⟩ v5) w.heap.size (fun i => [v0, v1, v2, v3, v4, v5].getD i undef) ∧
    ElNew ((((((W.setCell ⟨w.heap.size, 0, none⟩ v0).setCell ⟨w.heap.size, 1, none⟩ v1).setCell ⟨w.heap.size, 2, none⟩ v2).setCell ⟨w.heap.size, 3, none⟩ v3).setCell ⟨w.heap.size, 4, none⟩ v4).setCell ⟨w.heap.size, 5, none⟩ v5) w.heap.size n e (.agg #[v0, v1, v2, v3, v4, v5]) ∧
    Rq a p s k ((((((W.setCell ⟨w.heap.size, 0, none⟩ v0).setCell ⟨w.heap.size, 1, none⟩ v1).setCell ⟨w.heap.size, 2, none⟩ v2).setCell ⟨w.heap.size, 3, none⟩ v3).setCell ⟨w.heap.size, 4, none⟩ v4).setCell ⟨w.heap.size, 5, none⟩ v5) ∧
    Fr p w ((((((W.setCell ⟨w.heap.size, 0, none⟩ v0).setCell ⟨w.heap.size, 1, none⟩ v1).setCell ⟨w.heap.size, 2, none⟩ v2).setCell ⟨w.heap.size, 3, none⟩ v3).setCell ⟨w.heap.size, 4, none⟩ v4).setCell ⟨w.heap.size, 5, none⟩ v5) := by
  refine ⟨h6.all6 v0 v1 v2 v3 v4 v5, ?_, ?_, ?_⟩
  · exact ((((((hE.set hN).set hN).set hN).set hN).set hN).set hN).low (Nat.le_of_lt hN)
  · exact (((((hD.setN _ hp).setN _ hp).setN _ hp).setN _ hp).setN _ hp).setN _ hp
  · exact (((((hF.setN _ (Nat.le_refl _)).setN _ (Nat.le_refl _)).setN _ (Nat.le_refl _)).setN _ (Nat.le_refl _)).setN _ (Nat.le_refl _)).setN _ (Nat.le_refl _)

/-- While a tag is read: w the world where the call began, its result's cells, its element's cells behind them, in a block c. -/
structure TagW (a : Addr) (p : Nat) (s : ByteArray) (w W : World) (j : Int) (c : Nat) (V : List Value) : Prop where
  q : Rq a p s j W
  f : Fr p w W
  m0 : Many 6 W w.heap.size (fun i => zero6L.getD i undef)
  m1 : Many 6 W c (fun i => V.getD i undef)
  lt : w.heap.size < c
  p : p < w.heap.size
theorem TagW.fr {a : Addr} {p : Nat} {s : ByteArray} {w W W' : World} {j j' : Int} {c : Nat} {V : List Value} (h : TagW a p s w W j c V) (hf : Fr p W W') (hq : Rq a p s j' W') : TagW a p s w W' j' c V :=
  ⟨hq, h.f.trans hf, h.m0.fr hf (by have := h.p; omega), h.m1.fr hf (by have := h.p; have := h.lt; omega), h.lt, h.p⟩
theorem TagW.below {a : Addr} {p : Nat} {s : ByteArray} {w W W' : World} {j : Int} {c : Nat} {V : List Value} (h : TagW a p s w W j c V) (hb : Below W.heap.size W W') : TagW a p s w W' j c V :=
  h.fr (Fr.of_below hb) (h.q.keep hb)
theorem TagW.put {a : Addr} {p : Nat} {s : ByteArray} {w W : World} {j : Int} {c : Nat} {V : List Value} (h : TagW a p s w W j c V) (i : Nat) (v : Value) (hi : i < V.length) : TagW a p s w (W.setCell ⟨c, i, none⟩ v) j c (V.set i v) :=
  ⟨h.q.setN v (by have := h.p; have := h.lt; omega), h.f.setN v (Nat.le_of_lt h.lt), h.m0.other (by have := h.lt; omega) v, h.m1.put6 i v hi, h.lt, h.p⟩

theorem RowO.set {W : World} {N n c i : Nat} {u : Value} {v : Value} {l : List ElB} {C : List Value} {Fs : Nat → Foot} (h : RowO W N n v l C Fs) (hc : c < N) : RowO (W.setCell ⟨c, i, none⟩ u) N n v l C Fs :=
  h.keep (by simp [World.setCell]) (fun b hb => Below.heap_setCell _ _ _ _ (by have := hb.1; show b ≠ c; omega))
theorem owns_setC {W : World} {base c i : Nat} {u : Value} {e : TypeId} {size : Nat} {v : Value} {n : Nat} {xs : List Value} (h : W.ownsRow base e size v n xs) (hc : c < base) : (W.setCell ⟨c, i, none⟩ u).ownsRow base e size v n xs :=
  owns_stay h (fun b hb _ => Below.heap_setCell _ _ _ _ (by have := (own_since h hb).1; show b ≠ c; omega))
/-- A tag with kids that were made later than its attributes. -/
theorem ElNew.tag {W : World} {N lo n : Nat} {sp : Int} {nm : ByteArray} {l : List AttrB} {lk : List ElB} {av kv : Value} {C : List Value} {Fs : Nat → Foot} (hA : W.ownsRow N 73 2 av l.length (attrCells l)) (hav : ∀ b, av.ownBlock = some b → b < lo) (hN : N ≤ lo) (hK : RowO W lo n kv lk C Fs) :
    ElNew W N (n + 1) (.mk 1 sp nm l ⟨#[]⟩ lk) (.agg #[.int .i64 1, .int .i64 sp, .string nm, av, .string ⟨#[]⟩, kv]) :=
  ⟨av, kv, Since lo W, rfl, hA, fun b hb => ⟨own_since hA hb, fun h => by have := hav b hb; have := h.1; omega⟩, OwnS.low hN _ hK.own, fun _ hb => ⟨Nat.le_trans hN hb.1, hb.2⟩⟩
theorem ElNew.bareTag {W : World} {N n : Nat} {sp : Int} {nm : ByteArray} {l : List AttrB} {av : Value} (hA : W.ownsRow N 73 2 av l.length (attrCells l)) :
    ElNew W N n (.mk 1 sp nm l ⟨#[]⟩ []) (.agg #[.int .i64 1, .int .i64 sp, .string nm, av, .string ⟨#[]⟩, .slice none 0 0]) :=
  ⟨av, _, fun _ => False, rfl, hA, fun _ hb => ⟨own_since hA hb, fun h => h⟩, OwnS.nil _ _ _ _, fun _ hb => hb.elim⟩

end Go.Proofs.YtbmmghkieolpkaaGreatDoor.Sg
