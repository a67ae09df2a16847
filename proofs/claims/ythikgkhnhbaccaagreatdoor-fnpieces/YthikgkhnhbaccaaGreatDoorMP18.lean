/- What the model's XmlAttr hands back, at any place; its contract. The program's valueAt, strictAttrAt, XmlAttr. The program's strictAttrAt and XmlAttr. -/
import Derived.Test.YthikgkhnhbaccaaGreatDoorXmAttr
import Derived.Test.YthikgkhnhbaccaaGreatDoorMP20
import Derived.Test.YthikgkhnhbaccaaGreatDoorPcTextA
import Derived.Test.YthikgkhnhbaccaaGreatDoorMP09
import Derived.BigRegion
namespace Go.Proofs.YthikgkhnhbaccaaGreatDoor.Sg
open Go.ChangeShapes Go.WideShapes Go.ChangeAt Go.RowKit

def xaO (s : ByteArray) (i : Int) : Option (Nat × List UInt8 × Nat) := if 0 ≤ i ∧ i ≤ s.size then xattrR s i.toNat else none
def xaN (s : ByteArray) (i : Int) : ByteArray := ((xaO s i).map fun r => s.extract i.toNat r.1).getD ⟨#[]⟩
def xaV (s : ByteArray) (i : Int) : ByteArray := ((xaO s i).map fun r => strB r.2.1).getD ⟨#[]⟩
def xaI (s : ByteArray) (i : Int) : Int := ((xaO s i).map fun r => ((r.2.2 + 1 : Nat) : Int)).getD (-1)

theorem specXmlAttr (s : ByteArray) (i : Int) (w : World) (hs : s.size ≤ 1073741824) :
    Calls Tryz.prog 22 #[.string s, .int .i64 i] w fun e w' => e = .returned (.tuple #[.agg #[.string (xaN s i), .string (xaV s i)], .int .i64 (xaI s i)]) ∧ Below w.heap.size w w' := by
  by_cases h : 0 ≤ i ∧ i ≤ s.size
  · unfold xaN xaV xaI xaO
    rw [if_pos h]
    have C := specXmlAttr_in s i.toNat w (by omega) (by omega)
    rw [show ((i.toNat : Nat) : Int) = i by omega] at C
    refine C.mono fun e w' h => ⟨h.1.trans ?_, h.2⟩
    cases xattrR s i.toNat <;> rfl
  · unfold xaN xaV xaI xaO
    rw [if_neg h]
    exact specXmlAttr_out s i w (by omega)

end Go.Proofs.YthikgkhnhbaccaaGreatDoor.Sg

namespace Go.Proofs.YthikgkhnhbaccaaGreatDoor.Sg
open Go.ChangeShapes Go.WideShapes Go.ChangeAt Go.RowKit

def endB : ByteArray := ⟨#[34, 9, 10]⟩
theorem end_ok : EndOk endB.data.toList := by
  intro b hb
  have h : b ∈ ([34, 9, 10] : List UInt8) := hb
  simp only [List.mem_cons, List.not_mem_nil, or_false] at h
  rcases h with rfl | rfl | rfl <;> simp
/-- The value and the place behind its last quote. -/
def valO (s : ByteArray) (k : Nat) : Option (ByteArray × Nat) := (valP s k).map fun r => (strB r.1, r.2 + 1)

set_option maxHeartbeats 4000000 in
theorem implValueAt (s : ByteArray) (k : Nat) (a : Addr) (w : World) (hk : k ≤ s.size) (hs : s.size ≤ 1073741824) (hX : PcX a w) :
    Calls Tryz.prog 84 #[.string s, .int .i64 (k : Int)] w fun e w' => (∃ j, e = .returned (prefV a j (valO s k))) ∧ Below w.heap.size w w' := by
  have HX : Hid (PcX a w) := hX
  clear hX
  have HT := textAt_in s k endB a w hk hs HX.out
  rw [← textP_eq end_ok hk, show endB.data.toList = [34, 9, 10] from rfl] at HT
  have Ho : Hid (valP s k = match xtextR s [34, 9, 10] k with
    | none => none
    | some r => if Lib.hasPrefix (tailL s r.2) [34] then some r else none) := rfl
  have hle := fun r h => xtextR_le s [34, 9, 10] s.size k r (by omega) hk h
  have HV : Hid (valO s k = (valP s k).map fun r => (strB r.1, r.2 + 1)) := rfl
  unfold endB at HT
  cases hx : xtextR s [34, 9, 10] k with
  | none =>
    have Hn : Hid (valO s k = none) := by show _ = _; rw [HV.out, Ho.out, hx]; rfl
    rw [hx] at HT
    clear Ho HV hle hx
    go_enter Tryz.func84, Tryz.ntmps84
    go_wp2_with fail
    refine HT.mono ?_
    rintro e w1 ⟨⟨j, rfl⟩, b1⟩
    clear HT
    have hv1 : w1.cell? ⟨0, 0, none⟩ = some (errV a) := HX.out.1.2.below b1
    rw [show prefV a j (strO none) = .tuple #[.string ⟨#[]⟩, .int .i64 j, errV a] from rfl]
    go_wp2_with fail
    go_quiet (fail)
    have bf := drew_kd b1 nq
    go_wp2_with fail
    go_ret3
    exact ⟨⟨_, ret_pref0 Hn.out⟩, bf⟩
  | some r =>
    obtain ⟨v, q⟩ := r
    have hq := hle _ hx
    simp only at hq
    have HP : ∀ W, Calls Tryz.prog 83 #[.string (s.extract q s.size), .string ⟨#[34]⟩] W fun e w' => e = .returned (.bool (Lib.hasPrefix (tailL s q) [34])) ∧ w' = W := fun W => by
      have := Tryz.strings_HasPrefix (s.extract q s.size) ⟨#[34]⟩ W
      rw [tail_bytes] at this
      exact this
    rw [hx] at HT
    have q1 : (q : Int) ≤ (s.size : Int) := by omega
    have q2 : IntKind.i64.wrap ((q : Int) + 1) = (q : Int) + 1 := IntWalk.i64_in _ (by omega)
    cases hp : Lib.hasPrefix (tailL s q) [34]
    · have Hn : Hid (valO s k = none) := by
        show _ = _
        rw [HV.out, Ho.out, hx]
        simp only
        rw [hp]
        rfl
      rw [hp] at HP
      clear Ho HV hle hx hp
      go_enter Tryz.func84, Tryz.ntmps84
      go_wp2_with fail
      refine HT.mono ?_
      rintro e w1 ⟨⟨j, rfl⟩, b1⟩
      clear HT
      have hv1 : w1.cell? ⟨0, 0, none⟩ = some (errV a) := HX.out.1.2.below b1
      rw [show prefV a j (strO (some (v, q))) = .tuple #[.string (strB v), .int .i64 (q : Int), .nilIface] from rfl]
      generalize strB v = V at *
      go_wp2_with fail
      refine (HP _).mono ?_
      rintro e w2 ⟨rfl, rfl⟩
      clear HP
      go_wp2_with fail
      go_quiet (fail)
      have bf := drew_kd b1 nq
      go_wp2_with fail
      go_ret3
      exact ⟨⟨_, ret_pref0 Hn.out⟩, bf⟩
    · have Hn : Hid (valO s k = some (strB v, q + 1)) := by
        show _ = _
        rw [HV.out, Ho.out, hx]
        simp only
        rw [hp]
        rfl
      rw [hp] at HP
      clear Ho HV hle hx hp
      go_enter Tryz.func84, Tryz.ntmps84
      go_wp2_with fail
      refine HT.mono ?_
      rintro e w1 ⟨⟨j, rfl⟩, b1⟩
      clear HT
      rw [show prefV a j (strO (some (v, q))) = .tuple #[.string (strB v), .int .i64 (q : Int), .nilIface] from rfl]
      generalize strB v = V at *
      go_wp2_with fail
      refine (HP _).mono ?_
      rintro e w2 ⟨rfl, rfl⟩
      clear HP
      go_wp2_with fail
      go_ret3
      exact ⟨⟨0, ret_pref Hn.out (by rfl)⟩, b1⟩
end Go.Proofs.YthikgkhnhbaccaaGreatDoor.Sg

namespace Go.Proofs.YthikgkhnhbaccaaGreatDoor.Sg
open Go.ChangeShapes Go.WideShapes Go.ChangeAt Go.RowKit

/-- What strictAttrAt tells. -/
def pattrV (a : Addr) (x y : ByteArray) (j : Int) : Option (ByteArray × ByteArray × Nat) → Value
  | some r => .tuple #[.agg #[.string r.1, .string r.2.1], .int .i64 (r.2.2 : Int), .nilIface]
  | none => .tuple #[.agg #[.string x, .string y], .int .i64 j, errV a]
def attrO (s : ByteArray) (k : Nat) : Option (ByteArray × ByteArray × Nat) := (xattrR s k).map fun r => (s.extract k r.1, strB r.2.1, r.2.2 + 1)
theorem ret_pattr {a : Addr} {x y : ByteArray} {j : Int} {o : Option (ByteArray × ByteArray × Nat)} {n v : ByteArray} {m : Nat} {V : Value} (h : o = some (n, v, m)) (hv : V = .tuple #[.agg #[.string n, .string v], .int .i64 (m : Int), .nilIface]) : Ending.returned V = .returned (pattrV a x y j o) := by rw [h, hv]; rfl
theorem ret_pattr0 {a : Addr} {x y : ByteArray} {j : Int} {o : Option (ByteArray × ByteArray × Nat)} (h : o = none) : Ending.returned (.tuple #[.agg #[.string x, .string y], .int .i64 j, errV a]) = .returned (pattrV a x y j o) := by rw [h]; rfl
theorem eq_tail {s : ByteArray} {p : Nat} (h : p ≤ s.size) : standsB s p eqB = Lib.hasPrefix (tailL s p) [61, 34] := by
  obtain ⟨e, hl⟩ := ptail_all s p h
  have h1 := stands_pre (s.data.toList.take p) (tailL s p) [61, 34]
  rw [hl, ← e] at h1
  exact h1

set_option maxHeartbeats 4000000 in
theorem strictAttr_out (s : ByteArray) (i : Int) (a : Addr) (w : World) (h : i < 0 ∨ (s.size : Int) < i) (hX : PcX a w) :
    Calls Tryz.prog 53 #[.string s, .int .i64 i] w fun e w' => (∃ x y j, e = .returned (pattrV a x y j none)) ∧ Below w.heap.size w w' := by
  have HX : Hid (PcX a w) := hX
  have HX1 : Hid (PcX a (w.alloc (.cells #[.string ⟨#[]⟩, .string ⟨#[]⟩] 36))) := hX.below ((Below.refl _ _).alloc (Nat.le_refl _) _)
  have HN := xmlName_out s i a _ (by omega) HX1.out.1
  clear h hX
  go_enter Tryz.func53, Tryz.ntmps53
  go_wp2_with fail
  refine HN.mono ?_
  rintro e w1 ⟨rfl, b1⟩
  have X : Hid (Box2 _ w.heap.size) := Box2.of b1
  have B : Hid (Below w.heap.size w _) := below_box b1
  have hv1 : w1.cell? ⟨0, 0, none⟩ = some (errV a) := HX.out.1.2.below B.out
  clear b1 HN
  go_wp2_with fail
  have hg : 0 < w.heap.size := Classical.byContradiction fun h => by
    have h1 := HX.out.1.2
    unfold ErrA at h1
    simp [World.cell?, show w.heap[0]? = none from Array.getElem?_eq_none (by omega)] at h1
  obtain ⟨hx, hy, hf, hg', hs0, hs1⟩ := X.out
  go_region
  go_wp2_with fail
  refine bodyPost_ret (v := .tuple #[.agg #[.string ⟨#[]⟩, .string ⟨#[]⟩], .int .i64 i, errV a]) ?_ rfl ⟨⟨_, _, _, rfl⟩, ((B.out.setCell (Nat.le_refl _) _).setCell (Nat.le_refl _) _).drew⟩
  have t0 := hs0 (.string ⟨#[]⟩) (.string ⟨#[]⟩)
  have t1 := hs1 (.string ⟨#[]⟩) (.string ⟨#[]⟩)
  simp [results, Tryz.results53, go_sem, t0, t1]
theorem err_place {a : Addr} {w : World} (h : ErrA a w) : 0 < w.heap.size := Classical.byContradiction fun hn => by
  unfold ErrA at h
  simp [World.cell?, show w.heap[0]? = none from Array.getElem?_eq_none (by omega)] at h

set_option maxRecDepth 20000 in
set_option maxHeartbeats 8000000 in
theorem strictAttr_in (s : ByteArray) (k : Nat) (a : Addr) (w : World) (hk : k ≤ s.size) (hs : s.size ≤ 1073741824) (hX : PcX a w) :
    Calls Tryz.prog 53 #[.string s, .int .i64 (k : Int)] w fun e w' => (∃ x y j, e = .returned (pattrV a x y j (attrO s k))) ∧ Below w.heap.size w w' := by
  have HX : Hid (PcX a w) := hX
  have HX1 : Hid (PcX a (w.alloc (.cells #[.string ⟨#[]⟩, .string ⟨#[]⟩] 36))) := hX.below ((Below.refl _ _).alloc (Nat.le_refl _) _)
  have HN := xmlName_in s k a _ hk hs HX1.out.1
  have hle := xnameE_le s s.size k true (by omega) hk
  have HA : Hid (attrO s k = (xattrR s k).map fun r => (s.extract k r.1, strB r.2.1, r.2.2 + 1)) := rfl
  have HP := xattr_prog hk
  have hg := err_place hX.1.2
  clear hX
  generalize xnameE s true k = n at *
  by_cases hnk : n = k
  · have Hn : Hid (attrO s k = none) := by show _ = _; rw [HA.out, HP, if_pos (.inl hnk)]; rfl
    subst hnk
    rw [extract_none] at HN
    clear HA HP
    go_enter Tryz.func53, Tryz.ntmps53
    go_wp2_with fail
    refine HN.mono ?_
    rintro e w1 ⟨rfl, b1⟩
    have X : Hid (Box2 _ w.heap.size) := Box2.of b1
    have B : Hid (Below w.heap.size w _) := below_box b1
    have hv1 : w1.cell? ⟨0, 0, none⟩ = some (errV a) := HX.out.1.2.below B.out
    clear b1 HN
    go_wp2_with fail
    obtain ⟨hx, hy, hf, hg', hs0, hs1⟩ := X.out
    go_region
    go_wp2_with fail
    refine bodyPost_ret (v := .tuple #[.agg #[.string ⟨#[]⟩, .string ⟨#[]⟩], .int .i64 (n : Int), errV a]) ?_ rfl ⟨⟨_, _, _, ret_pattr0 Hn.out⟩, ((B.out.setCell (Nat.le_refl _) _).setCell (Nat.le_refl _) _).drew⟩
    have t0 := hs0 (.string ⟨#[]⟩) (.string ⟨#[]⟩)
    have t1 := hs1 (.string ⟨#[]⟩) (.string ⟨#[]⟩)
    simp [results, Tryz.results53, go_sem, t0, t1]
  · have hnm : ((s.extract k n).toList == []) = false := by
      rw [beq_eq_false_iff_ne, ByteArray.toList_eq]
      intro h
      have h2 := congrArg List.length h
      rw [Array.length_toList] at h2
      have h3 : (s.extract k n).size = 0 := h2
      rw [ByteArray.size_extract] at h3
      omega
    have HH : ∀ W, Calls Tryz.prog 83 #[.string (s.extract n s.size), .string ⟨#[61, 34]⟩] W fun e w' => e = .returned (.bool (standsB s n eqB)) ∧ w' = W := fun W => by
      have h := Tryz.strings_HasPrefix (s.extract n s.size) ⟨#[61, 34]⟩ W
      rw [tail_bytes] at h
      rw [eq_tail hle.2]
      exact h
    have q1 : (n : Int) ≤ (s.size : Int) := by omega
    cases hst : standsB s n eqB
    · have Hn : Hid (attrO s k = none) := by show _ = _; rw [HA.out, HP, if_pos (.inr hst)]; rfl
      rw [hst] at HH
      clear HA HP hst
      generalize s.extract k n = nm at *
      go_enter Tryz.func53, Tryz.ntmps53
      go_wp2_with fail
      refine HN.mono ?_
      rintro e w1 ⟨rfl, b1⟩
      have X : Hid (Box2 _ w.heap.size) := Box2.of b1
      have B : Hid (Below w.heap.size w _) := below_box b1
      have hv1 : w1.cell? ⟨0, 0, none⟩ = some (errV a) := HX.out.1.2.below B.out
      clear b1 HN
      go_wp2_with fail
      refine (HH _).mono ?_
      rintro e w2 ⟨rfl, rfl⟩
      clear HH
      go_wp2_with fail
      obtain ⟨hx, hy, hf, hg', hs0, hs1⟩ := X.out
      go_region
      go_wp2_with fail
      refine bodyPost_ret (v := .tuple #[.agg #[.string ⟨#[]⟩, .string ⟨#[]⟩], .int .i64 (k : Int), errV a]) ?_ rfl ⟨⟨_, _, _, ret_pattr0 Hn.out⟩, ((B.out.setCell (Nat.le_refl _) _).setCell (Nat.le_refl _) _).drew⟩
      have t0 := hs0 (.string ⟨#[]⟩) (.string ⟨#[]⟩)
      have t1 := hs1 (.string ⟨#[]⟩) (.string ⟨#[]⟩)
      simp [results, Tryz.results53, go_sem, t0, t1]
    · have h2 : n + 2 ≤ s.size := stands_le hst
      have Hd : Hid (attrO s k = (valP s (n + 2)).map fun r => (s.extract k n, strB r.1, r.2 + 1)) := by
        show _ = _
        rw [HA.out, HP, if_neg (fun h => h.elim hnk (fun h => by rw [hst] at h; cases h)), Option.map_map]
        rfl
      have HV := fun W h => implValueAt s (n + 2) a W h2 hs h
      rw [show ((n + 2 : Nat) : Int) = (n : Int) + 2 by omega] at HV
      have HVo : Hid (valO s (n + 2) = (valP s (n + 2)).map fun r => (strB r.1, r.2 + 1)) := rfl
      have q2 : IntKind.i64.wrap ((n : Int) + 2) = (n : Int) + 2 := IntWalk.i64_in _ (by omega)
      rw [hst] at HH
      clear HA HP hst
      generalize s.extract k n = nm at *
      cases ho : valP s (n + 2) with
      | none =>
        have Hn : Hid (attrO s k = none) := by show _ = _; rw [Hd.out, ho]; rfl
        rw [HVo.out, ho] at HV
        clear Hd HVo ho
        go_enter Tryz.func53, Tryz.ntmps53
        go_wp2_with fail
        refine HN.mono ?_
        rintro e w1 ⟨rfl, b1⟩
        have B0 := below_box b1
        go_wp2_with fail
        refine (HH _).mono ?_
        rintro e w2 ⟨rfl, rfl⟩
        clear HH
        go_wp2_with fail
        refine (HV _ (HX.out.below B0)).mono ?_
        rintro e w3 ⟨⟨j, rfl⟩, b3⟩
        have b4 := b1.trans (b3.mono b1.size)
        have X : Hid (Box2 _ w.heap.size) := Box2.of b4
        have B : Hid (Below w.heap.size w _) := below_box b4
        clear b1 b3 b4 B0 HN HV
        rw [show prefV a j (none.map fun r : List UInt8 × Nat => (strB r.1, r.2 + 1)) = .tuple #[.string ⟨#[]⟩, .int .i64 j, errV a] from rfl]
        obtain ⟨hx, hy, hf, hg', hs0, hs1⟩ := X.out
        go_wp2_with fail
        refine bodyPost_ret (v := .tuple #[.agg #[.string nm, .string ⟨#[]⟩], .int .i64 j, errV a]) ?_ rfl ⟨⟨_, _, _, ret_pattr0 Hn.out⟩, (B.out.setCell (Nat.le_refl _) _).setCell (Nat.le_refl _) _⟩
        have t0 := hs0 (.string nm) (.string ⟨#[]⟩)
        have t1 := hs1 (.string nm) (.string ⟨#[]⟩)
        simp [results, Tryz.results53, go_sem, t0, t1]
      | some r =>
        obtain ⟨v, q⟩ := r
        have Hn : Hid (attrO s k = some (nm, strB v, q + 1)) := by show _ = _; rw [Hd.out, ho]; rfl
        rw [HVo.out, ho] at HV
        clear Hd HVo ho
        go_enter Tryz.func53, Tryz.ntmps53
        go_wp2_with fail
        refine HN.mono ?_
        rintro e w1 ⟨rfl, b1⟩
        have B0 := below_box b1
        go_wp2_with fail
        refine (HH _).mono ?_
        rintro e w2 ⟨rfl, rfl⟩
        clear HH
        go_wp2_with fail
        refine (HV _ (HX.out.below B0)).mono ?_
        rintro e w3 ⟨⟨j, rfl⟩, b3⟩
        have b4 := b1.trans (b3.mono b1.size)
        have X : Hid (Box2 _ w.heap.size) := Box2.of b4
        have B : Hid (Below w.heap.size w _) := below_box b4
        clear b1 b3 b4 B0 HN HV
        rw [show prefV a j ((some (v, q)).map fun r : List UInt8 × Nat => (strB r.1, r.2 + 1)) = .tuple #[.string (strB v), .int .i64 ((q + 1 : Nat) : Int), .nilIface] from rfl]
        generalize strB v = V at *
        obtain ⟨hx, hy, hf, hg', hs0, hs1⟩ := X.out
        go_wp2_with fail
        refine bodyPost_ret (v := .tuple #[.agg #[.string nm, .string V], .int .i64 ((q + 1 : Nat) : Int), .nilIface]) ?_ rfl ⟨⟨nm, V, 0, ret_pattr Hn.out rfl⟩, (B.out.setCell (Nat.le_refl _) _).setCell (Nat.le_refl _) _⟩
        have t0 := hs0 (.string nm) (.string V)
        have t1 := hs1 (.string nm) (.string V)
        simp [results, Tryz.results53, go_sem, t0, t1]

end Go.Proofs.YthikgkhnhbaccaaGreatDoor.Sg
