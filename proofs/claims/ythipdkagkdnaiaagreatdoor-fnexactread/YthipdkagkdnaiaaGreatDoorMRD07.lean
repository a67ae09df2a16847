/- The contract of the model's l13Hex: a number in six digits of 16. Contracts of the model's NameOk and NameOf. Contract of the model's XmlAttr. What the model's XmlAttr hands back, at any place; its contract. Contracts of the model's TextOk and TextOf. Attributes of a name. One attribute of several. Contract of the model's l15Attrs: attributes that are strict. Written by mk_elattrs.py. Plain: attributes of an element are read; their space. -/
import Derived.Test.YthipdkagkdnaiaaGreatDoorMRD03
import Derived.Laws.DeepStrings4
import Derived.Test.YthipdkagkdnaiaaGreatDoorKdModel
import Derived.Test.YthipdkagkdnaiaaGreatDoorXmText
import Derived.Test.YthipdkagkdnaiaaGreatDoorXmName
import Derived.Test.YthipdkagkdnaiaaGreatDoorMRD01
import Derived.Lib.QuietBelow
import Derived.BigQuiet
import Derived.Deep.Cut
import Derived.Deep.CutRange
import Derived.Test.YthipdkagkdnaiaaGreatDoorMRD02
namespace Go.Proofs.YthipdkagkdnaiaaGreatDoor.Sg
open Go.ChangeShapes Go.WideShapes Go.ChangeAt Go.RowKit

end Go.Proofs.YthipdkagkdnaiaaGreatDoor.Sg

namespace Go.Proofs.YthipdkagkdnaiaaGreatDoor.Sg
open Go.ChangeShapes Go.WideShapes Go.ChangeAt Go.RowKit

theorem stNameL_drop (zs : List Int) (k : Nat) (h : k < zs.length) (f : Bool) : stNameL f (zs.drop k) = (stayB f (zs.getD k 0) && stNameL false (zs.drop (k + 1))) := by
  rw [List.drop_eq_getElem_cons h]
  unfold stNameL
  simp [h]
  cases zs.drop (k + 1) <;> rfl
theorem empty_of {s : ByteArray} (h : s.size = 0) : s = ⟨#[]⟩ := by
  cases s with
  | mk d =>
    have : d = #[] := Array.eq_empty_of_size_eq_zero h
    rw [this]
theorem not_empty {s : ByteArray} (h : s.size ≠ 0) : (s.toList == []) = false := by
  rw [beq_eq_false_iff_ne, ByteArray.toList_eq]
  intro e
  apply h
  have h2 : s.data.toList.length = s.size := Array.length_toList
  rw [e] at h2
  exact h2.symm
/-- A number of a slice of the call's own. -/
theorem Ints.cell {w wr : World} {a : Option Addr} {zs : List Int} {k : Nat} (h : Ints w a zs) (hb : Below w.heap.size w wr) (hk : k < zs.length) : ∃ b o, a = some ⟨b, o, none⟩ ∧ b < w.heap.size ∧ wr.cell? ⟨b, o + k, none⟩ = some (.int .i64 (zs.getD k 0)) := by
  rcases h with h | ⟨b, o, rfl, hb1, hc⟩
  · rw [h] at hk
    simp at hk
  · exact ⟨b, o, rfl, hb1, (hb.cell (by exact hb1)).trans (hc k hk)⟩

set_option maxHeartbeats 2000000 in
theorem specNameOk (s : ByteArray) (w : World) (hs : s.size ≤ 17592186044416) :
    Calls Tryz.prog 71 #[.string s] w fun e w' => e = .returned (.bool (stNameB s)) ∧ Below w.heap.size w w' := by
  have Hn : Hid (stNameB s = (stNameL true (signsL s) && decide (s.size ≠ 0) && cleanB s)) := rfl
  have hl := signsL_length s
  have e0 : (⟨#[]⟩ : ByteArray).toList = [] := ByteArray.toList_mk _
  go_enter Tryz.func71, Tryz.ntmps71
  go_wp2_with fail
  refine (specSigns s _ hs).mono ?_
  rintro e w1 ⟨a, cap, rfl, o1, b1⟩
  have I1 : Hid (Ints w1 a (signsL s)) := o1.ints
  clear o1
  have Hc := fun W => specCleanOk s W hs
  generalize signsL s = zs at *
  generalize hlen : zs.length = n at *
  have Hlen : Hid (zs.length = n) := hlen
  clear hlen
  generalize cleanB s = cb at *
  go_wp2_with fail
  go_loopw [4] (fun i wr => ∃ k : Nat, k ≤ n ∧ i = .int .i64 k ∧ Hid (stNameL true zs = stNameL (decide (k = 0)) (zs.drop k)) ∧ Below w1.heap.size w1 wr) (fun i _ => n - (intOf i).toNat)
  case atStart => exact ⟨0, Nat.zero_le _, rfl, rfl, Below.refl _ _⟩
  case round =>
    obtain ⟨k, hk, rfl, Hk, hbel⟩ := hrel
    by_cases hlt : k < n
    · obtain ⟨b, o, rfl, hb, hc⟩ := I1.out.cell hbel (by rw [Hlen.out]; exact hlt)
      have hst := stNameL_drop zs k (by rw [Hlen.out]; exact hlt) (decide (k = 0))
      generalize hz : zs.getD k 0 = z at *
      clear hz
      have Hst : Hid (stNameL true zs = (stayB (decide (k = 0)) z && stNameL false (zs.drop (k + 1)))) := Hk.out.trans hst
      clear hst Hk Hc
      by_cases h0 : k = 0
      · subst h0
        rw [Nat.add_zero] at hc
        have g0 : (((0 : Nat) : Int) == 0) = true := rfl
        cases hf : firstB z
        · have Hno : Hid (stNameB s = false) := by
            show _ = _
            rw [Hn.out, Hst.out]
            show (firstB z && _ && _ && _) = false
            rw [hf]
            rfl
          have Hf : ∀ W, Calls Tryz.prog 63 #[.int .i64 z] W fun e w' => e = .returned (.bool false) ∧ Below W.heap.size W w' := fun W => hf ▸ specIsFirst z W
          clear hf Hst Hn
          go_wp2_with fail
          refine (Hf _).mono ?_
          rintro e w2 ⟨rfl, b2⟩
          go_wp2_with fail
          go_ret
          exact ⟨ret_bool Hno.out.symm, b1.trans ((hbel.trans (b2.mono hbel.size)).mono b1.size)⟩
        · have Hnx : Hid (stNameL true zs = stNameL (decide (0 + 1 = 0)) (zs.drop (0 + 1))) := by
            show _ = _
            rw [Hst.out]
            show (firstB z && _) = _
            rw [hf]
            rfl
          have Hf : ∀ W, Calls Tryz.prog 63 #[.int .i64 z] W fun e w' => e = .returned (.bool true) ∧ Below W.heap.size W w' := fun W => hf ▸ specIsFirst z W
          have Hx : ∀ W, Calls Tryz.prog 64 #[.int .i64 z] W fun e w' => e = .returned (.bool true) ∧ Below W.heap.size W w' := fun W => (firstB_next hf) ▸ specIsNext z W
          clear hf Hst Hn
          go_wp2_with fail
          refine (Hf _).mono ?_
          rintro e w2 ⟨rfl, b2⟩
          have b2' : Below w1.heap.size w1 w2 := hbel.trans (b2.mono hbel.size)
          have hc2 := (b2.cell (by exact Nat.lt_of_lt_of_le hb hbel.size)).trans hc
          clear b2 hbel hc
          go_wp2_with fail
          refine (Hx _).mono ?_
          rintro e w3 ⟨rfl, b3⟩
          have b3' : Below w1.heap.size w1 w3 := b2'.trans (b3.mono b2'.size)
          clear b3 b2' hc2
          go_wp2_with fail
          go_roundw
          case rel => exact ⟨0 + 1, by omega, by go_num, Hnx, b3'⟩
          case measure => simp [intOf]; omega
      · have g0 : ((k : Int) == 0) = false := by simp; exact h0
        have Hd : Hid (stayB (decide (k = 0)) z = nextB z) := by show _ = _; rw [decide_eq_false h0]; rfl
        rw [Hd.out] at Hst
        cases hf : nextB z
        · have Hno : Hid (stNameB s = false) := by
            show _ = _
            rw [Hn.out, Hst.out, hf]
            rfl
          have Hx : ∀ W, Calls Tryz.prog 64 #[.int .i64 z] W fun e w' => e = .returned (.bool false) ∧ Below W.heap.size W w' := fun W => hf ▸ specIsNext z W
          clear hf Hst Hn Hd h0
          go_wp2_with fail
          refine (Hx _).mono ?_
          rintro e w2 ⟨rfl, b2⟩
          go_wp2_with fail
          go_ret
          exact ⟨ret_bool Hno.out.symm, b1.trans ((hbel.trans (b2.mono hbel.size)).mono b1.size)⟩
        · have Hnx : Hid (stNameL true zs = stNameL (decide (k + 1 = 0)) (zs.drop (k + 1))) := by
            show _ = _
            rw [Hst.out, hf, decide_eq_false (by omega)]
            rfl
          have Hx : ∀ W, Calls Tryz.prog 64 #[.int .i64 z] W fun e w' => e = .returned (.bool true) ∧ Below W.heap.size W w' := fun W => hf ▸ specIsNext z W
          clear hf Hst Hn Hd h0
          go_wp2_with fail
          refine (Hx _).mono ?_
          rintro e w3 ⟨rfl, b3⟩
          have b3' : Below w1.heap.size w1 w3 := hbel.trans (b3.mono hbel.size)
          clear b3 hbel hc
          go_wp2_with fail
          go_roundw
          case rel => exact ⟨k + 1, by omega, by go_num, Hnx, b3'⟩
          case measure => simp [intOf]; omega
    · have Hall : Hid (stNameB s = (decide (s.size ≠ 0) && cb)) := by
        show _ = _
        have hd : zs.drop k = [] := List.drop_eq_nil_of_le (by have := Hlen.out; omega)
        rw [Hn.out, Hk.out, hd]
        unfold stNameL
        rfl
      have g1 : decide ((k : Int) < (n : Int)) = false := decide_eq_false (by omega)
      clear Hn Hk I1
      by_cases hz : s.size = 0
      · have := empty_of hz
        subst this
        clear Hc
        go_wp2_with fail
        go_ret
        exact ⟨ret_bool (by rw [Hall.out]; rfl), b1.trans (hbel.mono b1.size)⟩
      · have g2 := not_empty hz
        have Hd : Hid (stNameB s = cb) := by show _ = _; rw [Hall.out, decide_eq_true hz]; rfl
        clear hz Hall
        go_wp2_with fail
        refine (Hc _).mono ?_
        rintro e w3 ⟨rfl, b3⟩
        go_wp2_with fail
        go_ret
        exact ⟨ret_bool Hd.out.symm, b1.trans ((hbel.trans (b3.mono hbel.size)).mono b1.size)⟩

end Go.Proofs.YthipdkagkdnaiaaGreatDoor.Sg

namespace Go.Proofs.YthipdkagkdnaiaaGreatDoor.Sg
open Go.ChangeShapes Go.WideShapes Go.ChangeAt Go.RowKit

/-- What the model's XmlAttr hands back. -/
def attrV (s : ByteArray) (k : Nat) : Option (Nat × List UInt8 × Nat) → Value
  | none => .tuple #[.agg #[.string ⟨#[]⟩, .string ⟨#[]⟩], .int .i64 (-1)]
  | some r => .tuple #[.agg #[.string (s.extract k r.1), .string (strB r.2.1)], .int .i64 ((r.2.2 + 1 : Nat) : Int)]
/-- Two cells of a block, as they lie and when they are written. -/
structure Box2 (W : World) (b : Nat) : Prop where
  c0 : W.cell? ⟨b, 0, none⟩ = some (.string ⟨#[]⟩)
  c1 : W.cell? ⟨b, 1, none⟩ = some (.string ⟨#[]⟩)
  f0 : W.frozen? ⟨b, 0, none⟩ = false
  f1 : W.frozen? ⟨b, 1, none⟩ = false
  s0 : ∀ x y : Value, ((W.setCell ⟨b, 0, none⟩ x).setCell ⟨b, 1, none⟩ y).cell? ⟨b, 0, none⟩ = some x
  s1 : ∀ x y : Value, ((W.setCell ⟨b, 0, none⟩ x).setCell ⟨b, 1, none⟩ y).cell? ⟨b, 1, none⟩ = some y
theorem Box2.of {w W : World} {t : TypeId} (h : Below (w.alloc (.cells #[.string ⟨#[]⟩, .string ⟨#[]⟩] t)).heap.size (w.alloc (.cells #[.string ⟨#[]⟩, .string ⟨#[]⟩] t)) W) : Box2 W w.heap.size := by
  have hb : W.heap[w.heap.size]? = some (.cells #[.string ⟨#[]⟩, .string ⟨#[]⟩] t) := by
    refine (h.block _ (by simp)).trans ?_
    show (w.heap.push _)[w.heap.size]? = _
    simp
  have h0 : W.cell? ⟨w.heap.size, 0, none⟩ = some (.string ⟨#[]⟩) := by simp [World.cell?, hb]
  have h1 : W.cell? ⟨w.heap.size, 1, none⟩ = some (.string ⟨#[]⟩) := by simp [World.cell?, hb]
  have h2 : ∀ x : Value, (W.setCell ⟨w.heap.size, 0, none⟩ x).cell? ⟨w.heap.size, 1, none⟩ = some (.string ⟨#[]⟩) := fun x => (World.cell?_setCell_other _ _ _ _ (by simp)).trans h1
  exact ⟨h0, h1, by simp [World.frozen?, hb], by simp [World.frozen?, hb], fun x y => (World.cell?_setCell_other _ _ _ _ (by simp)).trans (World.cell?_setCell_same _ _ _ h0), fun x y => World.cell?_setCell_same _ _ _ (h2 x)⟩
theorem below_box {w W : World} {o : Obj} (h : Below (w.alloc o).heap.size (w.alloc o) W) : Below w.heap.size w W := ((Below.refl _ _).alloc (Nat.le_refl _) _).trans (h.mono (by simp))
theorem ends_find {l : List UInt8} {b : UInt8} : (findL b l = none ∧ l.contains b = false) ∨ ∃ q, findL b l = some q ∧ l.contains b = true := by
  have h := findL_in b l
  cases hf : findL b l with
  | none => exact .inl ⟨rfl, by rw [h, hf]; rfl⟩
  | some q => exact .inr ⟨q, rfl, by rw [h, hf]; rfl⟩

set_option maxHeartbeats 1000000 in
theorem specXmlAttr_out (s : ByteArray) (at' : Int) (w : World) (h : at' < 0 ∨ (s.size : Int) < at') :
    Calls Tryz.prog 66 #[.string s, .int .i64 at'] w fun e w' => e = .returned (.tuple #[.agg #[.string ⟨#[]⟩, .string ⟨#[]⟩], .int .i64 (-1)]) ∧ Below w.heap.size w w' := by
  have HN : ∀ W, Calls Tryz.prog 37 #[.string s, .int .i64 at'] W fun e w' => e = .returned (.tuple #[.string ⟨#[]⟩, .int .i64 at']) ∧ Below W.heap.size W w' := fun W => (specXmlName_out s at' W h).mono fun e w' h => ⟨h.1, h.2 ▸ Below.refl _ _⟩
  have ge : ((⟨#[]⟩ : ByteArray).toList == []) = true := by rw [ByteArray.toList_mk]; rfl
  clear h
  go_enter Tryz.func66, Tryz.ntmps66
  go_wp2_with fail
  refine (HN _).mono ?_
  rintro e w1 ⟨rfl, b1⟩
  have X : Hid (Box2 _ w.heap.size) := Box2.of b1
  have B : Hid (Below w.heap.size w _) := below_box b1
  clear b1
  have t0 := X.out.s0 (.string ⟨#[]⟩) (.string ⟨#[]⟩)
  have t1 := X.out.s1 (.string ⟨#[]⟩) (.string ⟨#[]⟩)
  obtain ⟨hx, hy, hf, hg, _, _⟩ := X.out
  go_wp2_with fail
  refine bodyPost_ret (v := .tuple #[.agg #[.string ⟨#[]⟩, .string ⟨#[]⟩], .int .i64 (-1)]) ?_ rfl ⟨rfl, ?_⟩
  · simp [results, Tryz.results66, go_sem, t0, t1]
  · exact (B.out.setCell (Nat.le_refl _) _).setCell (Nat.le_refl _) _

set_option maxRecDepth 20000 in
set_option maxHeartbeats 4000000 in
theorem specXmlAttr_in (s : ByteArray) (k : Nat) (w : World) (hk : k ≤ s.size) (hs : s.size ≤ 1073741824) :
    Calls Tryz.prog 66 #[.string s, .int .i64 (k : Int)] w fun e w' => e = .returned (attrV s k (xattrR s k)) ∧ Below w.heap.size w w' := by
  have HN := fun W => specXmlName_in s k W hk (by omega)
  have hn := xnameE_le s _ k true (Nat.le_refl _) hk
  obtain ⟨n, HnE⟩ : ∃ n, Hid (xnameE s true k = n) := ⟨_, rfl⟩
  rw [HnE.out] at hn HN
  have hsz : (s.extract k n).size = n - k := by rw [ByteArray.size_extract]; omega
  by_cases hnk : n = k
  · have ex : s.extract k n = ⟨#[]⟩ := empty_of (by rw [hsz, hnk]; omega)
    have ge : ((s.extract k n).toList == []) = true := by rw [ex, ByteArray.toList_mk]; rfl
    clear ex
    have Hx : Hid (xattrR s k = none) := by show _ = _; unfold xattrR; simp only; rw [HnE.out, if_pos (.inl hnk)]
    clear hnk hsz
    go_enter Tryz.func66, Tryz.ntmps66
    go_wp2_with fail
    refine (HN _).mono ?_
    rintro e w1 ⟨rfl, b1⟩
    have X : Hid (Box2 _ w.heap.size) := Box2.of b1
    have B : Hid (Below w.heap.size w _) := below_box b1
    clear b1
    have t0 := X.out.s0 (.string ⟨#[]⟩) (.string ⟨#[]⟩)
    have t1 := X.out.s1 (.string ⟨#[]⟩) (.string ⟨#[]⟩)
    obtain ⟨hx, hy, hf, hg, _, _⟩ := X.out
    go_wp2_with fail
    refine bodyPost_ret (v := .tuple #[.agg #[.string ⟨#[]⟩, .string ⟨#[]⟩], .int .i64 (-1)]) ?_ rfl ⟨by rw [Hx.out]; rfl, ?_⟩
    · simp [results, Tryz.results66, go_sem, t0, t1]
    · exact (B.out.setCell (Nat.le_refl _) _).setCell (Nat.le_refl _) _
  have ge : ((s.extract k n).toList == []) = false := not_empty (by rw [hsz]; omega)
  clear hsz
  have HS := fun W => specStands s n eqB W (by omega) (by omega) (by decide)
  cases hst : standsB s n eqB
  · have Hx : Hid (xattrR s k = none) := by show _ = _; unfold xattrR; simp only; rw [HnE.out, if_pos (.inr hst)]
    rw [hst] at HS
    clear hst hnk
    go_enter Tryz.func66, Tryz.ntmps66
    go_wp2_with fail
    refine (HN _).mono ?_
    rintro e w1 ⟨rfl, b1⟩
    go_wp2_with fail
    refine (HS _).mono ?_
    rintro e w2 ⟨rfl, rfl⟩
    have X : Hid (Box2 _ w.heap.size) := Box2.of b1
    have B : Hid (Below w.heap.size w _) := below_box b1
    clear b1
    have t0 := X.out.s0 (.string ⟨#[]⟩) (.string ⟨#[]⟩)
    have t1 := X.out.s1 (.string ⟨#[]⟩) (.string ⟨#[]⟩)
    obtain ⟨hx, hy, hf, hg, _, _⟩ := X.out
    go_wp2_with fail
    refine bodyPost_ret (v := .tuple #[.agg #[.string ⟨#[]⟩, .string ⟨#[]⟩], .int .i64 (-1)]) ?_ rfl ⟨by rw [Hx.out]; rfl, ?_⟩
    · simp [results, Tryz.results66, go_sem, t0, t1]
    · exact (B.out.setCell (Nat.le_refl _) _).setCell (Nat.le_refl _) _
  have hl := stands_le hst
  have hl2 : n + 2 ≤ s.size := hl
  have HT : ∀ W, Calls Tryz.prog 70 #[.string s, .int .i64 ((n : Int) + 2), .string ⟨#[34]⟩] W fun e w' => e = .returned (textV (xtextR s [34] (n + 2))) ∧ Below W.heap.size W w' := fun W => specXmlText_in s (n + 2) ⟨#[34]⟩ W hl2 (by omega) (by decide)
  have Hd : Hid (xattrR s k = match xtextR s [34] (n + 2) with | none => none | some (v, m) => if ¬ m < s.size ∨ ((s.extract (n + 2) m).data.toList.contains 9 || (s.extract (n + 2) m).data.toList.contains 10) = true then none else some (n, v, m)) := by show _ = _; unfold xattrR; simp only; rw [HnE.out, if_neg (fun h => h.elim hnk (fun h => by rw [hst] at h; cases h))]; rfl
  rw [hst] at HS
  clear hst hl HnE hnk
  have q1 : IntKind.i64.wrap ((n : Int) + 2) = (n : Int) + 2 := IntWalk.i64_in _ (by omega)
  cases hx : xtextR s [34] (n + 2) with
  | none =>
    have Hx : Hid (xattrR s k = none) := by show _ = _; rw [Hd.out, hx]
    rw [hx] at HT
    clear hx Hd
    go_enter Tryz.func66, Tryz.ntmps66
    go_wp2_with fail
    refine (HN _).mono ?_
    rintro e w1 ⟨rfl, b1⟩
    go_wp2_with fail
    refine (HS _).mono ?_
    rintro e w2 ⟨rfl, rfl⟩
    go_wp2_with fail
    refine (HT _).mono ?_
    rintro e w3 ⟨rfl, b3⟩
    simp only [textV]
    replace b1 := b1.trans (b3.mono b1.size)
    clear b3
    have X : Hid (Box2 _ w.heap.size) := Box2.of b1
    have B : Hid (Below w.heap.size w _) := below_box b1
    clear b1
    have t0 := X.out.s0 (.string ⟨#[]⟩) (.string ⟨#[]⟩)
    have t1 := X.out.s1 (.string ⟨#[]⟩) (.string ⟨#[]⟩)
    obtain ⟨hx, hy, hf, hg, _, _⟩ := X.out
    go_wp2_with fail
    refine bodyPost_ret (v := .tuple #[.agg #[.string ⟨#[]⟩, .string ⟨#[]⟩], .int .i64 (-1)]) ?_ rfl ⟨by rw [Hx.out]; rfl, ?_⟩
    · simp [results, Tryz.results66, go_sem, t0, t1]
    · exact (B.out.setCell (Nat.le_refl _) _).setCell (Nat.le_refl _) _
  | some r =>
    obtain ⟨v, m⟩ := r
    have hm := xtextR_le s [34] _ (n + 2) (v, m) (Nat.le_refl _) hl2 hx
    simp only at hm
    have Hd2 : Hid (xattrR s k = if ¬ m < s.size ∨ ((s.extract (n + 2) m).data.toList.contains 9 || (s.extract (n + 2) m).data.toList.contains 10) = true then none else some (n, v, m)) := by show _ = _; rw [Hd.out, hx]
    rw [hx] at HT
    clear hx Hd
    have g0 : decide ((m : Int) < 0) = false := decide_eq_false (by omega)
    by_cases hlt : m < s.size
    · have g1 : decide ((s.size : Int) ≤ (m : Int)) = false := decide_eq_false (by omega)
      have p1 : (0 : Int) ≤ (n : Int) + 2 := by omega
      have p2 : (n : Int) + 2 ≤ (m : Int) := by omega
      have p3 : (m : Int) ≤ (s.size : Int) := by omega
      have p4 : ((n : Int) + 2).toNat = n + 2 := by omega
      have p5 : IntKind.i64.wrap ((m : Int) + 1) = (m : Int) + 1 := IntWalk.i64_in _ (by omega)
      have p6 : (0 : Int) ≤ (m : Int) := by omega
      have hz : (s.extract (n + 2) m).size ≤ 17592186044416 := by rw [ByteArray.size_extract]; omega
      have H9 := fun W => specFind (s.extract (n + 2) m) 0 9 W (Nat.zero_le _) hz
      have H10 := fun W => specFind (s.extract (n + 2) m) 0 10 W (Nat.zero_le _) hz
      rw [findE_zero] at H9 H10
      clear hz
      rcases ends_find (l := (s.extract (n + 2) m).data.toList) (b := 9) with ⟨e9, c9⟩ | ⟨q, e9, c9⟩
      · rw [e9] at H9
        rcases ends_find (l := (s.extract (n + 2) m).data.toList) (b := 10) with ⟨e10, c10⟩ | ⟨q, e10, c10⟩
        · rw [e10] at H10
          have Hx : Hid (xattrR s k = some (n, v, m)) := by show _ = _; rw [Hd2.out, if_neg (fun h => h.elim (fun h => h hlt) (fun h => by rw [c9, c10] at h; cases h))]
          clear e9 e10 c9 c10 Hd2
          go_enter Tryz.func66, Tryz.ntmps66
          go_wp2_with fail
          refine (HN _).mono ?_
          rintro e w1 ⟨rfl, b1⟩
          go_wp2_with fail
          refine (HS _).mono ?_
          rintro e w2 ⟨rfl, rfl⟩
          go_wp2_with fail
          refine (HT _).mono ?_
          rintro e w3 ⟨rfl, b3⟩
          simp only [textV]
          replace b1 := b1.trans (b3.mono b1.size)
          clear b3
          go_wp2_with fail
          refine (H9 _).mono ?_
          rintro e w4 ⟨rfl, rfl⟩
          simp only [findV]
          go_wp2_with fail
          refine (H10 _).mono ?_
          rintro e w4 ⟨rfl, rfl⟩
          simp only [findV]
          have X : Hid (Box2 _ w.heap.size) := Box2.of b1
          have B : Hid (Below w.heap.size w _) := below_box b1
          clear b1
          have t0 := X.out.s0 (.string (s.extract k n)) (.string (strB v))
          have t1 := X.out.s1 (.string (s.extract k n)) (.string (strB v))
          obtain ⟨hx, hy, hf, hg, _, _⟩ := X.out
          go_wp2_with fail
          refine bodyPost_ret (v := .tuple #[.agg #[.string (s.extract k n), .string (strB v)], .int .i64 ((m + 1 : Nat) : Int)]) ?_ rfl ⟨by rw [Hx.out]; rfl, ?_⟩
          · simp [results, Tryz.results66, go_sem, t0, t1]
          · exact (B.out.setCell (Nat.le_refl _) _).setCell (Nat.le_refl _) _
        · rw [e10] at H10
          have gq : decide ((0 : Int) ≤ (q : Int)) = true := decide_eq_true (by omega)
          have Hx : Hid (xattrR s k = none) := by show _ = _; rw [Hd2.out, if_pos (.inr (by rw [c9, c10]; rfl))]
          clear e9 e10 c9 c10 Hd2
          go_enter Tryz.func66, Tryz.ntmps66
          go_wp2_with fail
          refine (HN _).mono ?_
          rintro e w1 ⟨rfl, b1⟩
          go_wp2_with fail
          refine (HS _).mono ?_
          rintro e w2 ⟨rfl, rfl⟩
          go_wp2_with fail
          refine (HT _).mono ?_
          rintro e w3 ⟨rfl, b3⟩
          simp only [textV]
          replace b1 := b1.trans (b3.mono b1.size)
          clear b3
          go_wp2_with fail
          refine (H9 _).mono ?_
          rintro e w4 ⟨rfl, rfl⟩
          simp only [findV]
          go_wp2_with fail
          refine (H10 _).mono ?_
          rintro e w4 ⟨rfl, rfl⟩
          simp only [findV]
          have X : Hid (Box2 _ w.heap.size) := Box2.of b1
          have B : Hid (Below w.heap.size w _) := below_box b1
          clear b1
          have t0 := X.out.s0 (.string ⟨#[]⟩) (.string ⟨#[]⟩)
          have t1 := X.out.s1 (.string ⟨#[]⟩) (.string ⟨#[]⟩)
          obtain ⟨hx, hy, hf, hg, _, _⟩ := X.out
          go_wp2_with fail
          refine bodyPost_ret (v := .tuple #[.agg #[.string ⟨#[]⟩, .string ⟨#[]⟩], .int .i64 (-1)]) ?_ rfl ⟨by rw [Hx.out]; rfl, ?_⟩
          · simp [results, Tryz.results66, go_sem, t0, t1]
          · exact (B.out.setCell (Nat.le_refl _) _).setCell (Nat.le_refl _) _
      · rw [e9] at H9
        have gq : decide ((0 : Int) ≤ (q : Int)) = true := decide_eq_true (by omega)
        have Hx : Hid (xattrR s k = none) := by show _ = _; rw [Hd2.out, if_pos (.inr (by rw [c9]; rfl))]
        clear e9 c9 Hd2 H10
        go_enter Tryz.func66, Tryz.ntmps66
        go_wp2_with fail
        refine (HN _).mono ?_
        rintro e w1 ⟨rfl, b1⟩
        go_wp2_with fail
        refine (HS _).mono ?_
        rintro e w2 ⟨rfl, rfl⟩
        go_wp2_with fail
        refine (HT _).mono ?_
        rintro e w3 ⟨rfl, b3⟩
        simp only [textV]
        replace b1 := b1.trans (b3.mono b1.size)
        clear b3
        go_wp2_with fail
        refine (H9 _).mono ?_
        rintro e w4 ⟨rfl, rfl⟩
        simp only [findV]
        have X : Hid (Box2 _ w.heap.size) := Box2.of b1
        have B : Hid (Below w.heap.size w _) := below_box b1
        clear b1
        have t0 := X.out.s0 (.string ⟨#[]⟩) (.string ⟨#[]⟩)
        have t1 := X.out.s1 (.string ⟨#[]⟩) (.string ⟨#[]⟩)
        obtain ⟨hx, hy, hf, hg, _, _⟩ := X.out
        go_wp2_with fail
        refine bodyPost_ret (v := .tuple #[.agg #[.string ⟨#[]⟩, .string ⟨#[]⟩], .int .i64 (-1)]) ?_ rfl ⟨by rw [Hx.out]; rfl, ?_⟩
        · simp [results, Tryz.results66, go_sem, t0, t1]
        · exact (B.out.setCell (Nat.le_refl _) _).setCell (Nat.le_refl _) _
    · have g1 : decide ((s.size : Int) ≤ (m : Int)) = true := decide_eq_true (by omega)
      have Hx : Hid (xattrR s k = none) := by show _ = _; rw [Hd2.out, if_pos (.inl hlt)]
      clear Hd2
      go_enter Tryz.func66, Tryz.ntmps66
      go_wp2_with fail
      refine (HN _).mono ?_
      rintro e w1 ⟨rfl, b1⟩
      go_wp2_with fail
      refine (HS _).mono ?_
      rintro e w2 ⟨rfl, rfl⟩
      go_wp2_with fail
      refine (HT _).mono ?_
      rintro e w3 ⟨rfl, b3⟩
      simp only [textV]
      replace b1 := b1.trans (b3.mono b1.size)
      clear b3
      have X : Hid (Box2 _ w.heap.size) := Box2.of b1
      have B : Hid (Below w.heap.size w _) := below_box b1
      clear b1
      have t0 := X.out.s0 (.string ⟨#[]⟩) (.string ⟨#[]⟩)
      have t1 := X.out.s1 (.string ⟨#[]⟩) (.string ⟨#[]⟩)
      obtain ⟨hx, hy, hf, hg, _, _⟩ := X.out
      go_wp2_with fail
      refine bodyPost_ret (v := .tuple #[.agg #[.string ⟨#[]⟩, .string ⟨#[]⟩], .int .i64 (-1)]) ?_ rfl ⟨by rw [Hx.out]; rfl, ?_⟩
      · simp [results, Tryz.results66, go_sem, t0, t1]
      · exact (B.out.setCell (Nat.le_refl _) _).setCell (Nat.le_refl _) _

end Go.Proofs.YthipdkagkdnaiaaGreatDoor.Sg

namespace Go.Proofs.YthipdkagkdnaiaaGreatDoor.Sg
open Go.ChangeShapes Go.WideShapes Go.ChangeAt Go.RowKit

def xaO (s : ByteArray) (i : Int) : Option (Nat × List UInt8 × Nat) := if 0 ≤ i ∧ i ≤ s.size then xattrR s i.toNat else none
def xaN (s : ByteArray) (i : Int) : ByteArray := ((xaO s i).map fun r => s.extract i.toNat r.1).getD ⟨#[]⟩
def xaV (s : ByteArray) (i : Int) : ByteArray := ((xaO s i).map fun r => strB r.2.1).getD ⟨#[]⟩
def xaI (s : ByteArray) (i : Int) : Int := ((xaO s i).map fun r => ((r.2.2 + 1 : Nat) : Int)).getD (-1)

theorem specXmlAttr (s : ByteArray) (i : Int) (w : World) (hs : s.size ≤ 1073741824) :
    Calls Tryz.prog 66 #[.string s, .int .i64 i] w fun e w' => e = .returned (.tuple #[.agg #[.string (xaN s i), .string (xaV s i)], .int .i64 (xaI s i)]) ∧ Below w.heap.size w w' := by
  by_cases h : 0 ≤ i ∧ i ≤ s.size
  · unfold xaN xaV xaI xaO
    rw [if_pos h]
    have C := specXmlAttr_in s i.toNat w (by omega) (by omega)
    rw [show ((i.toNat : Nat) : Int) = i by omega] at C
    refine C.mono fun e w' h => ⟨h.1.trans ?_, h.2⟩
    cases xattrR s i.toNat <;> rfl
  · unfold xaN xaV xaI xaO
    rw [if_neg h]
    exact specXmlAttr_out s i w (by omega)

end Go.Proofs.YthipdkagkdnaiaaGreatDoor.Sg

namespace Go.Proofs.YthipdkagkdnaiaaGreatDoor.Sg
open Go.ChangeShapes Go.WideShapes Go.ChangeAt Go.RowKit

theorem all_drop {p : Int → Bool} (zs : List Int) (k : Nat) (h : k < zs.length) : (zs.drop k).all p = (p (zs.getD k 0) && (zs.drop (k + 1)).all p) := by
  rw [List.drop_eq_getElem_cons h, List.all_cons]
  simp [h]

set_option maxHeartbeats 2000000 in
theorem specTextOk (s : ByteArray) (w : World) (hs : s.size ≤ 17592186044416) :
    Calls Tryz.prog 73 #[.string s] w fun e w' => e = .returned (.bool (stTextB s)) ∧ Below w.heap.size w w' := by
  have Hn : Hid (stTextB s = ((signsL s).all textB && cleanB s)) := rfl
  have hl := signsL_length s
  go_enter Tryz.func73, Tryz.ntmps73
  go_wp2_with fail
  refine (specSigns s _ hs).mono ?_
  rintro e w1 ⟨a, cap, rfl, o1, b1⟩
  have I1 : Hid (Ints w1 a (signsL s)) := o1.ints
  clear o1
  have Hc := fun W => specCleanOk s W hs
  generalize signsL s = zs at *
  generalize hlen : zs.length = n at *
  have Hlen : Hid (zs.length = n) := hlen
  clear hlen
  generalize cleanB s = cb at *
  go_wp2_with fail
  go_loopw [4] (fun i wr => ∃ k : Nat, k ≤ n ∧ i = .int .i64 k ∧ Hid (zs.all textB = (zs.drop k).all textB) ∧ Below w1.heap.size w1 wr) (fun i _ => n - (intOf i).toNat)
  case atStart => exact ⟨0, Nat.zero_le _, rfl, rfl, Below.refl _ _⟩
  case round =>
    obtain ⟨k, hk, rfl, Hk, hbel⟩ := hrel
    by_cases hlt : k < n
    · obtain ⟨b, o, rfl, hb, hc⟩ := I1.out.cell hbel (by rw [Hlen.out]; exact hlt)
      have hst := all_drop (p := textB) zs k (by rw [Hlen.out]; exact hlt)
      generalize hz : zs.getD k 0 = z at *
      clear hz
      have Hst : Hid (zs.all textB = (textB z && (zs.drop (k + 1)).all textB)) := Hk.out.trans hst
      clear hst Hk Hc
      have Hf := fun W => specIsText z W
      cases hf : textB z
      · have Hno : Hid (stTextB s = false) := by
          show _ = _
          rw [Hn.out, Hst.out, hf]
          rfl
        rw [hf] at Hf
        clear hf Hst Hn
        go_wp2_with fail
        refine (Hf _).mono ?_
        rintro e w2 ⟨rfl, rfl⟩
        go_wp2_with fail
        go_ret
        exact ⟨ret_bool Hno.out.symm, b1.trans (hbel.mono b1.size)⟩
      · have Hnx : Hid (zs.all textB = (zs.drop (k + 1)).all textB) := by
          show _ = _
          rw [Hst.out, hf]
          rfl
        rw [hf] at Hf
        clear hf Hst Hn
        go_wp2_with fail
        refine (Hf _).mono ?_
        rintro e w2 ⟨rfl, rfl⟩
        go_wp2_with fail
        go_roundw
        case rel => exact ⟨k + 1, by omega, by go_num, Hnx, hbel⟩
        case measure => simp [intOf]; omega
    · have Hall : Hid (stTextB s = cb) := by
        show _ = _
        have hd : zs.drop k = [] := List.drop_eq_nil_of_le (by have := Hlen.out; omega)
        rw [Hn.out, Hk.out, hd]
        rfl
      have g1 : decide ((k : Int) < (n : Int)) = false := decide_eq_false (by omega)
      clear Hn Hk I1
      go_wp2_with fail
      refine (Hc _).mono ?_
      rintro e w3 ⟨rfl, b3⟩
      go_wp2_with fail
      go_ret
      exact ⟨ret_bool Hall.out.symm, b1.trans ((hbel.trans (b3.mono hbel.size)).mono b1.size)⟩

end Go.Proofs.YthipdkagkdnaiaaGreatDoor.Sg

namespace Go.Proofs.YthipdkagkdnaiaaGreatDoor.Sg
open Go.ChangeShapes Go.WideShapes Go.ChangeAt Go.RowKit

/-- An attribute of that name is there. -/
def hasA (l : List AttrB) (x : ByteArray) : Bool := l.any fun p => p.1.toList == x.toList
theorem hasA_drop (l : List AttrB) (x : ByteArray) (k : Nat) (h : k < l.length) : hasA (l.drop k) x = (((l.getD k (ByteArray.empty, ByteArray.empty)).1.toList == x.toList) || hasA (l.drop (k + 1)) x) := by
  have e : l.getD k (ByteArray.empty, ByteArray.empty) = l[k]'h := by simp [List.getD, h]
  unfold hasA
  rw [List.drop_eq_getElem_cons h, List.any_cons, e]

set_option maxHeartbeats 2000000 in
theorem specHas (l : List AttrB) (x : ByteArray) (a : Option Addr) (n cap : Nat) (w : World) (ha : AttrsAt w a l) (hl : l.length = n) (hn : n ≤ 17592186044416) :
    Calls Tryz.prog 67 #[.slice a n cap, .string x] w fun e w' => e = .returned (.bool (hasA l x)) ∧ w' = w := by
  have Hl : Hid (l.length = n) := hl
  have Ha : Hid (AttrsAt w a l) := ha
  clear hl ha
  go_enter Tryz.func67, Tryz.ntmps67
  go_wp2
  go_loopw [5] (fun v wr => ∃ k : Nat, k ≤ n ∧ v = .int .i64 (k : Int) ∧ Hid (hasA l x = hasA (l.drop k) x) ∧ wr = w) (fun v _ => n - (intOf v).toNat)
  case atStart => exact ⟨0, Nat.zero_le _, rfl, rfl, rfl⟩
  case round =>
    obtain ⟨k, hk, rfl, Hsp, rfl⟩ := hrel
    by_cases hlt : k < n
    · have hkl : k < l.length := by rw [Hl.out]; exact hlt
      rcases Ha.out with h | ⟨b, rfl, hb, hc⟩
      · rw [h] at hkl
        exact absurd hkl (Nat.not_lt_zero _)
      have hd := hasA_drop l x k hkl
      obtain ⟨c1, _⟩ := hc k hkl
      clear hc hkl
      generalize (l.getD k (ByteArray.empty, ByteArray.empty)).1 = y at *
      cases hq : y.toList == x.toList
      · have Hn : Hid (hasA l x = hasA (l.drop (k + 1)) x) := by show _ = _; rw [Hsp.out, hd, hq]; rfl
        clear hd Hsp
        go_wp2
        go_roundw
        case rel => exact ⟨k + 1, by omega, by go_num, Hn, by first | trivial | rfl⟩
        case measure => simp [intOf]; omega
      · have Hn : Hid (hasA l x = true) := by show _ = _; rw [Hsp.out, hd, hq]; rfl
        clear hd Hsp
        go_wp2
        go_ret
        exact ⟨ret_bool Hn.out.symm, rfl⟩
    · have Hn : Hid (hasA l x = false) := by
        show _ = _
        rw [Hsp.out, List.drop_eq_nil_of_le (by have := Hl.out; omega)]
        rfl
      have g0 : decide ((k : Int) < (n : Int)) = false := decide_eq_false (by omega)
      clear Hsp
      go_wp2
      go_ret
      exact ⟨ret_bool Hn.out.symm, rfl⟩

end Go.Proofs.YthipdkagkdnaiaaGreatDoor.Sg

namespace Go.Proofs.YthipdkagkdnaiaaGreatDoor.Sg
open Go.ChangeShapes Go.WideShapes Go.ChangeAt Go.RowKit

theorem ret_bo {a b : Bool} (h : a = b) : Ending.returned (.bool a) = .returned (.bool b) := by rw [h]
theorem attrs_one {w : World} {a : Option Addr} {l : List AttrB} (h : AttrsAt w a l) (k : Nat) (hk : k < l.length) : ∃ b, a = some ⟨b, 0, none⟩ ∧ w.cell? ⟨b, k * 2, none⟩ = some (.string (l[k]'hk).1) ∧ w.cell? ⟨b, k * 2 + 1, none⟩ = some (.string (l[k]'hk).2) := by
  rcases h with h | ⟨b, h1, _, h3⟩
  · rw [h] at hk
    exact absurd hk (Nat.not_lt_zero _)
  · have h4 := h3 k hk
    simp only [List.getD, List.getElem?_eq_getElem hk, Option.getD_some] at h4
    exact ⟨b, h1, h4⟩

end Go.Proofs.YthipdkagkdnaiaaGreatDoor.Sg

namespace Go.Proofs.YthipdkagkdnaiaaGreatDoor.Sg
open Go.ChangeShapes Go.WideShapes Go.ChangeAt Go.RowKit

def xmlnsB : ByteArray := ⟨#[120, 109, 108, 110, 115]⟩
/-- One attribute is strict, and its name is new. -/
def attrSt (l : List AttrB) (k : Nat) (p : AttrB) : Bool := stNameB p.1 && (!(p.1.toList == xmlnsB.toList) && (stTextB p.2 && !hasA (l.take k) p.1))
/-- Attributes from a place on are strict. -/
def attrsSt (l : List AttrB) (k : Nat) : Bool := if h : k < l.length then attrSt l k (l[k]'h) && attrsSt l (k + 1) else true
  termination_by l.length - k
theorem attrsSt_step {l : List AttrB} {k : Nat} (h : k < l.length) : attrsSt l k = (attrSt l k (l[k]'h) && attrsSt l (k + 1)) := by rw [attrsSt, dif_pos h]
theorem attrsSt_end {l : List AttrB} {k : Nat} (h : ¬ k < l.length) : attrsSt l k = true := by rw [attrsSt, dif_neg h]
theorem ret_st {a b : Bool} (h : a = b) : Ending.returned (.bool a) = .returned (.bool b) := by rw [h]
theorem AttrsAt.first {w : World} {a : Option Addr} {l : List AttrB} (h : AttrsAt w a l) (k : Nat) : AttrsAt w a (l.take k) := by
  rcases h with h | ⟨b, h1, h2, h3⟩
  · left
    rw [h]
    simp
  · refine .inr ⟨b, h1, h2, fun j hj => ?_⟩
    rw [List.length_take] at hj
    have := h3 j (by omega)
    have e : (l.take k).getD j (ByteArray.empty, ByteArray.empty) = l.getD j (ByteArray.empty, ByteArray.empty) := by
      simp only [List.getD_eq_getElem?_getD]
      rw [List.getElem?_take_of_lt (by omega)]
    rw [e]
    exact this

set_option maxRecDepth 20000 in
set_option maxHeartbeats 8000000 in
theorem specAttrsSt (l : List AttrB) (a : Option Addr) (n cap : Nat) (w : World) (ha : AttrsAt w a l) (hl : l.length = n) (hn : n ≤ 16777216) (hcap : n ≤ cap) (hsz : ∀ p ∈ l, p.1.size ≤ 16777216 ∧ p.2.size ≤ 16777216) :
    Calls Tryz.prog 72 #[.slice a n cap] w fun e w' => e = .returned (.bool (attrsSt l 0)) ∧ Below w.heap.size w w' := by
  have HA : Hid (AttrsAt w a l) := ha
  have Hl : Hid (l.length = n) := hl
  have HW : Hid (∀ p ∈ l, p.1.size ≤ 16777216 ∧ p.2.size ≤ 16777216) := hsz
  obtain ⟨R, HR⟩ : ∃ R, Hid (attrsSt l 0 = R) := ⟨_, rfl⟩
  rw [HR.out]
  clear ha hl hsz
  go_enter Tryz.func72, Tryz.ntmps72
  go_wp2_with fail
  go_loopw [3] (fun iv wr => ∃ k : Nat, k ≤ n ∧ iv = .int .i64 (k : Int) ∧ Hid (attrsSt l k = R) ∧ Below w.heap.size w wr) (fun iv _ => n - (intOf iv).toNat)
  case atStart => exact ⟨0, Nat.zero_le _, rfl, HR, Below.refl _ _⟩
  case round =>
    clear HR
    obtain ⟨k, hk, rfl, HR, hbel⟩ := hrel
    by_cases hlt : k < n
    · have hkl : k < l.length := by rw [Hl.out]; exact hlt
      have HAr : Hid (AttrsAt wr a l) := HA.out.below hbel
      obtain ⟨b, rfl, c0, c1⟩ := attrs_one HAr.out k hkl
      have hp := HW.out _ (List.getElem_mem hkl)
      have hst := HR.out
      rw [attrsSt_step hkl] at hst
      generalize l[k]'hkl = p at *
      clear hkl
      obtain ⟨x, v⟩ := p
      simp only at c0 c1 hp
      have HN := fun W => specNameOk x W (by omega)
      have HT := fun W => specTextOk v W (by omega)
      have HH : ∀ W, Below wr.heap.size wr W → Calls Tryz.prog 67 #[.slice (some ⟨b, 0, none⟩) k cap, .string x] W fun e w' => e = .returned (.bool (hasA (l.take k) x)) ∧ Below W.heap.size W w' := fun W hW => (specHas (l.take k) x (some ⟨b, 0, none⟩) k cap W ((HAr.out.below hW).first k) (by rw [List.length_take, Hl.out]; omega) (by omega)).mono fun e w' h => ⟨h.1, h.2 ▸ Below.refl _ _⟩
      have Hok : Hid (attrSt l k (x, v) = (stNameB x && (!(x.toList == xmlnsB.toList) && (stTextB v && !hasA (l.take k) x)))) := rfl
      have exm : xmlnsB.toList = [120, 109, 108, 110, 115] := ByteArray.toList_mk _
      generalize attrSt l k (x, v) = okb at *
      generalize hasA (l.take k) x = hb at *
      have k0 : (0 : Int) ≤ (k : Int) := by omega
      have k1 : (k : Int) < (n : Int) := by omega
      have k2 : (k : Int) ≤ (cap : Int) := by omega
      have HB : Hid (∀ wx : World, Below wr.heap.size wr wx → Below w.heap.size w wx) := fun wx h => hbel.trans (h.mono hbel.size)
      clear HAr HR
      have z0 := cell_regrown c0
      have z1 := cell_regrown c1
      cases hN : stNameB x
      · rw [hN] at HN Hok
        have Hno : Hid (R = false) := by show _ = _; rw [← hst, Hok.out]; simp
        clear hst Hok
        have cN := fun d os => Calls.regrown_of (w := wr) (HN (Sort.grow (redrawn wr d) os))
        clear HN HT HH
        go_upto_region 4 with fail
        refine wp_region_quiet_below (by kernel_rfl) (by kernel_rfl) ?_
        repeat (go_big_quiet_step (first | exact cN _ _))
        refine wpQuiet_nil ?_
        intro _ hw'
        obtain ⟨⟨dq, osq⟩, hw''⟩ := hw'
        subst hw''
        have bfin := HB.out _ (below_regrown wr dq osq)
        generalize Sort.grow (redrawn wr dq) osq = W at *
        go_wp2_with fail
        go_ret
        exact ⟨ret_st Hno.out.symm, bfin⟩
      · rw [hN] at HN Hok
        cases hX : (x.toList == [120, 109, 108, 110, 115])
        · rw [exm, hX] at Hok
          cases hT : stTextB v
          · rw [hT] at HT Hok
            have Hno : Hid (R = false) := by show _ = _; rw [← hst, Hok.out]; simp
            clear hst Hok
            have cN := fun d os => Calls.regrown_of (w := wr) (HN (Sort.grow (redrawn wr d) os))
            have cT := fun d os => Calls.regrown_of (w := wr) (HT (Sort.grow (redrawn wr d) os))
            clear HN HT HH
            go_upto_region 4 with fail
            refine wp_region_quiet_below (by kernel_rfl) (by kernel_rfl) ?_
            repeat (go_big_quiet_step (first | exact cN _ _ | exact cT _ _))
            refine wpQuiet_nil ?_
            intro _ hw'
            obtain ⟨⟨dq, osq⟩, hw''⟩ := hw'
            subst hw''
            have bfin := HB.out _ (below_regrown wr dq osq)
            generalize Sort.grow (redrawn wr dq) osq = W at *
            go_wp2_with fail
            go_ret
            exact ⟨ret_st Hno.out.symm, bfin⟩
          · rw [hT] at HT Hok
            cases hH : hb
            · rw [hH] at HH Hok
              have HR2 : Hid (attrsSt l (k + 1) = R) := by show _ = _; rw [← hst, Hok.out]; simp
              clear hst Hok
              have cN := fun d os => Calls.regrown_of (w := wr) (HN (Sort.grow (redrawn wr d) os))
              have cT := fun d os => Calls.regrown_of (w := wr) (HT (Sort.grow (redrawn wr d) os))
              have cH := fun d os => Calls.regrown_of (w := wr) (HH (Sort.grow (redrawn wr d) os) (below_regrown wr d os))
              clear HN HT HH
              go_upto_region 4 with fail
              refine wp_region_quiet_below (by kernel_rfl) (by kernel_rfl) ?_
              repeat (go_big_quiet_step (first | exact cN _ _ | exact cT _ _ | exact cH _ _))
              refine wpQuiet_nil ?_
              intro _ hw'
              obtain ⟨⟨dq, osq⟩, hw''⟩ := hw'
              subst hw''
              have bfin := HB.out _ (below_regrown wr dq osq)
              generalize Sort.grow (redrawn wr dq) osq = W at *
              go_wp2_with fail
              go_roundw
              case rel => exact ⟨k + 1, by omega, by go_num, HR2, bfin⟩
              case measure => simp [intOf]; omega
            · rw [hH] at HH Hok
              have Hno : Hid (R = false) := by show _ = _; rw [← hst, Hok.out]; simp
              clear hst Hok
              have cN := fun d os => Calls.regrown_of (w := wr) (HN (Sort.grow (redrawn wr d) os))
              have cT := fun d os => Calls.regrown_of (w := wr) (HT (Sort.grow (redrawn wr d) os))
              have cH := fun d os => Calls.regrown_of (w := wr) (HH (Sort.grow (redrawn wr d) os) (below_regrown wr d os))
              clear HN HT HH
              go_upto_region 4 with fail
              refine wp_region_quiet_below (by kernel_rfl) (by kernel_rfl) ?_
              repeat (go_big_quiet_step (first | exact cN _ _ | exact cT _ _ | exact cH _ _))
              refine wpQuiet_nil ?_
              intro _ hw'
              obtain ⟨⟨dq, osq⟩, hw''⟩ := hw'
              subst hw''
              have bfin := HB.out _ (below_regrown wr dq osq)
              generalize Sort.grow (redrawn wr dq) osq = W at *
              go_wp2_with fail
              go_ret
              exact ⟨ret_st Hno.out.symm, bfin⟩
        · rw [exm, hX] at Hok
          have Hno : Hid (R = false) := by show _ = _; rw [← hst, Hok.out]; simp
          clear hst Hok
          have cN := fun d os => Calls.regrown_of (w := wr) (HN (Sort.grow (redrawn wr d) os))
          clear HN HT HH
          go_upto_region 4 with fail
          refine wp_region_quiet_below (by kernel_rfl) (by kernel_rfl) ?_
          repeat (go_big_quiet_step (first | exact cN _ _))
          refine wpQuiet_nil ?_
          intro _ hw'
          obtain ⟨⟨dq, osq⟩, hw''⟩ := hw'
          subst hw''
          have bfin := HB.out _ (below_regrown wr dq osq)
          generalize Sort.grow (redrawn wr dq) osq = W at *
          go_wp2_with fail
          go_ret
          exact ⟨ret_st Hno.out.symm, bfin⟩
    · have Hf : Hid (R = true) := by
        show _ = _
        rw [← HR.out, attrsSt_end (by rw [Hl.out]; exact hlt)]
      have g1 : decide ((k : Int) < (n : Int)) = false := decide_eq_false (by omega)
      clear HR
      go_wp2_with fail
      go_ret
      exact ⟨ret_st Hf.out.symm, hbel⟩

end Go.Proofs.YthipdkagkdnaiaaGreatDoor.Sg

namespace Go.Proofs.YthipdkagkdnaiaaGreatDoor.Sg
open Go.ChangeShapes Go.WideShapes Go.ChangeAt Go.RowKit

/-- The space of a name, -1 of none. -/
def spaceG (v : ByteArray) : Nat → Nat → Int
  | 0, _ => -1
  | f + 1, k => if (spaceS (k : Int)).toList == v.toList then (k : Int) else spaceG v f (k + 1)
def spaceI (v : ByteArray) : Int := spaceG v 3 0
theorem xattrR_le {s : ByteArray} {k : Nat} {r : Nat × List UInt8 × Nat} (hk : k ≤ s.size) (h : xattrR s k = some r) : k + 3 ≤ r.2.2 ∧ r.2.2 + 1 ≤ s.size ∧ k ≤ r.1 ∧ (r.1 - k) + r.2.1.length ≤ 4 * (r.2.2 - k) := by
  unfold xattrR at h
  simp only at h
  have h1 := xnameE_le s (s.size - k) k true (Nat.le_refl _) hk
  split at h
  · cases h
  · rename_i h2
    have h3 : xnameE s true k ≠ k := fun e => h2 (.inl e)
    have h4 : standsB s (xnameE s true k) eqB = true := by
      cases e : standsB s (xnameE s true k) eqB
      · exact absurd (.inr e) h2
      · rfl
    have h5 := stands_le h4
    have h6 : eqB.size = 2 := rfl
    split at h
    · cases h
    · rename_i v m hx
      have h7 := xtextR_le s [34] (s.size - (xnameE s true k + 2)) (xnameE s true k + 2) (v, m) (Nat.le_refl _) (by omega) hx
      simp only at h7
      split at h
      · cases h
      · rename_i h8
        have h9 : m < s.size := by
          by_cases h10 : m < s.size
          · exact h10
          · exact absurd (.inl h10) h8
        injection h with h
        subst h
        simp only
        exact ⟨by omega, by omega, by omega, by omega⟩
theorem xaI_le {s : ByteArray} {i : Nat} (h : ¬ xaI s ((i : Int) + 1) < 0) : ∃ j : Nat, xaI s ((i : Int) + 1) = (j : Int) ∧ i + 2 ≤ j ∧ j ≤ s.size ∧ (xaN s ((i : Int) + 1)).size + (xaV s ((i : Int) + 1)).size ≤ 4 * (j - i) := by
  unfold xaI xaN xaV at *
  unfold xaO at *
  by_cases h1 : 0 ≤ (i : Int) + 1 ∧ (i : Int) + 1 ≤ s.size
  · rw [if_pos h1] at h ⊢
    have e : ((i : Int) + 1).toNat = i + 1 := by omega
    rw [e] at h ⊢
    cases hx : xattrR s (i + 1) with
    | none =>
      rw [hx] at h
      exact absurd (by decide) h
    | some r =>
      have h2 := xattrR_le (by omega) hx
      refine ⟨r.2.2 + 1, rfl, by omega, by omega, ?_⟩
      show (s.extract (i + 1) r.1).size + (strB r.2.1).size ≤ _
      rw [strB_size, ByteArray.size_extract]
      omega
  · rw [if_neg h1] at h
    exact absurd (by decide) h

/-- Attributes from place i on, the space that they tell, and where they end; none: refused. -/
def attrsR (s : ByteArray) (about : Int) : Nat → Nat → List AttrB → Int → Bool → Option (List AttrB × Int × Nat)
  | 0, _, _, _, _ => none
  | f + 1, i, out, sp, told =>
    if s.data[i]? = some 32 then
      if xaI s ((i : Int) + 1) < 0 then none
      else if hasA out (xaN s ((i : Int) + 1)) = true ∨ (((xaN s ((i : Int) + 1)).toList == xmlnsB.toList) = true ∧ told = true) then none
      else if ((xaN s ((i : Int) + 1)).toList == xmlnsB.toList) = true then
        if spaceI (xaV s ((i : Int) + 1)) = about then none else attrsR s about f (xaI s ((i : Int) + 1)).toNat out (spaceI (xaV s ((i : Int) + 1))) true
      else attrsR s about f (xaI s ((i : Int) + 1)).toNat (out ++ [(xaN s ((i : Int) + 1), xaV s ((i : Int) + 1))]) sp told
    else if 0 ≤ sp ∧ sp ≤ 2 then some (out, sp, i) else none

end Go.Proofs.YthipdkagkdnaiaaGreatDoor.Sg
