/- Contracts of the program's IsLetter, IsFirst and IsNext. The program's mayStand, checkName and NameOk. The program's XmlName answers as the model's. The program's isNoText, slices.ContainsFunc over numbers, and TextOk. The program's NoteOk answers as the plain one. The program's noteAt and XmlNote. What stays of a builder where nothing that was there has turned. The program's textAt. Plain: the program's reader reads piece by piece: a note, a tag or a text; at the top texts, too, which no document has. -/
import Derived.Test.YthipdkagkdnaiaaGreatDoorKdSpan
import Derived.Test.YthipdkagkdnaiaaGreatDoorMRD07
import Derived.Test.YthipdkagkdnaiaaGreatDoorPcSign
import Derived.Test.YthipdkagkdnaiaaGreatDoorMRD04
import Derived.Shelf.Abstract
import Derived.Test.YthipdkagkdnaiaaGreatDoorGMaxLen
import Derived.Test.YthipdkagkdnaiaaGreatDoorShelf
import Derived.Test.YthipdkagkdnaiaaGreatDoorMRD10
import Derived.Test.YthipdkagkdnaiaaGreatDoorMRD09
import Derived.Test.YthipdkagkdnaiaaGreatDoorMRD08
import Derived.Test.YthipdkagkdnaiaaGreatDoorMRD15
namespace Go.Proofs.YthipdkagkdnaiaaGreatDoor.Sg
open Go.ChangeShapes Go.WideShapes Go.ChangeAt Go.RowKit

theorem Spans.at_first (w : World) (l : List (Int × Int)) (C : Array Value) (t : TypeId) (hC : C = (spanCells l).toArray) : Spans (w.alloc (.cells C t)) w.heap.size l := by
  subst hC
  exact Spans.laid w l t

theorem letter_no : ∀ p ∈ letterL, p ≠ (0, 0) := by decide
theorem first_no : ∀ p ∈ firstL, p ≠ (0, 0) := by decide
theorem next_no : ∀ p ∈ nextL, p ≠ (0, 0) := by decide

set_option maxHeartbeats 1000000 in
/-- Two spans are compared end by end. -/
theorem eq_span (a b c d : Int) (w : World) : (Op.equalIn 10000 159 (.agg #[.int .i64 a, .int .i64 b]) (.agg #[.int .i64 c, .int .i64 d])).run Tryz.prog w = .ok (a == c && b == d) w := by
  have u3 := Tryz.underlying3
  have a3 := Tryz.isAgg3
  have z3 := Tryz.sizeOf3
  rw [show (10000 : Nat) = 9999 + 1 from rfl, Op.equalIn]
  simp only [Sem.run_bind, run_underlying Tryz.underlying159, Result.andThen_ok]
  simp only [Std.Legacy.Range.forIn_eq_forIn_range', Std.Legacy.Range.size, Nat.sub_zero, Nat.add_sub_cancel, Nat.div_one, List.range'_succ, List.range'_zero, List.forIn_cons, List.forIn_nil]
  go_simp
  by_cases h1 : a = c <;> by_cases h2 : b = d <;> simp [h1, h2]

theorem eq_none (p : Int × Int) : (!(p.1 == 0) || !(p.2 == 0)) = !decide (p = (0, 0)) := by
  obtain ⟨a, b⟩ := p
  by_cases h1 : a = 0 <;> by_cases h2 : b = 0 <;> simp [h1, h2]

set_option maxHeartbeats 1000000 in
theorem implIsLetter (n : Int) (w : World) :
    Calls Tryz.prog 136 #[.int .i64 n] w fun e w' => e = .returned (.bool (letterB n)) ∧ Below w.heap.size w w' := by
  have Hw : Hid (letterB n = (!((spanS letterL n).1 == 0) || !((spanS letterL n).2 == 0))) := ((eq_none _).trans (spanS_any letterL n letter_no)).symm
  go_enter Tryz.func136, Tryz.ntmps136
  go_wp2_with fail
  refine (implSpanOf n w.heap.size 2 2 letterL _ (Spans.at_first w letterL _ _ rfl) rfl (by decide)).mono ?_
  rintro e w1 ⟨rfl, hb1⟩
  have hbel : Below w.heap.size w w1 := ((Below.refl _ w).alloc (Nat.le_refl _) _).trans (hb1.mono (by simp))
  have he := fun w => eq_span (spanS letterL n).1 (spanS letterL n).2 0 0 w
  clear hb1
  go_wp2
  go_ret
  exact ⟨ret_bool Hw.out.symm, hbel⟩

set_option maxHeartbeats 1000000 in
theorem implIsFirst (n : Int) (w : World) :
    Calls Tryz.prog 117 #[.int .i64 n] w fun e w' => e = .returned (.bool (firstB n)) ∧ Below w.heap.size w w' := by
  have Hw : Hid (withinB firstL n = (!((spanS firstL n).1 == 0) || !((spanS firstL n).2 == 0))) := ((eq_none _).trans (spanS_any firstL n first_no)).symm
  go_enter Tryz.func117, Tryz.ntmps117
  go_wp2_with fail
  refine (implIsLetter n _).mono ?_
  rintro e w1 ⟨rfl, hb1⟩
  cases hl : letterB n
  · have Hl : Hid (firstB n = withinB firstL n) := by show firstB n = _; unfold firstB; rw [hl]; rfl
    clear hl
    go_wp2_with fail
    refine (implFirstSpan n _).mono ?_
    rintro e w2 ⟨rfl, hb2⟩
    have hbel : Below w.heap.size w w2 := hb1.trans (hb2.mono hb1.size)
    have he := fun w => eq_span (spanS firstL n).1 (spanS firstL n).2 0 0 w
    clear hb1 hb2
    go_wp2
    go_ret
    exact ⟨ret_bool (Hl.out.trans Hw.out).symm, hbel⟩
  · have Hl : Hid (firstB n = true) := by show firstB n = _; unfold firstB; rw [hl]; rfl
    clear hl
    go_wp2
    go_ret
    exact ⟨ret_bool Hl.out.symm, hb1⟩

set_option maxHeartbeats 1000000 in
theorem implIsNext (n : Int) (w : World) :
    Calls Tryz.prog 118 #[.int .i64 n] w fun e w' => e = .returned (.bool (nextB n)) ∧ Below w.heap.size w w' := by
  have Hw : Hid (withinB nextL n = (!((spanS nextL n).1 == 0) || !((spanS nextL n).2 == 0))) := ((eq_none _).trans (spanS_any nextL n next_no)).symm
  go_enter Tryz.func118, Tryz.ntmps118
  go_wp2_with fail
  refine (implIsFirst n _).mono ?_
  rintro e w1 ⟨rfl, hb1⟩
  cases hl : firstB n
  · have Hl : Hid (nextB n = withinB nextL n) := by show nextB n = _; unfold nextB; rw [hl]; rfl
    clear hl
    go_wp2_with fail
    refine (implNextSpan n _).mono ?_
    rintro e w2 ⟨rfl, hb2⟩
    have hbel : Below w.heap.size w w2 := hb1.trans (hb2.mono hb1.size)
    have he := fun w => eq_span (spanS nextL n).1 (spanS nextL n).2 0 0 w
    clear hb1 hb2
    go_wp2
    go_ret
    exact ⟨ret_bool (Hl.out.trans Hw.out).symm, hbel⟩
  · have Hl : Hid (nextB n = true) := by show nextB n = _; unfold nextB; rw [hl]; rfl
    clear hl
    go_wp2
    go_ret
    exact ⟨ret_bool Hl.out.symm, hb1⟩

end Go.Proofs.YthipdkagkdnaiaaGreatDoor.Sg

namespace Go.Proofs.YthipdkagkdnaiaaGreatDoor.Sg
open Go.ChangeShapes Go.WideShapes Go.ChangeAt Go.RowKit

/-- Whether the sign at that place may stand there. -/
def stayAt (zs : List Int) (k : Nat) : Bool := stayB (decide (k = 0)) (zs.getD k 0)

theorem stName_from (zs : List Int) (m : Nat) : ∀ k, zs.length - k = m → (stNameL (decide (k = 0)) (zs.drop k) = true ↔ ∀ j, k ≤ j → j < zs.length → stayAt zs j = true) := by
  induction m with
  | zero =>
    intro k hk
    rw [List.drop_eq_nil_of_le (by omega)]
    unfold stNameL
    exact ⟨fun _ j h1 h2 => by omega, fun _ => rfl⟩
  | succ m ih =>
    intro k hk
    have hlt : k < zs.length := by omega
    rw [stNameL_drop zs k hlt, Bool.and_eq_true]
    have h1 := ih (k + 1) (by omega)
    rw [decide_eq_false (by omega : ¬ k + 1 = 0)] at h1
    rw [h1]
    constructor
    · rintro ⟨h2, h3⟩ j hj hj2
      by_cases e : j = k
      · subst e
        exact h2
      · exact h3 j (by omega) hj2
    · intro h
      exact ⟨h k (Nat.le_refl _) hlt, fun j hj hj2 => h j (by omega) hj2⟩
theorem stName_iff (zs : List Int) : stNameL true zs = true ↔ ∀ j, j < zs.length → stayAt zs j = true := by
  have h := stName_from zs zs.length 0 rfl
  rw [List.drop_zero, decide_eq_true rfl] at h
  rw [h]
  exact ⟨fun h j hj => h j (Nat.zero_le _) hj, fun h j _ hj => h j hj⟩

theorem implMayStand (z : Int) (k : Nat) (w : World) :
    Calls Tryz.prog 99 #[.int .i64 z, .int .i64 (k : Int)] w fun e w' => e = .returned (.bool (stayB (decide (k = 0)) z)) ∧ Below w.heap.size w w' := by
  by_cases h0 : k = 0
  · subst h0
    have g0 : (((0 : Nat) : Int) == 0) = true := rfl
    go_enter Tryz.func99, Tryz.ntmps99
    go_wp2_with fail
    refine (implIsFirst z _).mono ?_
    rintro e w1 ⟨rfl, b1⟩
    go_wp2_with fail
    go_ret
    exact ⟨rfl, b1⟩
  · have g0 : ((k : Int) == 0) = false := by simp; exact h0
    have Hd : Hid (stayB (decide (k = 0)) z = nextB z) := by show _ = _; rw [decide_eq_false h0]; rfl
    clear h0
    go_enter Tryz.func99, Tryz.ntmps99
    go_wp2_with fail
    refine (implIsNext z _).mono ?_
    rintro e w1 ⟨rfl, b1⟩
    go_wp2_with fail
    go_ret
    exact ⟨ret_bool Hd.out.symm, b1⟩

/-- What checkName tells of signs from a place on: nothing, or the first place at which they are none. -/
def CheckR (zs : List Int) (fr : Nat) (e : Ending) : Prop :=
  (e = .returned .nilIface ∧ zs ≠ [] ∧ ∀ k, fr ≤ k → k < zs.length → stayAt zs k = true) ∨
  (∃ m : Nat, e = .returned (.iface 216 (.agg #[.int .i64 (m : Int)])) ∧ ((zs = [] ∧ m = 0) ∨ (fr ≤ m ∧ m < zs.length ∧ (∀ k, fr ≤ k → k < m → stayAt zs k = true) ∧ stayAt zs m = false)))

set_option maxHeartbeats 2000000 in
theorem implCheckName (zs : List Int) (a : Option Addr) (ca fr : Nat) (w : World) (ha : Ints w a zs) (hn : zs.length ≤ 17592186044416) (hf : fr ≤ zs.length) :
    Calls Tryz.prog 202 #[.slice a zs.length ca, .int .i64 (fr : Int)] w fun e w' => CheckR zs fr e ∧ Below w.heap.size w w' := by
  have I1 : Hid (Ints w a zs) := ha
  clear ha
  by_cases hz : zs.length = 0
  · have hnil : zs = [] := List.eq_nil_of_length_eq_zero hz
    subst hnil
    go_enter Tryz.func202, Tryz.ntmps202
    go_wp2_with fail
    go_ret
    exact ⟨.inr ⟨0, rfl, .inl ⟨rfl, rfl⟩⟩, Below.refl _ _⟩
  have Hne : Hid (zs ≠ []) := by
    show zs ≠ []
    intro e
    exact hz (by rw [e]; rfl)
  generalize hlen : zs.length = n at *
  have Hlen : Hid (zs.length = n) := hlen
  clear hlen
  have g0 : ((n : Int) == 0) = false := by simp; exact hz
  clear hz
  go_enter Tryz.func202, Tryz.ntmps202
  go_wp2_with fail
  go_loopw [5] (fun i wr => ∃ k : Nat, fr ≤ k ∧ k ≤ n ∧ i = .int .i64 k ∧ Hid (∀ j, fr ≤ j → j < k → stayAt zs j = true) ∧ Below w.heap.size w wr) (fun i _ => n - (intOf i).toNat)
  case atStart => exact ⟨fr, Nat.le_refl _, hf, rfl, fun j h1 h2 => by omega, Below.refl _ _⟩
  case round =>
    obtain ⟨k, hfk, hk, rfl, Hk, hbel⟩ := hrel
    by_cases hlt : k < n
    · obtain ⟨b, o, rfl, hb, hc⟩ := I1.out.cell hbel (by rw [Hlen.out]; exact hlt)
      have g1 : decide ((k : Int) < (n : Int)) = true := decide_eq_true (by omega)
      have Hst : Hid (stayAt zs k = stayB (decide (k = 0)) (zs.getD k 0)) := rfl
      generalize hz : zs.getD k 0 = z at *
      clear hz
      cases hs : stayB (decide (k = 0)) z
      · have Hm : ∀ W, Calls Tryz.prog 99 #[.int .i64 z, .int .i64 (k : Int)] W fun e w' => e = .returned (.bool false) ∧ Below W.heap.size W w' := fun W => hs ▸ implMayStand z k W
        have Hs : Hid (stayAt zs k = false) := Hst.out.trans hs
        clear hs Hst
        go_wp2_with fail
        refine (Hm _).mono ?_
        rintro e w1 ⟨rfl, b1⟩
        go_wp2_with fail
        go_ret
        exact ⟨.inr ⟨k, rfl, .inr ⟨hfk, by rw [Hlen.out]; exact hlt, Hk.out, Hs.out⟩⟩, hbel.trans (b1.mono hbel.size)⟩
      · have Hm : ∀ W, Calls Tryz.prog 99 #[.int .i64 z, .int .i64 (k : Int)] W fun e w' => e = .returned (.bool true) ∧ Below W.heap.size W w' := fun W => hs ▸ implMayStand z k W
        have Hs : Hid (∀ j, fr ≤ j → j < k + 1 → stayAt zs j = true) := by
          intro j h1 h2
          by_cases e : j = k
          · subst e
            exact Hst.out.trans hs
          · exact Hk.out j h1 (by omega)
        clear hs Hst Hk
        go_wp2_with fail
        refine (Hm _).mono ?_
        rintro e w1 ⟨rfl, b1⟩
        have b1' : Below w.heap.size w w1 := hbel.trans (b1.mono hbel.size)
        clear b1 hbel hc
        go_wp2_with fail
        go_roundw
        case rel => exact ⟨k + 1, by omega, by omega, by go_num, Hs, b1'⟩
        case measure => simp [intOf]; omega
    · have g1 : decide ((k : Int) < (n : Int)) = false := decide_eq_false (by omega)
      have Hall : Hid (∀ j, fr ≤ j → j < zs.length → stayAt zs j = true) := fun j h1 h2 => Hk.out j h1 (by have := Hlen.out; omega)
      clear Hk
      go_wp2_with fail
      go_ret
      exact ⟨.inl ⟨rfl, Hne.out, Hall.out⟩, hbel⟩

set_option maxHeartbeats 2000000 in
theorem implNameOk (s : ByteArray) (w : World) (hs : s.size ≤ 17592186044416) (hT : Lib.Utf8Tabs 2 3 w) :
    Calls Tryz.prog 199 #[.string s] w fun e w' => e = .returned (.bool (stNameB s)) ∧ Below w.heap.size w w' := by
  have Hn : Hid (stNameB s = (stNameL true (signsL s) && decide (s.size ≠ 0) && cleanB s)) := rfl
  have HT : Hid (Lib.Utf8Tabs 2 3 w) := hT
  clear hT
  have hl := signsL_length s
  have Hz : Hid (signsL s ≠ [] → s.size ≠ 0) := by
    intro h e
    exact h (List.eq_nil_of_length_eq_zero (by omega))
  have Hc := fun W h => implCleanOk s W hs h
  cases hcb : cleanB s
  · have Hno : Hid (stNameB s = false) := by show _ = _; rw [Hn.out, hcb, Bool.and_false]
    rw [hcb] at Hc
    clear hcb Hn
    go_enter Tryz.func199, Tryz.ntmps199
    go_wp2_with fail
    refine (Hc _ HT.out).mono ?_
    rintro e w1 ⟨rfl, b1⟩
    go_wp2_with fail
    go_ret
    exact ⟨ret_bool Hno.out.symm, b1⟩
  · have Hy : Hid (stNameB s = (stNameL true (signsL s) && decide (s.size ≠ 0))) := by show _ = _; rw [Hn.out, hcb, Bool.and_true]
    rw [hcb] at Hc
    clear hcb Hn
    go_enter Tryz.func199, Tryz.ntmps199
    go_wp2_with fail
    refine (Hc _ HT.out).mono ?_
    rintro e w1 ⟨rfl, b1⟩
    have HT1 : Hid (Lib.Utf8Tabs 2 3 w1) := Utf8Tabs_below HT.out b1
    clear Hc
    go_wp2_with fail
    refine (implSigns s _ hs HT1.out).mono ?_
    rintro e w2 ⟨a, cap, rfl, o1, b2⟩
    have I1 : Hid (Ints w2 a (signsL s)) := o1.ints
    clear o1
    go_wp2_with fail
    refine (implCheckName (signsL s) a cap 0 _ I1.out (by omega) (Nat.zero_le _)).mono ?_
    rintro e w3 ⟨hr, b3⟩
    have hbel : Below w.heap.size w w3 := b1.trans ((b2.trans (b3.mono b2.size)).mono b1.size)
    rcases hr with ⟨rfl, hne, hall⟩ | ⟨m, rfl, hm⟩
    · have Hv : Hid (stNameB s = true) := by
        show _ = _
        rw [Hy.out, (stName_iff _).2 fun j hj => hall j (Nat.zero_le _) hj, decide_eq_true (Hz.out hne)]
        rfl
      clear hall hne Hy b1 b2 b3
      go_wp2_with fail
      go_ret
      exact ⟨ret_bool Hv.out.symm, hbel⟩
    · have Hv : Hid (stNameB s = false) := by
        show _ = _
        rw [Hy.out]
        rcases hm with ⟨h0, _⟩ | ⟨_, h1, _, h2⟩
        · have : s.size = 0 := by
            by_cases e : s.size = 0
            · exact e
            · exact absurd h0 (signs_some e)
          rw [decide_eq_false (by simp [this]), Bool.and_false]
        · have : stNameL true (signsL s) = false := by
            cases hq : stNameL true (signsL s)
            · rfl
            · have := (stName_iff _).1 hq m h1
              rw [h2] at this
              cases this
          rw [this]
          rfl
      clear hm Hy b1 b2 b3
      go_wp2_with fail
      go_ret
      exact ⟨ret_bool Hv.out.symm, hbel⟩

end Go.Proofs.YthipdkagkdnaiaaGreatDoor.Sg

namespace Go.Proofs.YthipdkagkdnaiaaGreatDoor.Sg
open Go.ChangeShapes Go.WideShapes Go.ChangeAt Go.RowKit

theorem xmlName_out (s : ByteArray) (i : Int) (a : Addr) (w : World) (h : i < 0 ∨ (s.size : Int) ≤ i) (hT : PcT a w) :
    Calls Tryz.prog 74 #[.string s, .int .i64 i] w fun e w' => e = .returned (.tuple #[.string ⟨#[]⟩, .int .i64 i]) ∧ Below w.heap.size w w' := by
  go_enter Tryz.func74, Tryz.ntmps74
  go_wp2
  go_loopw [6] (fun v wr => v = .int .i64 i ∧ wr = w) (fun _ _ => 0)
  case atStart => exact ⟨rfl, rfl⟩
  case round =>
    obtain ⟨rfl, rfl⟩ := hrel
    have hv : wr.cell? ⟨0, 0, none⟩ = some (errV a) := hT.2
    have HG := signAt_out s i a wr h hT.2
    go_wp2_with fail
    refine HG.mono ?_
    rintro e w1 ⟨rfl, b1⟩
    have hv1 := keep_cell b1 hv
    clear HG
    go_wp2_with fail
    refine (is_same a _).mono ?_
    rintro e w2 ⟨rfl, rfl⟩
    go_wp2_with fail
    go_ret2
    exact ⟨rfl, b1⟩

theorem ret_si {a b : ByteArray} {m n : Int} (h : a = b) (h2 : m = n) : Ending.returned (.tuple #[.string a, .int .i64 m]) = .returned (.tuple #[.string b, .int .i64 n]) := by rw [h, h2]
theorem extract_none (s : ByteArray) (k : Nat) : s.extract k k = (⟨#[]⟩ : ByteArray) := by
  apply ByteArray.ext
  apply Array.toList_inj.1
  rw [Lib.extract_data]
  simp

set_option maxHeartbeats 4000000 in
theorem xmlName_in (s : ByteArray) (k0 : Nat) (a : Addr) (w : World) (hk0 : k0 ≤ s.size) (hs : s.size ≤ 1073741824) (hT : PcT a w) :
    Calls Tryz.prog 74 #[.string s, .int .i64 (k0 : Int)] w fun e w' => e = .returned (.tuple #[.string (s.extract k0 (xnameE s true k0)), .int .i64 (xnameE s true k0 : Int)]) ∧ Below w.heap.size w w' := by
  have hle := xnameE_le s s.size k0 true (by omega) hk0
  generalize hR : xnameE s true k0 = R at *
  have HT : Hid (PcT a w) := hT
  clear hT
  go_enter Tryz.func74, Tryz.ntmps74
  go_wp2
  go_loopw [6] (fun v wr => ∃ k : Nat, k0 ≤ k ∧ k ≤ s.size ∧ v = .int .i64 (k : Int) ∧ Hid (xnameE s (decide (k - k0 = 0)) k = R) ∧ Hid (Below w.heap.size w wr)) (fun v _ => s.size - (intOf v).toNat)
  case atStart => exact ⟨k0, Nat.le_refl _, hk0, rfl, by show _ = _; rw [decide_eq_true (Nat.sub_self k0)]; exact hR, Below.refl _ _⟩
  case round =>
    obtain ⟨k, hk1, hk2, rfl, HK, HB⟩ := hrel
    clear hR
    have HTw : Hid (PcT a wr) := HT.out.below HB.out
    by_cases hlt : k < s.size
    · cases hr : asRead s k
      · have HR : Hid (k = R) := (xnameE_stop hlt (by rw [hr, Bool.and_false])).symm.trans HK.out
        have hv : wr.cell? ⟨0, 0, none⟩ = some (errV a) := HTw.out.2
        have HG := signAt_no s k a wr hlt (by omega) HTw.out hr
        clear hr HK
        go_wp2_with fail
        refine HG.mono ?_
        rintro e w1 ⟨rfl, b1⟩
        have hv1 := keep_cell b1 hv
        have B1 : Hid (Below w.heap.size w w1) := below_from HB.out b1
        clear HG hv b1
        go_wp2_with fail
        refine (is_same a _).mono ?_
        rintro e w2 ⟨rfl, rfl⟩
        by_cases hkk : k = k0
        · have g : ((k : Int) == (k0 : Int)) = true := by rw [hkk]; simp
          have hb2 := B1.out
          clear B1
          go_wp2_with fail
          go_ret2
          exact ⟨ret_si (by rw [← HR.out, hkk, extract_none]) (by rw [← HR.out, hkk]), hb2⟩
        · have g : ((k : Int) == (k0 : Int)) = false := by rw [beq_eq_false_iff_ne]; omega
          have hb2 := B1.out
          clear B1
          have q1 : (k0 : Int) ≤ (k : Int) := by omega
          have q2 : (k : Int) ≤ (s.size : Int) := by omega
          go_wp2_with fail
          go_ret2
          exact ⟨ret_si (by rw [← HR.out]) (by rw [← HR.out]), hb2⟩
      · have hv : wr.cell? ⟨0, 0, none⟩ = some (errV a) := HTw.out.2
        have HG := signAt_yes s k a wr hlt (by omega) HTw.out hr
        have hm := getS_many s k hlt
        have HGo : Hid (stayB (decide (k - k0 = 0)) ((getS s k).1 : Int) = true → xnameE s false (k + (getS s k).2) = R) := fun h => (xnameE_go hlt (by rw [h, hr]; rfl)).symm.trans HK.out
        have HSt : Hid (stayB (decide (k - k0 = 0)) ((getS s k).1 : Int) = false → k = R) := fun h => (xnameE_stop hlt (by rw [h]; rfl)).symm.trans HK.out
        have HM := implMayStand ((getS s k).1 : Int) (k - k0)
        rw [show ((k - k0 : Nat) : Int) = (k : Int) - (k0 : Int) by omega] at HM
        clear hr HK
        generalize (getS s k).1 = n at *
        generalize (getS s k).2 = m at *
        have q0 : IntKind.i64.wrap ((k : Int) - (k0 : Int)) = (k : Int) - (k0 : Int) := IntWalk.i64_in _ (by omega)
        go_wp2_with fail
        refine HG.mono ?_
        rintro e w1 ⟨rfl, b1⟩
        have hv1 := keep_cell b1 hv
        have B1 : Hid (Below w.heap.size w w1) := below_from HB.out b1
        clear HG hv b1
        go_wp2_with fail
        refine (is_nil a _).mono ?_
        rintro e w2 ⟨rfl, rfl⟩
        go_wp2_with fail
        refine (HM _).mono ?_
        rintro e w3 ⟨rfl, b3⟩
        have B3 : Hid (Below w.heap.size w w3) := below_from B1.out b3
        clear B1 b3 HM hv1
        cases hst : stayB (decide (k - k0 = 0)) (n : Int)
        · have HR : Hid (k = R) := HSt.out hst
          clear hst HSt HGo
          by_cases hkk : k = k0
          · have g : ((k : Int) == (k0 : Int)) = true := by rw [hkk]; simp
            have hb2 := B3.out
            clear B3
            go_wp2_with fail
            go_ret2
            exact ⟨ret_si (by rw [← HR.out, hkk, extract_none]) (by rw [← HR.out, hkk]), hb2⟩
          · have g : ((k : Int) == (k0 : Int)) = false := by rw [beq_eq_false_iff_ne]; omega
            have hb2 := B3.out
            clear B3
            have q1 : (k0 : Int) ≤ (k : Int) := by omega
            have q2 : (k : Int) ≤ (s.size : Int) := by omega
            go_wp2_with fail
            go_ret2
            exact ⟨ret_si (by rw [← HR.out]) (by rw [← HR.out]), hb2⟩
        · have HR := HGo.out hst
          clear hst HSt HGo
          go_wp2_with fail
          go_roundw
          case rel => exact ⟨k + m, by omega, by omega, rfl, by show _ = _; rw [decide_eq_false (by omega)]; exact HR, B3⟩
          case measure => simp [intOf]; omega
    · have HR : Hid (k = R) := (xnameE_end hlt).symm.trans HK.out
      have hv : wr.cell? ⟨0, 0, none⟩ = some (errV a) := HTw.out.2
      have HG := signAt_out s (k : Int) a wr (by omega) HTw.out.2
      clear HK
      go_wp2_with fail
      refine HG.mono ?_
      rintro e w1 ⟨rfl, b1⟩
      have hv1 := keep_cell b1 hv
      have B1 : Hid (Below w.heap.size w w1) := below_from HB.out b1
      clear HG hv b1
      go_wp2_with fail
      refine (is_same a _).mono ?_
      rintro e w2 ⟨rfl, rfl⟩
      by_cases hkk : k = k0
      · have g : ((k : Int) == (k0 : Int)) = true := by rw [hkk]; simp
        have hb2 := B1.out
        clear B1
        go_wp2_with fail
        go_ret2
        exact ⟨ret_si (by rw [← HR.out, hkk, extract_none]) (by rw [← HR.out, hkk]), hb2⟩
      · have g : ((k : Int) == (k0 : Int)) = false := by rw [beq_eq_false_iff_ne]; omega
        have hb2 := B1.out
        clear B1
        have q1 : (k0 : Int) ≤ (k : Int) := by omega
        have q2 : (k : Int) ≤ (s.size : Int) := by omega
        go_wp2_with fail
        go_ret2
        exact ⟨ret_si (by rw [← HR.out]) (by rw [← HR.out]), hb2⟩

theorem implXmlName (s : ByteArray) (i : Int) (a : Addr) (w : World) (hs : s.size ≤ 1073741824) (hT : PcT a w) :
    Calls Tryz.prog 74 #[.string s, .int .i64 i] w fun e w' => e = .returned (.tuple #[.string (xnS s i), .int .i64 (xnI s i)]) ∧ Below w.heap.size w w' := by
  unfold xnS xnI
  by_cases h : 0 ≤ i ∧ i ≤ s.size
  · rw [if_pos h, if_pos h]
    have C := xmlName_in s i.toNat a w (by omega) hs hT
    rw [show ((i.toNat : Nat) : Int) = i by omega] at C
    exact C
  · rw [if_neg h, if_neg h]
    exact xmlName_out s i a w (by omega) hT

end Go.Proofs.YthipdkagkdnaiaaGreatDoor.Sg

namespace Go.Proofs.YthipdkagkdnaiaaGreatDoor.Sg
open Go.ChangeShapes Go.WideShapes Go.ChangeAt Go.RowKit Go.Shelf

theorem implIsNoText (z : Int) (w : World) :
    Calls Tryz.prog 154 #[.int .i64 z] w fun e w' => e = .returned (.bool (!textB z)) ∧ w' = w := by
  go_enter Tryz.func154, Tryz.ntmps154
  go_wp2_with fail
  refine (implIsText z _).mono ?_
  rintro e w1 ⟨rfl, rfl⟩
  go_wp2_with fail
  go_ret
  exact ⟨rfl, rfl⟩

set_option maxHeartbeats 2000000 in
theorem implIndexFunc (zs : List Int) (n : Nat) (hn : zs.length = n) (q : Int → Bool) (g : Nat) (eg : ∀ args w, (callFunc g args).run Tryz.prog w = .ok (.enter g args) w) (hq : ∀ x W, Calls Tryz.prog g #[.int .i64 x] W fun e W' => e = .returned (.bool (q x)) ∧ W' = W)
    (a : Option Addr) (ca : Nat) (w : World) (ha : Ints w a zs) (hl : n ≤ 17592186044416) :
    Calls Tryz.prog 174 #[.slice a n ca, .func (.func g) #[] #[]] w fun e w' => (∃ m : Int, e = .returned (.int .i64 m) ∧ decide (0 ≤ m) = zs.any q) ∧ w' = w := by
  have I1 : Hid (Ints w a zs) := ha
  have Hlen : Hid (zs.length = n) := hn
  have Hq : Hid (∀ x W, Calls Tryz.prog g #[.int .i64 x] W fun e W' => e = .returned (.bool (q x)) ∧ W' = W) := hq
  clear ha hn hq
  go_enter Tryz.func174, Tryz.ntmps174
  go_wp2_with fail
  go_loopw [5, 8] (fun _ i wr => ∃ k : Nat, k ≤ n ∧ i = .int .i64 k ∧ wr = w ∧ Hid (zs.any q = (zs.drop k).any q)) (fun _ i _ => n - (intOf i).toNat)
  case atStart => exact ⟨0, Nat.zero_le _, rfl, rfl, rfl⟩
  case round =>
    obtain ⟨k, hk, rfl, rfl, Hk⟩ := hrel
    by_cases hlt : k < n
    · obtain ⟨b, o, rfl, hb, hc⟩ := I1.out.cell (Below.refl _ _) (by rw [Hlen.out]; exact hlt)
      have hst : (zs.drop k).any q = (q (zs.getD k 0) || (zs.drop (k + 1)).any q) := by
        rw [List.drop_eq_getElem_cons (by rw [Hlen.out]; exact hlt), List.any_cons]
        simp [Hlen.out, hlt]
      generalize hz : zs.getD k 0 = z at *
      clear hz
      have Hst : Hid (zs.any q = (q z || (zs.drop (k + 1)).any q)) := Hk.out.trans hst
      clear hst Hk
      have g1 : (k : Int) < (n : Int) := by omega
      have Hf := fun W => Hq.out z W
      cases hf : q z
      · rw [hf] at Hf
        have Hnx : Hid (zs.any q = (zs.drop (k + 1)).any q) := by
          show _ = _
          rw [Hst.out, hf]
          rfl
        clear hf Hst
        go_wp2_with (go_at_fn g; refine (Hf _).mono ?_; rintro e w' ⟨rfl, rfl⟩)
        go_roundw
        case rel => exact ⟨k + 1, by omega, by go_num, trivial, Hnx⟩
        case measure => simp [intOf]; omega
      · rw [hf] at Hf
        have Hv : Hid (zs.any q = true) := by
          show _ = _
          rw [Hst.out, hf]
          rfl
        clear hf Hst
        go_wp2_with (go_at_fn g; refine (Hf _).mono ?_; rintro e w' ⟨rfl, rfl⟩)
        go_ret
        exact ⟨⟨k, rfl, by rw [Hv.out]; exact decide_eq_true (Int.natCast_nonneg _)⟩, rfl⟩
    · have Hv : Hid (zs.any q = false) := by
        show _ = _
        rw [Hk.out, List.drop_eq_nil_of_le (by have := Hlen.out; omega)]
        rfl
      have g1 : ¬ (k : Int) < (n : Int) := by omega
      clear Hk
      go_wp2_with fail
      go_ret
      exact ⟨⟨-1, rfl, by rw [Hv.out]; rfl⟩, rfl⟩

set_option maxHeartbeats 1000000 in
theorem implContainsFunc (zs : List Int) (n : Nat) (hn : zs.length = n) (q : Int → Bool) (g : Nat) (eg : ∀ args w, (callFunc g args).run Tryz.prog w = .ok (.enter g args) w) (hq : ∀ x W, Calls Tryz.prog g #[.int .i64 x] W fun e W' => e = .returned (.bool (q x)) ∧ W' = W)
    (a : Option Addr) (ca : Nat) (w : World) (ha : Ints w a zs) (hl : n ≤ 17592186044416) :
    Calls Tryz.prog 152 #[.slice a n ca, .func (.func g) #[] #[]] w fun e w' => e = .returned (.bool (zs.any q)) ∧ w' = w := by
  have H := implIndexFunc zs n hn q g eg hq a ca w ha hl
  clear ha hq eg
  go_enter Tryz.func152, Tryz.ntmps152
  go_wp2_with fail
  refine H.mono ?_
  rintro e w1 ⟨⟨m, rfl, hm⟩, rfl⟩
  have Hm : Hid (decide (0 ≤ m) = zs.any q) := hm
  clear H hm
  go_wp2_with fail
  go_ret
  exact ⟨ret_bool Hm.out, rfl⟩

theorem any_not_text (zs : List Int) : (!(zs.any fun z => !textB z)) = zs.all textB := by
  rw [List.not_any_eq_all_not]
  congr 1
  funext z
  exact Bool.not_not _

set_option maxHeartbeats 2000000 in
theorem implTextOk (s : ByteArray) (w : World) (hs : s.size ≤ 17592186044416) (hT : Lib.Utf8Tabs 2 3 w) :
    Calls Tryz.prog 124 #[.string s] w fun e w' => e = .returned (.bool (stTextB s)) ∧ Below w.heap.size w w' := by
  have Hn : Hid (stTextB s = ((!((signsL s).any fun z => !textB z)) && cleanB s)) := by
    show _ = _
    rw [any_not_text]
    rfl
  have HT : Hid (Lib.Utf8Tabs 2 3 w) := hT
  clear hT
  have hl := signsL_length s
  have Hc := fun W h => implCleanOk s W hs h
  cases hcb : cleanB s
  · have Hno : Hid (stTextB s = false) := by show _ = _; rw [Hn.out, hcb, Bool.and_false]
    rw [hcb] at Hc
    clear hcb Hn
    go_enter Tryz.func124, Tryz.ntmps124
    go_wp2_with fail
    refine (Hc _ HT.out).mono ?_
    rintro e w1 ⟨rfl, b1⟩
    go_wp2_with fail
    go_ret
    exact ⟨ret_bool Hno.out.symm, b1⟩
  · have Hy : Hid (stTextB s = !((signsL s).any fun z => !textB z)) := by show _ = _; rw [Hn.out, hcb, Bool.and_true]
    rw [hcb] at Hc
    clear hcb Hn
    go_enter Tryz.func124, Tryz.ntmps124
    go_wp2_with fail
    refine (Hc _ HT.out).mono ?_
    rintro e w1 ⟨rfl, b1⟩
    have HT1 : Hid (Lib.Utf8Tabs 2 3 w1) := Utf8Tabs_below HT.out b1
    clear Hc
    go_wp2_with fail
    refine (implSigns s _ hs HT1.out).mono ?_
    rintro e w2 ⟨a, cap, rfl, o1, b2⟩
    have I1 := implContainsFunc (signsL s) (signsL s).length rfl (fun z => !textB z) 154 (enters_of Tryz.func154 (by kernel_rfl) rfl) implIsNoText a cap w2 o1.ints (by omega)
    clear o1
    generalize (signsL s).length = n at *
    generalize ((signsL s).any fun z => !textB z) = v at *
    go_wp2_with fail
    refine I1.mono ?_
    rintro e w3 ⟨rfl, rfl⟩
    clear I1
    go_wp2_with fail
    go_ret
    exact ⟨ret_bool Hy.out.symm, b1.trans (b2.mono b1.size)⟩

end Go.Proofs.YthipdkagkdnaiaaGreatDoor.Sg

namespace Go.Proofs.YthipdkagkdnaiaaGreatDoor.Sg
open Go.ChangeShapes Go.WideShapes Go.ChangeAt Go.RowKit

/-- What the library's own variables hold. -/
def StLib (w : World) : Prop := Lib.Utf8Tabs 2 3 w ∧ MaxLen w
theorem StLib.below {w w' : World} (h : StLib w) (hb : Below w.heap.size w w') : StLib w' := ⟨Utf8Tabs_below h.1 hb, h.2.below hb⟩

theorem cr_index : ∀ l : List UInt8, decide (0 ≤ Lib.indexByte l 13) = !noCr l
  | [] => rfl
  | b :: l => by
    have ih := cr_index l
    have hg := Lib.indexByte_ge l 13
    unfold Lib.indexByte
    by_cases h : b = 13
    · subst h
      rfl
    · have h1 : (b == 13) = false := beq_false_of_ne h
      have h2 : noCr (b :: l) = noCr l := by
        show ((b != 13) && l.all _) = _
        rw [show (b != 13) = true by simp [h]]
        rfl
      rw [h1, h2, ← ih]
      by_cases h3 : Lib.indexByte l 13 = -1
      · rw [h3]
        rfl
      · have h4 : (Lib.indexByte l 13 == -1) = false := beq_false_of_ne h3
        rw [h4]
        show decide (0 ≤ Lib.indexByte l 13 + 1) = _
        rw [decide_eq_true (by omega), decide_eq_true (by omega)]

theorem two_index : ∀ l : List UInt8, Lib.contains l [45, 45] = !noTwo l
  | [] => rfl
  | b :: l => by
    have ih := two_index l
    have hg := Lib.index_ge l [45, 45]
    unfold Lib.contains at ih ⊢
    unfold Lib.index
    have hp : ([45, 45] : List UInt8).isPrefixOf (b :: l) = (b == 45 && l.head? == some 45) := by
      cases l with
      | nil => simp [List.isPrefixOf]
      | cons c l =>
        simp only [List.isPrefixOf, List.head?_cons, Bool.and_true]
        rw [show ((45 : UInt8) == b) = (b == 45) from Bool.beq_comm, show ((45 : UInt8) == c) = (c == 45) from Bool.beq_comm]
        rfl
    rw [hp]
    show _ = !(!(b == 45 && l.head? == some 45) && noTwo l)
    cases hq : (b == 45 && l.head? == some 45)
    · show _ = !noTwo l
      rw [← ih]
      by_cases h3 : Lib.index l [45, 45] = -1
      · rw [h3]
        rfl
      · have h4 : (Lib.index l [45, 45] == -1) = false := beq_false_of_ne h3
        rw [h4]
        show decide (0 ≤ Lib.index l [45, 45] + 1) = _
        rw [decide_eq_true (by omega), decide_eq_true (by omega)]
    · rfl

theorem last_suffix (l : List UInt8) : Lib.hasSuffix l [45] = !lastOk l := by
  unfold Lib.hasSuffix lastOk List.isSuffixOf
  rw [List.getLast?_eq_head?_reverse]
  cases l.reverse with
  | nil => rfl
  | cons b m =>
    show ((45 : UInt8) == b && true) = !(some b != some 45)
    by_cases h : b = 45
    · subst h
      rfl
    · have h1 : ((45 : UInt8) == b) = false := beq_false_of_ne (Ne.symm h)
      have h2 : (some b != some (45 : UInt8)) = true := by simp [h]
      rw [h1, h2]
      rfl

set_option maxHeartbeats 2000000 in
theorem implNoteOk (s : ByteArray) (w : World) (hs : s.size ≤ 4294967280) (hT : StLib w) :
    Calls Tryz.prog 105 #[.string s] w fun e w' => e = .returned (.bool (stNoteB s)) ∧ Below w.heap.size w w' := by
  have H0 := implTextOk s w (by omega) hT.1
  have H1 := Tryz.strings_Contains_one s 13
  have H2 : ∀ W, MaxLen W → Calls Tryz.prog 107 #[.string s, .string ⟨#[45, 45]⟩] W fun e w' => e = .returned (.bool (Lib.contains s.data.toList [45, 45])) ∧ w' = W := fun W h => by
    obtain ⟨m, hm⟩ := h
    exact Tryz.strings_Contains s ⟨#[45, 45]⟩ m W (by omega) hm
  have H3 : ∀ W, Calls Tryz.prog 125 #[.string s, .string ⟨#[45]⟩] W fun e w' => e = .returned (.bool (Lib.hasSuffix s.data.toList [45])) ∧ w' = W := fun W => Tryz.strings_HasSuffix s ⟨#[45]⟩ W (by omega)
  rw [cr_index] at H1
  rw [two_index] at H2
  rw [last_suffix] at H3
  have Hn : Hid (stNoteB s = (stTextB s && noCr s.data.toList && noTwo s.data.toList && lastOk s.data.toList)) := rfl
  have HM : Hid (MaxLen w) := hT.2
  clear hT
  generalize noCr s.data.toList = c1 at *
  generalize noTwo s.data.toList = c2 at *
  generalize lastOk s.data.toList = c3 at *
  cases h0 : stTextB s
  · rw [h0] at H0 Hn
    go_enter Tryz.func105, Tryz.ntmps105
    go_wp2_with fail
    refine H0.mono ?_
    rintro e w1 ⟨rfl, b1⟩
    clear H0 H1 H2 H3
    go_wp2_with fail
    go_ret
    exact ⟨ret_bool (by rw [Hn.out]; rfl), b1⟩
  · rw [h0] at H0 Hn
    cases c1
    · go_enter Tryz.func105, Tryz.ntmps105
      go_wp2_with fail
      refine H0.mono ?_
      rintro e w1 ⟨rfl, b1⟩
      go_wp2_with fail
      refine (H1 _).mono ?_
      rintro e w2 ⟨rfl, rfl⟩
      clear H0 H1 H2 H3
      go_wp2_with fail
      go_ret
      exact ⟨ret_bool (by rw [Hn.out]; rfl), b1⟩
    · cases c2
      · go_enter Tryz.func105, Tryz.ntmps105
        go_wp2_with fail
        refine H0.mono ?_
        rintro e w1 ⟨rfl, b1⟩
        have HM1 := HM.out.below b1
        go_wp2_with fail
        refine (H1 _).mono ?_
        rintro e w2 ⟨rfl, rfl⟩
        go_wp2_with fail
        refine (H2 _ HM1).mono ?_
        rintro e w3 ⟨rfl, rfl⟩
        clear H0 H1 H2 H3
        go_wp2_with fail
        go_ret
        exact ⟨ret_bool (by rw [Hn.out]; rfl), b1⟩
      · go_enter Tryz.func105, Tryz.ntmps105
        go_wp2_with fail
        refine H0.mono ?_
        rintro e w1 ⟨rfl, b1⟩
        have HM1 := HM.out.below b1
        go_wp2_with fail
        refine (H1 _).mono ?_
        rintro e w2 ⟨rfl, rfl⟩
        go_wp2_with fail
        refine (H2 _ HM1).mono ?_
        rintro e w3 ⟨rfl, rfl⟩
        go_wp2_with fail
        refine (H3 _).mono ?_
        rintro e w4 ⟨rfl, rfl⟩
        clear H0 H1 H2 H3
        go_wp2_with fail
        go_ret
        exact ⟨ret_bool (by rw [Hn.out]; cases c3 <;> rfl), b1⟩

end Go.Proofs.YthipdkagkdnaiaaGreatDoor.Sg

namespace Go.Proofs.YthipdkagkdnaiaaGreatDoor.Sg
open Go.ChangeShapes Go.WideShapes Go.ChangeAt Go.RowKit

/-- The note and the place behind it. -/
def noteO (s : ByteArray) (k : Nat) : Option (ByteArray × Nat) := (noteP s k).map fun m => (s.extract (k + 4) m, m + 3)

theorem cut_two {l : List UInt8} : Lib.cut l [45, 45] = if 0 ≤ Lib.index l [45, 45] then (l.take (Lib.index l [45, 45]).toNat, l.drop ((Lib.index l [45, 45]).toNat + 2), true) else (l, [], false) := rfl
theorem strB_take (s : ByteArray) (k i : Nat) : (⟨((tailL s k).take i).toArray⟩ : ByteArray) = s.extract k (k + i) := by
  apply ByteArray.ext
  apply Array.toList_inj.1
  rw [Lib.extract_data, show k + i - k = i by omega]
  rfl

set_option maxRecDepth 20000 in
set_option maxHeartbeats 4000000 in
theorem noteAt_in (s : ByteArray) (k : Nat) (a : Addr) (w : World) (hk : k ≤ s.size) (hs : s.size ≤ 1073741824) (hX : PcX a w) :
    Calls Tryz.prog 83 #[.string s, .int .i64 (k : Int)] w fun e w' => e = .returned (prefV a k (noteO s k)) ∧ Below w.heap.size w w' := by
  have HX : Hid (PcX a w) := hX
  obtain ⟨m, hm⟩ := hX.2
  have HO : Hid (noteO s k = (noteP s k).map fun m => (s.extract (k + 4) m, m + 3)) := rfl
  have HP : Hid (noteP s k = if Lib.hasPrefix (tailL s k) [60, 33, 45, 45] then
    if 0 ≤ Lib.index (tailL s (k + 4)) [45, 45] then
      let m := k + 4 + (Lib.index (tailL s (k + 4)) [45, 45]).toNat
      if stNoteB (s.extract (k + 4) m) && Lib.hasPrefix (tailL s (m + 2)) [62] then some m else none
    else none
  else none) := rfl
  have HC := fun W => Tryz.strings_CutPrefix (s.extract k s.size) ⟨#[60, 33, 45, 45]⟩ W
  rw [tail_bytes, show (⟨#[60, 33, 45, 45]⟩ : ByteArray).data.toList = [60, 33, 45, 45] from rfl] at HC
  have q0 : decide ((k : Int) < 0) = false := decide_eq_false (by omega)
  have q1 : decide ((s.size : Int) < (k : Int)) = false := decide_eq_false (by omega)
  have q2 : (k : Int) ≤ (s.size : Int) := by omega
  have hlk := tailL_length s k
  clear hX
  cases hp : Lib.hasPrefix (tailL s k) [60, 33, 45, 45]
  · have Hn : Hid (noteO s k = none) := by show _ = _; rw [HO.out, HP.out, hp]; rfl
    rw [hp, show Lib.trimPrefix (tailL s k) [60, 33, 45, 45] = tailL s k by unfold Lib.trimPrefix; rw [hp]; rfl] at HC
    have HU := Tryz.strings_Cut (⟨(tailL s k).toArray⟩ : ByteArray) ⟨#[45, 45]⟩ m w (by rw [show (⟨(tailL s k).toArray⟩ : ByteArray) = strB (tailL s k) from rfl, strB_size]; omega) hm
    generalize (⟨(Lib.cut (⟨(tailL s k).toArray⟩ : ByteArray).data.toList (⟨#[45, 45]⟩ : ByteArray).data.toList).1.toArray⟩ : ByteArray) = c1 at *
    generalize (⟨(Lib.cut (⟨(tailL s k).toArray⟩ : ByteArray).data.toList (⟨#[45, 45]⟩ : ByteArray).data.toList).2.1.toArray⟩ : ByteArray) = c2 at *
    generalize (Lib.cut (⟨(tailL s k).toArray⟩ : ByteArray).data.toList (⟨#[45, 45]⟩ : ByteArray).data.toList).2.2 = c3 at *
    generalize (⟨(tailL s k).toArray⟩ : ByteArray) = L at *
    clear HO HP hp hm
    go_enter Tryz.func83, Tryz.ntmps83
    go_wp2_with fail
    refine (HC _).mono ?_
    rintro e w1 ⟨rfl, rfl⟩
    clear HC
    go_wp2_with fail
    refine HU.mono ?_
    rintro e w2 ⟨rfl, n, hw2⟩
    have b2 : Below w1.heap.size w1 w2 := hw2 ▸ drew_kd (Below.refl _ _) n
    have hv1 : w2.cell? ⟨0, 0, none⟩ = some (errV a) := HX.out.1.2.below b2
    clear hw2 HU
    go_wp2_with fail
    go_quiet (fail)
    have bf := drew_kd b2 nq
    go_wp2_with fail
    go_ret3
    exact ⟨ret_pref0 Hn.out, bf⟩
  · have h4 : k + 4 ≤ s.size := by
      unfold Lib.hasPrefix at hp
      have h := (List.isPrefixOf_iff_prefix.1 hp).length_le
      rw [hlk] at h
      simp only [List.length_cons, List.length_nil] at h
      omega
    have ht4 : Lib.trimPrefix (tailL s k) [60, 33, 45, 45] = tailL s (k + 4) := by
      unfold Lib.trimPrefix
      rw [hp, if_pos rfl]
      exact tailL_drop s k 4
    have hl4 := tailL_length s (k + 4)
    rw [hp, ht4] at HC
    have HU := Tryz.strings_Cut (⟨(tailL s (k + 4)).toArray⟩ : ByteArray) ⟨#[45, 45]⟩ m w (by rw [show (⟨(tailL s (k + 4)).toArray⟩ : ByteArray) = strB (tailL s (k + 4)) from rfl, strB_size]; omega) hm
    rw [show (⟨(tailL s (k + 4)).toArray⟩ : ByteArray).data.toList = tailL s (k + 4) by simp, show (⟨#[45, 45]⟩ : ByteArray).data.toList = [45, 45] from rfl, cut_two] at HU
    have HP2 : Hid (noteP s k = if 0 ≤ Lib.index (tailL s (k + 4)) [45, 45] then
      let m := k + 4 + (Lib.index (tailL s (k + 4)) [45, 45]).toNat
      if stNoteB (s.extract (k + 4) m) && Lib.hasPrefix (tailL s (m + 2)) [62] then some m else none
    else none) := by show _ = _; rw [HP.out, hp]; rfl
    clear HP hp hm ht4
    generalize (⟨(tailL s (k + 4)).toArray⟩ : ByteArray) = L at *
    rcases Lib.index_spec (tailL s (k + 4)) [45, 45] with ⟨e1, _⟩ | ⟨i, e1, _, _, _⟩
    · have Hn : Hid (noteO s k = none) := by show _ = _; rw [HO.out, HP2.out, e1]; rfl
      rw [e1, if_neg (by decide)] at HU
      simp only at HU
      have HK := fun W h => implNoteOk (⟨(tailL s (k + 4)).toArray⟩ : ByteArray) W (by rw [show (⟨(tailL s (k + 4)).toArray⟩ : ByteArray) = strB (tailL s (k + 4)) from rfl, strB_size]; omega) h
      have HH : ∀ W, Calls Tryz.prog 55 #[.string ⟨#[]⟩, .string ⟨#[62]⟩] W fun e w' => e = .returned (.bool false) ∧ w' = W := fun W => Tryz.strings_HasPrefix ⟨#[]⟩ ⟨#[62]⟩ W
      generalize (⟨(tailL s (k + 4)).toArray⟩ : ByteArray) = nt at *
      clear HO HP2 hlk hl4
      cases hb : stNoteB nt
      · rw [hb] at HK
        clear hb
        go_enter Tryz.func83, Tryz.ntmps83
        go_wp2_with fail
        refine (HC _).mono ?_
        rintro e w1 ⟨rfl, rfl⟩
        clear HC
        go_wp2_with fail
        refine HU.mono ?_
        rintro e w2 ⟨rfl, n, hw2⟩
        have b2 : Below w1.heap.size w1 w2 := hw2 ▸ drew_kd (Below.refl _ _) n
        have HX2 := HX.out.below b2
        clear hw2 HU
        go_wp2_with fail
        refine (HK _ ⟨HX2.1.1, HX2.2⟩).mono ?_
        rintro e w3 ⟨rfl, b3⟩
        have b4 := below_from b2 b3
        have hv1 : w3.cell? ⟨0, 0, none⟩ = some (errV a) := HX.out.1.2.below b4
        clear b2 b3 HX2 HK
        go_wp2_with fail
        go_quiet (fail)
        have bf := drew_kd b4 nq
        go_wp2_with fail
        go_ret3
        exact ⟨ret_pref0 Hn.out, bf⟩
      · rw [hb] at HK
        clear hb
        go_enter Tryz.func83, Tryz.ntmps83
        go_wp2_with fail
        refine (HC _).mono ?_
        rintro e w1 ⟨rfl, rfl⟩
        clear HC
        go_wp2_with fail
        refine HU.mono ?_
        rintro e w2 ⟨rfl, n, hw2⟩
        have b2 : Below w1.heap.size w1 w2 := hw2 ▸ drew_kd (Below.refl _ _) n
        have HX2 := HX.out.below b2
        clear hw2 HU
        go_wp2_with fail
        refine (HK _ ⟨HX2.1.1, HX2.2⟩).mono ?_
        rintro e w3 ⟨rfl, b3⟩
        have b4 := below_from b2 b3
        have hv1 : w3.cell? ⟨0, 0, none⟩ = some (errV a) := HX.out.1.2.below b4
        clear b2 b3 HX2 HK
        go_wp2_with fail
        refine (HH _).mono ?_
        rintro e w4 ⟨rfl, rfl⟩
        clear HH
        go_wp2_with fail
        go_quiet (fail)
        have bf := drew_kd b4 nq
        go_wp2_with fail
        go_ret3
        exact ⟨ret_pref0 Hn.out, bf⟩
    · have hroom := Lib.index_room (tailL s (k + 4)) [45, 45] (by omega)
      rw [e1] at hroom
      simp only [List.length_cons, List.length_nil] at hroom
      rw [e1, if_pos (by omega), show ((i : Nat) : Int).toNat = i from rfl, strB_take] at HU
      simp only at HU
      have HK := fun W h => implNoteOk (s.extract (k + 4) (k + 4 + i)) W (by rw [ByteArray.size_extract]; omega) h
      have hdr : (tailL s (k + 4)).drop (i + 2) = tailL s (k + 4 + i + 2) := tailL_drop s (k + 4) (i + 2)
      rw [hdr] at HU
      have HH : ∀ W, Calls Tryz.prog 55 #[.string (⟨(tailL s (k + 4 + i + 2)).toArray⟩ : ByteArray), .string ⟨#[62]⟩] W fun e w' => e = .returned (.bool (Lib.hasPrefix (tailL s (k + 4 + i + 2)) [62])) ∧ w' = W := fun W => by
        exact Tryz.strings_HasPrefix (⟨(tailL s (k + 4 + i + 2)).toArray⟩ : ByteArray) ⟨#[62]⟩ W
      have Hes : Hid ((⟨(tailL s (k + 4 + i + 2)).toArray⟩ : ByteArray).size = s.size - (k + 4 + i + 2)) := by
        show _ = _
        rw [show (⟨(tailL s (k + 4 + i + 2)).toArray⟩ : ByteArray) = strB (tailL s (k + 4 + i + 2)) from rfl, strB_size, tailL_length]
      have HN : Hid (noteO s k = if stNoteB (s.extract (k + 4) (k + 4 + i)) && Lib.hasPrefix (tailL s (k + 4 + i + 2)) [62] then some (s.extract (k + 4) (k + 4 + i), k + 4 + i + 3) else none) := by
        show _ = _
        rw [HO.out, HP2.out, e1, if_pos (by omega), show ((i : Nat) : Int).toNat = i from rfl]
        simp only
        split <;> rfl
      clear HO HP2 hdr e1
      generalize (⟨(tailL s (k + 4 + i + 2)).toArray⟩ : ByteArray) = en at *
      generalize s.extract (k + 4) (k + 4 + i) = nt at *
      cases hb : stNoteB nt
      · have Hn : Hid (noteO s k = none) := by show _ = _; rw [HN.out, hb]; rfl
        rw [hb] at HK
        clear hb HN HH
        go_enter Tryz.func83, Tryz.ntmps83
        go_wp2_with fail
        refine (HC _).mono ?_
        rintro e w1 ⟨rfl, rfl⟩
        clear HC
        go_wp2_with fail
        refine HU.mono ?_
        rintro e w2 ⟨rfl, n, hw2⟩
        have b2 : Below w1.heap.size w1 w2 := hw2 ▸ drew_kd (Below.refl _ _) n
        have HX2 := HX.out.below b2
        clear hw2 HU
        go_wp2_with fail
        refine (HK _ ⟨HX2.1.1, HX2.2⟩).mono ?_
        rintro e w3 ⟨rfl, b3⟩
        have b4 := below_from b2 b3
        have hv1 : w3.cell? ⟨0, 0, none⟩ = some (errV a) := HX.out.1.2.below b4
        clear b2 b3 HX2 HK
        go_wp2_with fail
        go_quiet (fail)
        have bf := drew_kd b4 nq
        go_wp2_with fail
        go_ret3
        exact ⟨ret_pref0 Hn.out, bf⟩
      · rw [hb] at HK HN
        clear hb
        cases hc : Lib.hasPrefix (tailL s (k + 4 + i + 2)) [62]
        · have Hn : Hid (noteO s k = none) := by show _ = _; rw [HN.out, hc]; rfl
          rw [hc] at HH
          clear hc HN
          go_enter Tryz.func83, Tryz.ntmps83
          go_wp2_with fail
          refine (HC _).mono ?_
          rintro e w1 ⟨rfl, rfl⟩
          clear HC
          go_wp2_with fail
          refine HU.mono ?_
          rintro e w2 ⟨rfl, n, hw2⟩
          have b2 : Below w1.heap.size w1 w2 := hw2 ▸ drew_kd (Below.refl _ _) n
          have HX2 := HX.out.below b2
          clear hw2 HU
          go_wp2_with fail
          refine (HK _ ⟨HX2.1.1, HX2.2⟩).mono ?_
          rintro e w3 ⟨rfl, b3⟩
          have b4 := below_from b2 b3
          have hv1 : w3.cell? ⟨0, 0, none⟩ = some (errV a) := HX.out.1.2.below b4
          clear b2 b3 HX2 HK
          go_wp2_with fail
          refine (HH _).mono ?_
          rintro e w4 ⟨rfl, rfl⟩
          clear HH
          go_wp2_with fail
          go_quiet (fail)
          have bf := drew_kd b4 nq
          go_wp2_with fail
          go_ret3
          exact ⟨ret_pref0 Hn.out, bf⟩
        · have Hn : Hid (noteO s k = some (nt, k + 4 + i + 3)) := by show _ = _; rw [HN.out, hc]; rfl
          rw [hc] at HH
          have z1 : IntKind.i64.wrap ((s.size : Int) - (en.size : Int)) = (s.size : Int) - (en.size : Int) := IntWalk.i64_in _ (by have := Hes.out; omega)
          have z2 : IntKind.i64.wrap ((s.size : Int) - (en.size : Int) + 1) = (s.size : Int) - (en.size : Int) + 1 := IntWalk.i64_in _ (by have := Hes.out; omega)
          have Hj : Hid (((k + 4 + i + 3 : Nat) : Int) = (s.size : Int) - (en.size : Int) + 1) := by show _ = _; have := Hes.out; omega
          clear hc HN
          go_enter Tryz.func83, Tryz.ntmps83
          go_wp2_with fail
          refine (HC _).mono ?_
          rintro e w1 ⟨rfl, rfl⟩
          clear HC
          go_wp2_with fail
          refine HU.mono ?_
          rintro e w2 ⟨rfl, n, hw2⟩
          have b2 : Below w1.heap.size w1 w2 := hw2 ▸ drew_kd (Below.refl _ _) n
          have HX2 := HX.out.below b2
          clear hw2 HU
          go_wp2_with fail
          refine (HK _ ⟨HX2.1.1, HX2.2⟩).mono ?_
          rintro e w3 ⟨rfl, b3⟩
          have b4 := below_from b2 b3
          have hv1 : w3.cell? ⟨0, 0, none⟩ = some (errV a) := HX.out.1.2.below b4
          clear b2 b3 HX2 HK
          go_wp2_with fail
          refine (HH _).mono ?_
          rintro e w4 ⟨rfl, rfl⟩
          clear HH
          go_wp2_with fail
          go_ret3
          exact ⟨ret_pref Hn.out (by rw [Hj.out]; rfl), b4⟩

end Go.Proofs.YthipdkagkdnaiaaGreatDoor.Sg

namespace Go.Proofs.YthipdkagkdnaiaaGreatDoor.Sg
open Go.ChangeShapes Go.WideShapes Go.ChangeAt Go.RowKit

theorem ownsF_below {w w' : World} {base : Nat} {e : TypeId} {size : Nat} {v : Value} {n : Nat} {xs : List Value} (h : w.ownsRowF base e size v n xs) (hb : Below w.heap.size w w') : w'.ownsRowF base e size v n xs := by
  obtain ⟨h1, h2⟩ := h
  refine ⟨h1, ?_⟩
  rcases h2 with h2 | ⟨g, cap, cur, fz, h2, h3, h4, h5⟩
  · exact .inl h2
  · have hg : g < w.heap.size := (Array.getElem?_eq_some_iff.1 h4).1
    exact .inr ⟨g, cap, cur, fz, h2, h3, (hb.block g hg).trans h4, h5⟩
theorem at_below {T e : TypeId} {B b : Nat} {p : Value} {bs : List Value} {w w' : World} (h : Lib.BuilderAtF T e B b p bs w) (hb : Below w.heap.size w w') : Lib.BuilderAtF T e B b p bs w' := by
  obtain ⟨hB, v, hk, ho, hn⟩ := h
  exact ⟨hB, v, (hb.block b (Array.getElem?_eq_some_iff.1 hk).1).trans hk, ownsF_below ho hb, hn⟩
theorem isb_below {T e : TypeId} {B b : Nat} {bs : List Value} {w w' : World} (h : Lib.IsBuilderF T e B b bs w) (hb : Below w.heap.size w w') : Lib.IsBuilderF T e B b bs w' := by
  rcases h with h | h
  · exact .inl (at_below h hb)
  · exact .inr (at_below h hb)

end Go.Proofs.YthipdkagkdnaiaaGreatDoor.Sg

namespace Go.Proofs.YthipdkagkdnaiaaGreatDoor.Sg
open Go.ChangeShapes Go.WideShapes Go.ChangeAt Go.RowKit

theorem ptext_step {s : ByteArray} {k : Nat} (h : k < s.size) {t : ByteArray} {j : Nat} (ht : tsO s k h = some (t, j)) : ptextR s k = (ptextR s j).map (fun r => t.data.toList ++ r) ∧ k < j ∧ j ≤ s.size ∧ t.size ≤ 4 * (j - k) := by
  unfold tsO at ht
  by_cases h38 : s[k]'h = 38
  · rw [if_pos h38] at ht
    have hl := xrefR_le ht
    exact ⟨ptextR_ref h h38 ht, hl.1, hl.2.1, by omega⟩
  · rw [if_neg h38] at ht
    have hm := getS_many s k h
    split at ht
    · rename_i hp
      obtain ⟨rfl, rfl⟩ := Prod.mk.inj (Option.some.inj ht)
      refine ⟨ptextR_sign h h38 hp, by omega, hm.2, ?_⟩
      rw [ByteArray.size_extract]
      omega
    · cases ht
theorem ptext_stop {s : ByteArray} {k : Nat} (h : k < s.size) (ht : tsO s k h = none) : ptextR s k = none := by
  unfold tsO at ht
  by_cases h38 : s[k]'h = 38
  · rw [if_pos h38] at ht
    exact ptextR_none h h38 ht
  · rw [if_neg h38] at ht
    split at ht
    · cases ht
    · rename_i hp
      exact ptextR_bad h h38 (by simpa using hp)

/-- The text and the place, as textAt tells them. -/
def strO (o : Option (List UInt8 × Nat)) : Option (ByteArray × Nat) := o.map fun r => (strB r.1, r.2)

set_option maxRecDepth 20000 in
set_option maxHeartbeats 4000000 in
theorem textAt_in (s : ByteArray) (k0 : Nat) (e0 : ByteArray) (a : Addr) (w : World) (hk : k0 ≤ s.size) (hs : s.size ≤ 1073741824) (hX : PcX a w) :
    Calls Tryz.prog 85 #[.string s, .int .i64 (k0 : Int), .string e0] w fun e w' => (∃ j, e = .returned (prefV a j (strO (textP s k0 (runE (notU e0) s k0))))) ∧ Below w.heap.size w w' := by
  have HX : Hid (PcX a w) := hX
  clear hX
  have HU := fun W => implUpTo s k0 e0 W (by omega)
  have hle := runE_le (p := notU e0) (s := s) hk
  generalize runE (notU e0) s k0 = q at *
  have hs' := cut_size s q hle.2
  have Hp : Hid (textP s k0 q = if Lib.contains (tailL (s.extract 0 q) k0) [93, 93, 62] then none else (ptextR (s.extract 0 q) k0).map fun r => (r, q)) := rfl
  have htb := tail_bytes (s.extract 0 q) k0
  obtain ⟨m, hm⟩ := HX.out.2
  have hm1 : (s.extract 0 q).size ≤ s.size := by omega
  have HC := Tryz.strings_Contains ((s.extract 0 q).extract k0 (s.extract 0 q).size) ⟨#[93, 93, 62]⟩ m w (by rw [ByteArray.size_extract]; omega) hm
  rw [htb, show (⟨#[93, 93, 62]⟩ : ByteArray).data.toList = [93, 93, 62] from rfl] at HC
  rw [hs'] at HC
  have Hlen : Hid (tailL (s.extract 0 q) q = []) := tailL_end _ _ (by omega)
  clear htb hm hm1
  generalize textP s k0 q = R at *
  generalize Lib.contains (tailL (s.extract 0 q) k0) [93, 93, 62] = ct at *
  have q0 : decide ((k0 : Int) < 0) = false := decide_eq_false (by omega)
  have q1 : decide ((s.size : Int) < (k0 : Int)) = false := decide_eq_false (by omega)
  have q2 : (q : Int) ≤ (s.size : Int) := by omega
  cases ct
  · have Hn : Hid (R = (ptextR (s.extract 0 q) k0).map fun r => (r, q)) := Hp.out
    clear Hp
    go_enter Tryz.func85, Tryz.ntmps85
    go_wp2_with fail
    refine (HU _).mono ?_
    rintro e w1 ⟨rfl, rfl⟩
    clear HU
    go_wp2_with fail
    refine HC.mono ?_
    rintro e w2 ⟨rfl, rfl⟩
    clear HC
    generalize s.extract 0 q = S at *
    have hS := implTextSign S
    go_wp2_with fail
    go_loopw [1] (fun i wr => ∃ (k : Nat) (acc : List UInt8), k0 ≤ k ∧ k ≤ q ∧ acc.length ≤ 4 * k ∧ i = .int .i64 k ∧ Lib.IsBuilderF 130 5 w2.heap.size w2.heap.size (Lib.byteCells acc) wr ∧ Below w2.heap.size w2 wr ∧ Hid (ptextR S k0 = (ptextR S k).map fun r => acc ++ r)) (fun i _ => q - (intOf i).toNat)
    case atStart => exact ⟨k0, [], Nat.le_refl _, hle.1, Nat.zero_le _, rfl, Lib.IsBuilderF.of (Lib.fresh_isBuilder 130 5 w2), (Below.refl _ _).alloc (Nat.le_refl _) _, by show _ = _; cases ptextR S k0 <;> rfl⟩
    case round =>
      obtain ⟨k, acc, hk0, hkq, hal, rfl, hI, hbel, Hacc⟩ := hrel
      by_cases hlt : k < q
      · have hkS : k < S.size := by omega
        have HC := hS k a wr hkS (by omega) (HX.out.below hbel)
        have Hstop := ptext_stop (s := S) hkS
        have Hstep := fun t j => ptext_step (s := S) hkS (t := t) (j := j)
        clear hS
        cases ho : tsO S k hkS with
        | none =>
          have Hr : Hid (R = none) := by show _ = _; rw [Hn.out, Hacc.out, Hstop ho]; rfl
          rw [ho, show prefV a k none = .tuple #[.string ⟨#[]⟩, .int .i64 k, errV a] from rfl] at HC
          clear ho Hstop Hstep Hacc
          go_wp2_with fail
          refine HC.mono ?_
          rintro e w3 ⟨rfl, b3⟩
          have bel3 := hbel.trans (b3.mono hbel.size)
          clear HC hI hbel
          go_wp2_with fail
          go_ret3
          exact ⟨⟨_, ret_pref0 (by rw [Hr.out]; rfl)⟩, bel3⟩
        | some r =>
          obtain ⟨t, j⟩ := r
          obtain ⟨hst, hj1, hj2, hts⟩ := Hstep t j ho
          have Hst : Hid (ptextR S k0 = (ptextR S j).map fun r => (acc ++ t.data.toList) ++ r) := by
            show _ = _
            rw [Hacc.out, hst, Option.map_map]
            congr 1
            funext r
            simp
          have E2 : Hid (Lib.byteCells (acc ++ t.data.toList) = Lib.byteCells acc ++ Lib.strCells t) := by show _ = _; simp [Lib.byteCells, Lib.strCells]
          have htl : t.data.toList.length = t.size := Array.length_toList
          have hal2 : (acc ++ t.data.toList).length ≤ 4 * j := by rw [List.length_append, htl]; omega
          rw [ho, show prefV a k (some (t, j)) = .tuple #[.string t, .int .i64 (j : Int), .nilIface] from rfl] at HC
          clear ho hst Hstop Hstep Hacc htl
          go_wp2_with fail
          refine HC.mono ?_
          rintro e w3 ⟨rfl, b3⟩
          have bel3 := hbel.trans (b3.mono hbel.size)
          have hI3 := isb_below hI b3
          clear HC hI hbel b3
          go_wp2_with fail
          refine (writeString w2.heap.size w2.heap.size (Lib.byteCells acc) t _ hI3 ?_ bel3.size).mono ?_
          · rw [Lib.byteCells_length]
            omega
          rintro e w4 ⟨rfl, hI4, b4, _⟩
          have hI5 : Lib.IsBuilderF 130 5 w2.heap.size w2.heap.size (Lib.byteCells (acc ++ t.data.toList)) w4 := by
            rw [E2.out]
            exact .inr hI4
          have bel4 := bel3.trans b4
          clear hI3 hI4 b4 bel3
          go_wp2
          go_roundw
          case rel => exact ⟨j, acc ++ t.data.toList, by omega, by omega, hal2, rfl, hI5, bel4, Hst⟩
          case measure => simp [intOf]; omega
      · have hkq2 : k = q := by omega
        have Hr : Hid (R = some (acc, q)) := by
          show _ = _
          rw [Hn.out, Hacc.out, hkq2, ptextR_end (by omega)]
          simp
        have hdl : decide ((k : Int) < (q : Int)) = false := decide_eq_false (by omega)
        clear Hacc hkq2 hS
        go_wp2_with fail
        refine (Tryz.Builder_String_any_k w2.heap.size w2.heap.size acc _ hI hbel.size).mono ?_
        rintro e w3 ⟨rfl, _, b3, _⟩
        have bel3 := hbel.trans b3
        clear hI hbel b3
        go_wp2
        go_ret3
        exact ⟨⟨0, ret_pref (t := strB acc) (j := q) (by rw [Hr.out]; rfl) rfl⟩, bel3⟩
  · have Hn : Hid (R = none) := Hp.out
    have hv : w.cell? ⟨0, 0, none⟩ = some (errV a) := HX.out.1.2
    clear Hp
    go_enter Tryz.func85, Tryz.ntmps85
    go_wp2_with fail
    refine (HU _).mono ?_
    rintro e w1 ⟨rfl, rfl⟩
    clear HU
    go_wp2_with fail
    refine HC.mono ?_
    rintro e w2 ⟨rfl, rfl⟩
    clear HC
    go_wp2_with fail
    go_quiet (fail)
    have bf := drew_kd (Below.refl w2.heap.size w2) nq
    go_wp2_with fail
    go_ret3
    exact ⟨⟨_, ret_pref0 (by rw [Hn.out]; rfl)⟩, bf⟩
end Go.Proofs.YthipdkagkdnaiaaGreatDoor.Sg

namespace Go.Proofs.YthipdkagkdnaiaaGreatDoor.Sg
open Go.ChangeShapes Go.WideShapes Go.ChangeAt Go.RowKit

/-- A byte stands at a place. -/
theorem stands_one (s : ByteArray) (k : Nat) (b : UInt8) : standsB s k ⟨#[b]⟩ = true ↔ s.data[k]? = some b := by
  by_cases h : k < s.size
  · have e : standsB s k ⟨#[b]⟩ = Lib.hasPrefix (tailL s k) [b] := stands_tailT ⟨#[b]⟩ (Nat.le_of_lt h)
    rw [e, tailL_step s k h]
    have ed : s.data[k]? = some (s[k]'h) := by
      show s.data[k]? = some (s.data[k]'h)
      exact Array.getElem?_eq_getElem h
    rw [ed]
    unfold Lib.hasPrefix
    simp [List.isPrefixOf]
    exact eq_comm
  · have e : s.data[k]? = none := Array.getElem?_eq_none (by show s.size ≤ k; omega)
    rw [e]
    constructor
    · intro hs
      have := stands_le hs
      have u : (⟨#[b]⟩ : ByteArray).size = 1 := rfl
      omega
    · intro hs
      cases hs

/-- One piece from place i on, and where it ends. -/
def pieceQ (s : ByteArray) (el : Nat → Option (ElB × Nat)) (i : Nat) : Option (ElB × Nat) :=
  if standsB s i openNoteB = true then (noteO s i).map fun r => (.mk 3 0 ⟨#[]⟩ [] r.1 [], r.2)
  else if standsB s i ltS = true then el i
  else (strO (xtextR s [60] i)).map fun r => (.mk 2 0 ⟨#[]⟩ [] r.1 [], r.2)

theorem note_told {s : ByteArray} {i : Nat} (hi : i < s.size) : (noteO s i = none ∧ xoI s (i : Int) < 0) ∨ ∃ j : Nat, noteO s i = some (xoS s (i : Int), j) ∧ xoI s (i : Int) = (j : Int) := by
  have hx := noteP_eq (s := s) (k := i) (Nat.le_of_lt hi)
  have h1 : 0 ≤ (i : Int) ∧ (i : Int) < s.size := by omega
  have e : ((i : Int)).toNat = i := by omega
  unfold xoI xoS xoO noteO
  rw [if_pos h1, e, ← hx]
  cases xnoteR s i with
  | none => exact .inl ⟨rfl, by decide⟩
  | some m => exact .inr ⟨m + 3, rfl, rfl⟩
theorem text_told {s : ByteArray} {i : Nat} (hi : i < s.size) : (strO (xtextR s [60] i) = none ∧ xtI s (i : Int) ltS < 0) ∨ ∃ j : Nat, strO (xtextR s [60] i) = some (xtS s (i : Int) ltS, j) ∧ xtI s (i : Int) ltS = (j : Int) := by
  have h1 : 0 ≤ (i : Int) ∧ (i : Int) ≤ s.size := by omega
  have e : ((i : Int)).toNat = i := by omega
  have eL : ltS.data.toList = [60] := rfl
  unfold xtI xtS xtO strO
  rw [if_pos h1, e, eL]
  cases xtextR s [60] i with
  | none => exact .inl ⟨rfl, by decide⟩
  | some r => exact .inr ⟨r.2, rfl, rfl⟩
theorem not_neg {j : Nat} {x : Int} (h : x = (j : Int)) : ¬ x < 0 := by omega
theorem not_lt60 {s : ByteArray} {i : Nat} (h : standsB s i ltS = false) : s.data[i]? ≠ some 60 := fun e => by
  have := (stands_one s i 60).2 e
  unfold ltS at h
  rw [this] at h
  cases h
theorem piece_size {s : ByteArray} {el : Nat → Option (ElB × Nat)} (hE : ElSz s el) : ∀ k e j, k < s.size → pieceQ s el k = some (e, j) → k < j ∧ j ≤ s.size ∧ elW e + 1 ≤ 5 * (j - k) := by
  intro k e j hk h
  unfold pieceQ at h
  split at h
  · rcases note_told hk with ⟨h1, _⟩ | ⟨m, h1, h2⟩
    · rw [h1] at h
      cases h
    · rw [h1] at h
      cases h
      obtain ⟨m', h3, h4, h5, h6⟩ := xoI_le (not_neg h2)
      rw [elW_bare]
      show k < m ∧ m ≤ s.size ∧ (xoS s (k : Int)).size + 1 ≤ 5 * (m - k)
      omega
  · split at h
    · exact hE k e j (Nat.le_of_lt hk) h
    · rename_i h60
      rcases text_told hk with ⟨h1, _⟩ | ⟨m, h1, h2⟩
      · rw [h1] at h
        cases h
      · rw [h1] at h
        cases h
        obtain ⟨m', h3, h4, h5, h6⟩ := xtI_lt hk (not_lt60 (by simpa using h60)) (not_neg h2)
        rw [elW_bare]
        show k < m ∧ m ≤ s.size ∧ (xtS s (k : Int) ltS).size + 1 ≤ 5 * (m - k)
        omega

theorem kids_step (s : ByteArray) (el : Nat → Option (ElB × Nat)) (f i : Nat) : kidsL s el (f + 1) i = if standsB s i ltSlash = true then some ([], i) else if ¬ i < s.size then none else match pieceQ s el i with
    | none => none
    | some x => (kidsL s el f x.2).map fun r => (x.1 :: r.1, r.2) := by
  rw [kidsL]
  split
  · rfl
  · split
    · rfl
    · rename_i hlt
      have hi : i < s.size := by omega
      unfold pieceQ
      split
      · rcases note_told hi with ⟨h1, h2⟩ | ⟨m, h1, h2⟩
        · rw [if_pos h2, h1]
          rfl
        · rw [if_neg (not_neg h2), h1, h2]
          rfl
      · by_cases h60 : standsB s i ltS = true
        · rw [if_pos h60, if_pos ((stands_one s i 60).1 h60)]
          cases el i <;> rfl
        · have h60' : standsB s i ltS = false := by simpa using h60
          rw [if_neg h60, if_neg (not_lt60 h60')]
          rcases text_told hi with ⟨h1, h2⟩ | ⟨m, h1, h2⟩
          · rw [if_pos h2, h1]
            rfl
          · rw [if_neg (not_neg h2), h1, h2]
            rfl

/-- Pieces from place i on, a byte 10 behind each, to the end. -/
def docQ (s : ByteArray) (el : Nat → Option (ElB × Nat)) : Nat → Nat → Option (List ElB)
  | 0, _ => none
  | f + 1, i =>
    if ¬ i < s.size then some []
    else match pieceQ s el i with
      | none => none
      | some x => if standsB s x.2 nlS = true then (docQ s el f (x.2 + 1)).map fun r => x.1 :: r else none
theorem docQ_like (s : ByteArray) (el : Nat → Option (ElB × Nat)) (h : ∀ i, standsB s i ltS = false → el i = none) : ∀ (f i : Nat), (∀ l, docL s el f i = some l → docQ s el f i = some l) ∧ (docL s el f i = none → ∀ l, docQ s el f i = some l → ∃ e ∈ l, kindE e = 2)
  | 0, i => ⟨fun x hx => (by cases hx), fun _ x hx => by cases hx⟩
  | f + 1, i => by
    have step : ∀ (e : ElB) (j : Nat), (∀ l, (docL s el f j).map (fun r => e :: r) = some l → (docQ s el f j).map (fun r => e :: r) = some l) ∧ ((docL s el f j).map (fun r => e :: r) = none → ∀ l, (docQ s el f j).map (fun r => e :: r) = some l → ∃ e ∈ l, kindE e = 2) := fun e j => by
      have ih := docQ_like s el h f j
      constructor
      · intro x hx
        obtain ⟨r, hr, rfl⟩ := Option.map_eq_some_iff.1 hx
        rw [ih.1 r hr]
        rfl
      · intro hn x hx
        have hn' := Option.map_eq_none_iff.1 hn
        obtain ⟨r, hr, rfl⟩ := Option.map_eq_some_iff.1 hx
        obtain ⟨y, hy, hb⟩ := ih.2 hn' r hr
        exact ⟨y, List.mem_cons_of_mem _ hy, hb⟩
    rw [docL, docQ]
    split
    · exact ⟨fun x hx => hx, fun hn => (by cases hn)⟩
    · rename_i hlt
      have hi : i < s.size := by omega
      unfold pieceQ
      split
      · rcases note_told hi with ⟨h1, h2⟩ | ⟨m, h1, h2⟩
        · rw [if_pos h2, h1]
          exact ⟨fun x hx => (by cases hx), fun _ x hx => by cases hx⟩
        · rw [if_neg (not_neg h2), h1, h2]
          simp only [Option.map_some, Int.toNat_natCast]
          split
          · exact step _ _
          · exact ⟨fun x hx => (by cases hx), fun _ x hx => by cases hx⟩
      · cases h60 : standsB s i ltS
        · rw [h i h60, if_neg (by simp)]
          refine ⟨fun x hx => (by cases hx), fun _ x hx => ?_⟩
          cases ht : strO (xtextR s [60] i) with
          | none => rw [ht] at hx; cases hx
          | some r =>
            rw [ht] at hx
            simp only [Option.map_some] at hx
            split at hx
            · obtain ⟨r', hr, rfl⟩ := Option.map_eq_some_iff.1 hx
              exact ⟨_, List.mem_cons_self, rfl⟩
            · cases hx
        · rw [if_pos rfl]
          cases el i with
          | none => exact ⟨fun x hx => (by cases hx), fun _ x hx => by cases hx⟩
          | some y =>
            simp only
            split
            · exact step _ _
            · exact ⟨fun x hx => (by cases hx), fun _ x hx => by cases hx⟩
theorem docF_text : ∀ (es : List ElB) (t n : Nat), (∃ e ∈ es, kindE e = 2) → docF t n es = false
  | [], _, _, h => by obtain ⟨e, he, _⟩ := h; cases he
  | x :: es, t, n, h => by
    rw [docF]
    split
    · rename_i hs
      refine docF_text es _ _ ?_
      obtain ⟨e, he, hb⟩ := h
      rcases List.mem_cons.1 he with rfl | he
      · exact absurd hb hs.2
      · exact ⟨e, he, hb⟩
    · rfl
theorem elQ_lt (s : ByteArray) (m deep i : Nat) (about : Int) (h : standsB s i ltS = false) : elQ s m deep i about = none := by
  cases m with
  | zero => rfl
  | succ m => rw [elQ, if_pos (.inl h)]
/-- What the program reads of a strict text, texts at the top, too. -/
def readP (s : ByteArray) : Option (List ElB) :=
  if 200000 < s.size ∨ standsB s 0 xmlHead = false then none
  else match docQ s (fun q => elQ s (s.size + 1) 60 q (-1)) (s.size + 1) 22 with
    | none => none
    | some l => if docF 0 0 l = true then some l else none
theorem readP_eq (s : ByteArray) : readP s = readR s := by
  rw [← readQ_eq]
  unfold readQ readP
  split
  · rfl
  · have h := docQ_like s (fun q => elQ s (s.size + 1) 60 q (-1)) (fun i h => elQ_lt s _ _ i _ h) (s.size + 1) 22
    cases hm : docL s (fun q => elQ s (s.size + 1) 60 q (-1)) (s.size + 1) 22 with
    | some l => rw [h.1 l hm]
    | none =>
      cases hq : docQ s (fun q => elQ s (s.size + 1) 60 q (-1)) (s.size + 1) 22 with
      | none => rfl
      | some l => simp only [docF_text l 0 0 (h.2 hm l hq)]; rfl
theorem docQ_size (s : ByteArray) (el : Nat → Option (ElB × Nat)) (hE : ElSz s el) : ∀ (f i : Nat) (r : List ElB), docQ s el f i = some r → i ≤ s.size → r.length + elsW r ≤ 5 * (s.size - i)
  | 0, _, _, h, _ => by cases h
  | f + 1, i, r, h, hi => by
    rw [docQ] at h
    split at h
    · cases h
      simp [elsW]
    · rename_i hlt
      cases hp : pieceQ s el i with
      | none => rw [hp] at h; cases h
      | some x =>
        obtain ⟨e, j⟩ := x
        rw [hp] at h
        simp only at h
        split at h
        · rename_i hnl
          have h1 := piece_size hE i e j (by omega) hp
          have h2 := stands_le hnl
          have u : nlS.size = 1 := rfl
          obtain ⟨r', hr, rfl⟩ := Option.map_eq_some_iff.1 h
          have h3 := docQ_size s el hE f (j + 1) r' hr (by omega)
          simp only [List.length_cons, elsW]
          omega
        · cases h

end Go.Proofs.YthipdkagkdnaiaaGreatDoor.Sg
