/- The draws of chapter 1: each gives a number, a text or a list, and changes nothing that was there. -/
import Derived.Test.YtidfbnhikkckmaaDoorSgDrawT
namespace Go.Proofs.YtidfbnhikkckmaaDoor.Sg
open Go.ChangeShapes Go.WideShapes Go.ChangeAt Go.RowKit

set_option maxHeartbeats 1000000 in
theorem drawPutSign (a : Option Addr) (n cap : Nat) (w : World) (hcode : Code w.heap.size w a n) (hn : n ≤ 1048576) :
    Calls Tryd.prog 11 #[.slice a n cap] w fun e w' => ∃ z : Int, e = .returned (.int .i64 z) ∧ Below w.heap.size w w' := by
  have Hc : Hid (Code w.heap.size w a n) := hcode
  clear hcode
  go_enter Tryd.func11, Tryd.ntmps11
  go_wp2_with fail
  refine (l1New_any a n cap _ Hc.out hn).mono ?_
  rintro e w1 ⟨rfl, hc1, hb1⟩
  go_wp2_with fail
  refine (l1DrawAny_any _ a n cap _ hc1).mono ?_
  rintro e w2 ⟨z, rfl, hc2, ho2⟩
  go_wp2_with fail
  go_ret
  exact ⟨z, rfl, hb1.trans (ho2.below (Nat.le_refl _) hb1.size)⟩

set_option maxHeartbeats 1000000 in
theorem drawSignOk (a : Option Addr) (n cap : Nat) (w : World) (hcode : Code w.heap.size w a n) (hn : n ≤ 1048576) :
    Calls Tryd.prog 17 #[.slice a n cap] w fun e w' => ∃ z : Int, e = .returned (.int .i64 z) ∧ Below w.heap.size w w' := by
  have Hc : Hid (Code w.heap.size w a n) := hcode
  clear hcode
  go_enter Tryd.func17, Tryd.ntmps17
  go_wp2_with fail
  refine (l1New_any a n cap _ Hc.out hn).mono ?_
  rintro e w1 ⟨rfl, hc1, hb1⟩
  go_wp2_with fail
  refine (l1DrawAny_any _ a n cap _ hc1).mono ?_
  rintro e w2 ⟨z, rfl, hc2, ho2⟩
  go_wp2_with fail
  go_ret
  exact ⟨z, rfl, hb1.trans (ho2.below (Nat.le_refl _) hb1.size)⟩

set_option maxHeartbeats 1000000 in
theorem drawClean (a : Option Addr) (n cap : Nat) (w : World) (hcode : Code w.heap.size w a n) (hn : n ≤ 1048576) :
    Calls Tryd.prog 15 #[.slice a n cap] w fun e w' => ∃ s : ByteArray, s.size ≤ 24 ∧ e = .returned (.string s) ∧ Below w.heap.size w w' := by
  have Hc : Hid (Code w.heap.size w a n) := hcode
  clear hcode
  go_enter Tryd.func15, Tryd.ntmps15
  go_wp2_with fail
  refine (l1New_any a n cap _ Hc.out hn).mono ?_
  rintro e w1 ⟨rfl, hc1, hb1⟩
  go_wp2_with fail
  refine (l1DrawText_any _ a n cap _ hc1).mono ?_
  rintro e w2 ⟨s, hs, rfl, hc2, ho2⟩
  go_wp2_with fail
  go_ret
  exact ⟨s, hs, rfl, hb1.trans (ho2.below (Nat.le_refl _) hb1.size)⟩

set_option maxHeartbeats 1000000 in
theorem drawCleanOk (a : Option Addr) (n cap : Nat) (w : World) (hcode : Code w.heap.size w a n) (hn : n ≤ 1048576) :
    Calls Tryd.prog 18 #[.slice a n cap] w fun e w' => ∃ s : ByteArray, s.size ≤ 24 ∧ e = .returned (.string s) ∧ Below w.heap.size w w' := by
  have Hc : Hid (Code w.heap.size w a n) := hcode
  clear hcode
  go_enter Tryd.func18, Tryd.ntmps18
  go_wp2_with fail
  refine (l1New_any a n cap _ Hc.out hn).mono ?_
  rintro e w1 ⟨rfl, hc1, hb1⟩
  go_wp2_with fail
  refine (l1DrawText_any _ a n cap _ hc1).mono ?_
  rintro e w2 ⟨s, hs, rfl, hc2, ho2⟩
  go_wp2_with fail
  go_ret
  exact ⟨s, hs, rfl, hb1.trans (ho2.below (Nat.le_refl _) hb1.size)⟩

set_option maxHeartbeats 1000000 in
theorem drawSigns (a : Option Addr) (n cap : Nat) (w : World) (hcode : Code w.heap.size w a n) (hn : n ≤ 1048576) :
    Calls Tryd.prog 19 #[.slice a n cap] w fun e w' => ∃ s : ByteArray, s.size ≤ 24 ∧ e = .returned (.string s) ∧ Below w.heap.size w w' := by
  have Hc : Hid (Code w.heap.size w a n) := hcode
  clear hcode
  go_enter Tryd.func19, Tryd.ntmps19
  go_wp2_with fail
  refine (l1New_any a n cap _ Hc.out hn).mono ?_
  rintro e w1 ⟨rfl, hc1, hb1⟩
  go_wp2_with fail
  refine (l1DrawText_any _ a n cap _ hc1).mono ?_
  rintro e w2 ⟨s, hs, rfl, hc2, ho2⟩
  go_wp2_with fail
  go_ret
  exact ⟨s, hs, rfl, hb1.trans (ho2.below (Nat.le_refl _) hb1.size)⟩

set_option maxHeartbeats 1000000 in
theorem drawGetSign (a : Option Addr) (n cap : Nat) (w : World) (hcode : Code w.heap.size w a n) (hn : n ≤ 1048576) :
    Calls Tryd.prog 12 #[.slice a n cap] w fun e w' => ∃ (s : ByteArray) (z : Int), s.size ≤ 24 ∧ e = .returned (.tuple #[.string s, .int .i64 z]) ∧ Below w.heap.size w w' := by
  have Hc : Hid (Code w.heap.size w a n) := hcode
  clear hcode
  go_enter Tryd.func12, Tryd.ntmps12
  go_wp2_with fail
  refine (l1New_any a n cap _ Hc.out hn).mono ?_
  rintro e w1 ⟨rfl, hc1, hb1⟩
  go_wp2_with fail
  refine (l1DrawText_any _ a n cap _ hc1).mono ?_
  rintro e w2 ⟨s, hs, rfl, hc2, ho2⟩
  have hlt := hc2.lt
  go_wp2_with fail
  refine (l1PickInt_any _ a n cap [0, 0, 1, 2, (s.size : Int), -1, 9223372036854775807] _ _ _ (hc2.alloc _) (Ints.lit _ [0, 0, 1, 2, (s.size : Int), -1, 9223372036854775807] 3) (apart_new hlt) (by simp) (by simp)).mono ?_
  rintro e w3 ⟨z, _, rfl, hc3, ho3⟩
  go_wp2_with fail
  go_ret2
  exact ⟨s, z, hs, rfl, hb1.trans ((ho2.trans ho3.of_alloc).below (Nat.le_refl _) hb1.size)⟩

theorem owns_only {w w' : World} {base p : Nat} {e : TypeId} {v : Value} {n : Nat} {xs : List Value} (h : w.ownsRow base e 1 v n xs) (hp : p < base) (ho : Only p w w') : w'.ownsRow base e 1 v n xs := by
  obtain ⟨h1, h2⟩ := h
  refine ⟨h1, ?_⟩
  rcases h2 with h2 | ⟨g, cap, cur, h2, h3, h4, h5⟩
  · exact .inl h2
  · have hg : g < w.heap.size := (Array.getElem?_eq_some_iff.1 h4).1
    exact .inr ⟨g, cap, cur, h2, h3, (ho.block hg (by omega)).trans h4, h5⟩

set_option maxHeartbeats 2000000 in
theorem drawSignText (a : Option Addr) (n cap : Nat) (w : World) (hcode : Code w.heap.size w a n) (hn : n ≤ 1048576) :
    Calls Tryd.prog 9 #[.slice a n cap] w fun e w' => ∃ (zs : List Int) (al : Option Addr) (cl : Nat), zs.length ≤ 6 ∧ e = .returned (.slice al zs.length cl) ∧ Ints w' al zs ∧ Below w.heap.size w w' := by
  obtain ⟨i0, hi0, hz0, hz1, hz2⟩ := info_parts info_int
  have Hi : Hid (Tryd.prog.info? 3 = some i0) := hi0
  have Hz0 : Hid (i0.zero = some (.int .i64 0)) := hz0
  have Hz1 : Hid (i0.size = 1) := hz1
  have Hz2 : Hid (i0.bytes = 8) := hz2
  clear hi0 hz0 hz1 hz2
  have Hc : Hid (Code w.heap.size w a n) := hcode
  clear hcode
  go_enter Tryd.func9, Tryd.ntmps9
  go_wp2_with fail
  refine (l1New_any a n cap _ Hc.out hn).mono ?_
  rintro e w1 ⟨rfl, hc1, hb1⟩
  have hlt1 := hc1.lt
  have Hc1 : Hid (Cur w.heap.size a n cap w1) := hc1
  clear hc1
  generalize hP : w.heap.size = p at *
  have HP : Hid (w.heap.size = p) := hP
  clear hP
  go_wp2_with fail
  go_loopw [4, 5] (fun v iv wr => ∃ (k : Nat) (acc : List Int), k ≤ 6 ∧ acc.length ≤ k ∧ iv = .int .i64 k ∧ wr.ownsRow (p + 1) 3 1 v acc.length (intCells acc) ∧ Hid (Cur p a n cap wr) ∧ Below p w wr) (fun _ iv _ => 6 - (intOf iv).toNat)
  case atStart =>
    refine ⟨0, [], by decide, Nat.le_refl _, rfl, ⟨rfl, .inr ⟨w1.heap.size, 0, #[], rfl, by omega, ?_, Nat.le_refl _, Nat.zero_le _, rfl, rfl⟩⟩, Hc1.out.alloc _, hb1.alloc (by omega) _⟩
    show (w1.heap.push _)[w1.heap.size]? = _
    simp
  case round =>
    obtain ⟨k, acc, hk, hal, rfl, hown, Hcr, hbel⟩ := hrel
    have hltr := Hcr.out.lt
    go_wp2_with fail
    refine (l1Below_any p a n cap 6 _ Hcr.out (by decide) (by decide)).mono ?_
    rintro e w2 ⟨x, hx, rfl, hc2, ho2⟩
    have hbel2 : Below p w w2 := hbel.trans (ho2.below (Nat.le_refl _) (by omega))
    have hown2 := owns_only hown (Nat.lt_succ_self p) ho2
    clear hown hbel Hcr
    by_cases hlt : k < x
    · have hlt' : (k : Int) < (x : Int) := by omega
      go_wp2_with fail
      refine (l1DrawAny_any p a n cap _ hc2).mono ?_
      rintro e w3 ⟨z, rfl, hc3, ho3⟩
      have hlt3 := hc3.lt
      have hbel3 : Below p w w3 := hbel2.trans (ho3.below (Nat.le_refl _) (by have := ho2.size; omega))
      have hown3 := owns_only hown2 (Nat.lt_succ_self p) ho3
      have Hc3 : Hid (Cur p a n cap w3) := hc3
      clear hown2 hbel2 hc2 hc3 ho2 ho3
      go_wp2_with (at_builtin; refine wpList_append_own _ rfl (.tmp 15) (.tmp 18) 24 rfl (p + 1) 3 i0 (.int .i64 0) 1 8 Tryd.underlying24 Hi.out Hz0.out Hz1.out Hz2.out rfl (by decide) _ acc.length (intCells acc) rfl (hown3.alloc _) ⟨_, 0, none⟩ 1 1 [.int .i64 z] rfl rfl (one_cell _ _ _) (one_one _) ?c3 ?c4 ?c5 ?_)
      case c3 => unfold maxLen; omega
      case c4 => omega
      case c5 => first | omega | (simp; omega)
      intro v' w4 hown' hgrow _
      have hbel4 : Below p w w4 := owns_grown (hown3.alloc _) (hbel3.alloc (by omega) _) (Nat.le_succ _) hgrow (by simp; omega)
      have Hc4 : Hid (Cur p a n cap w4) := by
        obtain ⟨h1, h2, i, g, h4, h5⟩ := Hc3.out
        refine ⟨h1, (h2.below (w' := w4) ?_), i, g, h4, iter_kept (hown3.alloc _) (Nat.lt_succ_self p) hgrow (by rw [Below.heap_alloc _ _ _ hlt3]; exact h5)⟩
        exact owns_grown (hown3.alloc _) ((Below.refl p w3).alloc (by omega) _) (Nat.le_succ _) hgrow (by simp; omega)
      have hown4 : w4.ownsRow (p + 1) 3 1 v' (acc ++ [z]).length (intCells (acc ++ [z])) := by
        rw [List.length_append]
        have e2 : intCells (acc ++ [z]) = intCells acc ++ [.int .i64 z] := by simp [intCells]
        rw [e2]
        exact hown'
      clear hown' hgrow hown3 hbel3 Hc3
      go_wp2
      go_roundw
      case rel => exact ⟨k + 1, acc ++ [z], by omega, by simp; omega, by go_num, hown4, Hc4, hbel4⟩
      case measure => simp [intOf]; omega
    · have hd : decide ((k : Int) < (x : Int)) = false := by simp; omega
      obtain ⟨al, cl, rfl, ho⟩ := Owned.of_row hown2
      clear hown2
      go_wp2
      go_ret
      exact ⟨acc, al, cl, by omega, rfl, ho.ints, by rw [HP.out]; exact hbel2⟩

end Go.Proofs.YtidfbnhikkckmaaDoor.Sg
