/- Contract of the model's XmlNote. -/
import Derived.Test.YtkngdlbedelgnaaGreatDoorMAG13
import Derived.Test.YtkngdlbedelgnaaGreatDoorMAG04
import Derived.Test.YtkngdlbedelgnaaGreatDoorMAG09
namespace Go.Proofs.YtkngdlbedelgnaaGreatDoor.Sg
open Go.ChangeShapes Go.WideShapes Go.ChangeAt Go.RowKit

/-- What the model's XmlNote hands back. -/
def noteV (s : ByteArray) (k : Nat) : Option Nat → Value
  | none => .tuple #[.string ⟨#[]⟩, .int .i64 (-1)]
  | some m => .tuple #[.string (s.extract (k + 4) m), .int .i64 ((m + 3 : Nat) : Int)]

set_option maxHeartbeats 1000000 in
theorem specXmlNote_out (s : ByteArray) (at' : Int) (w : World) (h : at' < 0 ∨ (s.size : Int) ≤ at') :
    Calls Tryz.prog 12 #[.string s, .int .i64 at'] w fun e w' => e = .returned (.tuple #[.string ⟨#[]⟩, .int .i64 (-1)]) ∧ w' = w := by
  by_cases h0 : at' < 0
  · have g0 : decide (at' < 0) = true := decide_eq_true h0
    clear h
    go_enter Tryz.func12, Tryz.ntmps12
    go_wp2_with fail
    go_ret2
    exact ⟨rfl, rfl⟩
  · have g0 : decide (at' < 0) = false := decide_eq_false h0
    have g1 : decide ((s.size : Int) ≤ at') = true := decide_eq_true (by omega)
    clear h
    go_enter Tryz.func12, Tryz.ntmps12
    go_wp2_with fail
    go_ret2
    exact ⟨rfl, rfl⟩

set_option maxRecDepth 20000 in
set_option maxHeartbeats 4000000 in
theorem specXmlNote_in (s : ByteArray) (k : Nat) (w : World) (hk : k < s.size) (hs : s.size ≤ 1099511627776) :
    Calls Tryz.prog 12 #[.string s, .int .i64 (k : Int)] w fun e w' => e = .returned (noteV s k (xnoteR s k)) ∧ Below w.heap.size w w' := by
  have g0 : decide ((k : Int) < 0) = false := decide_eq_false (by omega)
  have g1 : decide ((s.size : Int) ≤ (k : Int)) = false := decide_eq_false (by omega)
  have q1 : IntKind.i64.wrap ((k : Int) + 4) = (k : Int) + 4 := IntWalk.i64_in _ (by omega)
  have Hd : Hid (xnoteR s k = if standsB s k openNoteB = true then (match searchE s (k + 4) twoB with | none => none | some m => if (standsB s m shutNoteB && stNoteB (s.extract (k + 4) m)) = true then some m else none) else none) := rfl
  have H1 := fun W => specStands s k openNoteB W (by omega) (by omega) (by decide)
  cases h1 : standsB s k openNoteB
  · have Hx : Hid (xnoteR s k = none) := by show _ = _; rw [Hd.out, h1]; rfl
    rw [h1] at H1
    clear h1 Hd
    go_enter Tryz.func12, Tryz.ntmps12
    go_wp2_with fail
    refine (H1 _).mono ?_
    rintro e w1 ⟨rfl, rfl⟩
    go_wp2_with fail
    go_ret2
    rw [Hx.out]
    exact ⟨rfl, Below.refl _ _⟩
  · have hl := stands_le h1
    have hl4 : k + 4 ≤ s.size := hl
    have H2 : ∀ W, Calls Tryz.prog 25 #[.string s, .int .i64 ((k : Int) + 4), .string ⟨#[45, 45]⟩] W fun e w' => e = .returned (.int .i64 (findV (searchE s (k + 4) twoB))) ∧ w' = W := fun W => specSearch s (k + 4) twoB W (by omega) (by omega) (by decide)
    rw [h1] at H1
    have Hd2 : Hid (xnoteR s k = (match searchE s (k + 4) twoB with | none => none | some m => if (standsB s m shutNoteB && stNoteB (s.extract (k + 4) m)) = true then some m else none)) := by show _ = _; rw [Hd.out, h1]; rfl
    clear h1 Hd
    cases h2 : searchE s (k + 4) twoB with
    | none =>
      have Hx : Hid (xnoteR s k = none) := by show _ = _; rw [Hd2.out, h2]
      rw [h2] at H2
      clear h2 Hd2
      go_enter Tryz.func12, Tryz.ntmps12
      go_wp2_with fail
      refine (H1 _).mono ?_
      rintro e w1 ⟨rfl, rfl⟩
      go_wp2_with fail
      refine (H2 _).mono ?_
      rintro e w1 ⟨rfl, rfl⟩
      simp only [findV]
      go_wp2_with fail
      go_ret2
      rw [Hx.out]
      exact ⟨rfl, Below.refl _ _⟩
    | some m =>
      have hm := searchE_le s twoB _ (k + 4) m (Nat.le_refl _) h2
      have hm2 : m + 2 ≤ s.size := hm.2
      have H3 := fun W => specStands s m shutNoteB W (by omega) (by omega) (by decide)
      have hz : (s.extract (k + 4) m).size ≤ 1099511627776 := by rw [ByteArray.size_extract]; omega
      have H4 := fun W => specNoteOk (s.extract (k + 4) m) W hz
      have Hd3 : Hid (xnoteR s k = if (standsB s m shutNoteB && stNoteB (s.extract (k + 4) m)) = true then some m else none) := by show _ = _; rw [Hd2.out, h2]
      rw [h2] at H2
      clear h2 Hd2 hz
      have gm : decide ((m : Int) < 0) = false := decide_eq_false (by omega)
      have p1 : (0 : Int) ≤ (k : Int) + 4 := by omega
      have p2 : (k : Int) + 4 ≤ (m : Int) := by omega
      have p3 : (m : Int) ≤ (s.size : Int) := by omega
      have p4 : ((k : Int) + 4).toNat = k + 4 := by omega
      have p5 : IntKind.i64.wrap ((m : Int) + 3) = (m : Int) + 3 := IntWalk.i64_in _ (by omega)
      have p6 : (0 : Int) ≤ (m : Int) := by omega
      cases h3 : standsB s m shutNoteB
      · have Hx : Hid (xnoteR s k = none) := by show _ = _; rw [Hd3.out, h3]; rfl
        rw [h3] at H3
        clear h3 Hd3 H4
        go_enter Tryz.func12, Tryz.ntmps12
        go_wp2_with fail
        refine (H1 _).mono ?_
        rintro e w1 ⟨rfl, rfl⟩
        go_wp2_with fail
        refine (H2 _).mono ?_
        rintro e w1 ⟨rfl, rfl⟩
        simp only [findV]
        go_wp2_with fail
        refine (H3 _).mono ?_
        rintro e w1 ⟨rfl, rfl⟩
        go_wp2_with fail
        go_ret2
        rw [Hx.out]
        exact ⟨rfl, Below.refl _ _⟩
      · rw [h3] at H3
        cases h4 : stNoteB (s.extract (k + 4) m)
        · have Hx : Hid (xnoteR s k = none) := by show _ = _; rw [Hd3.out, h3, h4]; rfl
          rw [h4] at H4
          clear h3 h4 Hd3
          go_enter Tryz.func12, Tryz.ntmps12
          go_wp2_with fail
          refine (H1 _).mono ?_
          rintro e w1 ⟨rfl, rfl⟩
          go_wp2_with fail
          refine (H2 _).mono ?_
          rintro e w1 ⟨rfl, rfl⟩
          simp only [findV]
          go_wp2_with fail
          refine (H3 _).mono ?_
          rintro e w1 ⟨rfl, rfl⟩
          go_wp2_with fail
          refine (H4 _).mono ?_
          rintro e w2 ⟨rfl, b2⟩
          go_wp2_with fail
          go_ret2
          rw [Hx.out]
          exact ⟨rfl, b2⟩
        · have Hx : Hid (xnoteR s k = some m) := by show _ = _; rw [Hd3.out, h3, h4]; rfl
          rw [h4] at H4
          clear h3 h4 Hd3
          go_enter Tryz.func12, Tryz.ntmps12
          go_wp2_with fail
          refine (H1 _).mono ?_
          rintro e w1 ⟨rfl, rfl⟩
          go_wp2_with fail
          refine (H2 _).mono ?_
          rintro e w1 ⟨rfl, rfl⟩
          simp only [findV]
          go_wp2_with fail
          refine (H3 _).mono ?_
          rintro e w1 ⟨rfl, rfl⟩
          go_wp2_with fail
          refine (H4 _).mono ?_
          rintro e w2 ⟨rfl, b2⟩
          go_wp2_with fail
          go_ret2
          rw [Hx.out]
          exact ⟨rfl, b2⟩

end Go.Proofs.YtkngdlbedelgnaaGreatDoor.Sg
