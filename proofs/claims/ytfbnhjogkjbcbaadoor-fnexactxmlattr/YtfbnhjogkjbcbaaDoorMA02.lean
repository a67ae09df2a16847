/- The program's XmlAttr answers as the model's. Contract of the laws' attributes compared: one with itself. The law of XmlAttr, out of the program's contract. Written by mk_xmlaw.py. -/
import Derived.Test.YtfbnhjogkjbcbaaDoorMA14
import Derived.Test.YtfbnhjogkjbcbaaDoorSgOk
import Derived.Below
namespace Go.Proofs.YtfbnhjogkjbcbaaDoor.Sg
open Go.ChangeShapes Go.WideShapes Go.ChangeAt Go.RowKit

set_option maxHeartbeats 2000000 in
theorem implXmlAttr (s : ByteArray) (i : Int) (a : Addr) (w : World) (hs : s.size ≤ 1073741824) (hX : PcX a w) :
    Calls Tryd.prog 15 #[.string s, .int .i64 i] w fun e w' => e = .returned (.tuple #[.agg #[.string (xaN s i), .string (xaV s i)], .int .i64 (xaI s i)]) ∧ Below w.heap.size w w' := by
  have HX : Hid (PcX a w) := hX
  have HX1 : Hid (PcX a (w.alloc (.cells #[.string ⟨#[]⟩, .string ⟨#[]⟩] 28))) := hX.below ((Below.refl _ _).alloc (Nat.le_refl _) _)
  have hg := err_place hX.1.2
  have HC : ∃ o, Hid ((xaN s i = match o with | none => ⟨#[]⟩ | some r => r.1) ∧ (xaV s i = match o with | none => ⟨#[]⟩ | some (r : ByteArray × ByteArray × Nat) => r.2.1) ∧ (xaI s i = match o with | none => -1 | some r => (r.2.2 : Int))) ∧
      ∀ W, PcX a W → Calls Tryd.prog 34 #[.string s, .int .i64 i] W fun e w' => (∃ x y j, e = .returned (pattrV a x y j o)) ∧ Below W.heap.size W w' := by
    by_cases h : 0 ≤ i ∧ i ≤ s.size
    · refine ⟨attrO s i.toNat, ?_, fun W hW => ?_⟩
      · show _ ∧ _ ∧ _
        unfold xaN xaV xaI xaO attrO
        rw [if_pos h]
        cases xattrR s i.toNat <;> exact ⟨rfl, rfl, rfl⟩
      · have C := strictAttr_in s i.toNat a W (by omega) hs hW
        rw [show ((i.toNat : Nat) : Int) = i by omega] at C
        exact C
    · refine ⟨none, ?_, fun W hW => strictAttr_out s i a W (by omega) hW⟩
      show _ ∧ _ ∧ _
      unfold xaN xaV xaI xaO
      rw [if_neg h]
      exact ⟨rfl, rfl, rfl⟩
  obtain ⟨o, HO, HC⟩ := HC
  generalize xaN s i = N0 at *
  generalize xaV s i = V0 at *
  generalize xaI s i = I0 at *
  clear hX
  cases o with
  | none =>
    obtain ⟨rfl, rfl, rfl⟩ := HO.out
    clear HO
    go_enter Tryd.func15, Tryd.ntmps15
    go_wp2_with fail
    refine (HC _ HX1.out).mono ?_
    rintro e w1 ⟨⟨x, y, j, rfl⟩, b1⟩
    rw [show pattrV a x y j none = .tuple #[.agg #[.string x, .string y], .int .i64 j, errV a] from rfl]
    have B0 := below_box b1
    go_wp2_with fail
    refine (toldA_no x y j a _ (HX.out.below B0).1.2).mono ?_
    rintro e w2 ⟨rfl, b2⟩
    have b4 := b1.trans (b2.mono b1.size)
    have X : Hid (Box2 _ w.heap.size) := Box2.of b4
    have B : Hid (Below w.heap.size w _) := below_box b4
    clear b1 b2 b4 B0 HC
    obtain ⟨hx, hy, hf, hg', hs0, hs1⟩ := X.out
    go_wp2_with fail
    refine bodyPost_ret (v := .tuple #[.agg #[.string ⟨#[]⟩, .string ⟨#[]⟩], .int .i64 (-1)]) ?_ rfl ⟨rfl, (B.out.setCell (Nat.le_refl _) _).setCell (Nat.le_refl _) _⟩
    have t0 := hs0 (.string ⟨#[]⟩) (.string ⟨#[]⟩)
    have t1 := hs1 (.string ⟨#[]⟩) (.string ⟨#[]⟩)
    simp [results, Tryd.results15, go_sem, t0, t1]
  | some r =>
    obtain ⟨nm, v, q⟩ := r
    obtain ⟨rfl, rfl, rfl⟩ := HO.out
    clear HO
    go_enter Tryd.func15, Tryd.ntmps15
    go_wp2_with fail
    refine (HC _ HX1.out).mono ?_
    rintro e w1 ⟨⟨x, y, j, rfl⟩, b1⟩
    rw [show pattrV a x y j (some (N0, V0, q)) = .tuple #[.agg #[.string N0, .string V0], .int .i64 (q : Int), .nilIface] from rfl]
    have B0 := below_box b1
    go_wp2_with fail
    refine (toldA_yes N0 V0 (q : Int) a _ (HX.out.below B0).1.2).mono ?_
    rintro e w2 ⟨rfl, b2⟩
    have b4 := b1.trans (b2.mono b1.size)
    have X : Hid (Box2 _ w.heap.size) := Box2.of b4
    have B : Hid (Below w.heap.size w _) := below_box b4
    clear b1 b2 b4 B0 HC
    obtain ⟨hx, hy, hf, hg', hs0, hs1⟩ := X.out
    go_wp2_with fail
    refine bodyPost_ret (v := .tuple #[.agg #[.string N0, .string V0], .int .i64 (q : Int)]) ?_ rfl ⟨rfl, (B.out.setCell (Nat.le_refl _) _).setCell (Nat.le_refl _) _⟩
    have t0 := hs0 (.string N0) (.string V0)
    have t1 := hs1 (.string N0) (.string V0)
    simp [results, Tryd.results15, go_sem, t0, t1]
end Go.Proofs.YtfbnhjogkjbcbaaDoor.Sg

namespace Go.Proofs.YtfbnhjogkjbcbaaDoor.Sg
open Go.ChangeShapes Go.WideShapes Go.ChangeAt Go.RowKit

set_option maxHeartbeats 2000000 in
theorem eqAttr_same (x y : ByteArray) (w : World) :
    Calls Tryd.prog 16 #[.agg #[.string x, .string y], .agg #[.string x, .string y]] w fun e w' => e = .returned (.bool true) ∧ Below w.heap.size w w' := by
  have g1 : (x.toList == x.toList) = true := by simp
  have g2 : (y.toList == y.toList) = true := by simp
  go_enter Tryd.func16, Tryd.ntmps16
  go_wp2
  go_ret
  exact ⟨rfl, ((Below.refl _ _).alloc (Nat.le_refl _) _).alloc (by simp) _⟩

end Go.Proofs.YtfbnhjogkjbcbaaDoor.Sg

namespace Go.Proofs.YtfbnhjogkjbcbaaDoor.Sg
open Go.ChangeShapes Go.WideShapes Go.ChangeAt Go.RowKit

set_option maxHeartbeats 1000000 in
theorem lawXmlAttr (T : World → Prop) (keep : ∀ W W', T W → Below W.heap.size W W' → T W') (hI : ∀ (s : ByteArray) (i : Int) (W : World), s.size ≤ 1048576 → T W → Calls Tryd.prog 15 #[.string s, .int .i64 i] W fun e w' => e = .returned (.tuple #[.agg #[.string (xaN s i), .string (xaV s i)], .int .i64 (xaI s i)]) ∧ Below W.heap.size W w') (w : World) (s : ByteArray) (i : Int) (hT : T w) :
    Calls Tryd.prog 6 #[.string s, .int .i64 i] w fun e w' => e = .returned (.bool true) ∧ Below w.heap.size w w' := by
  have HT : Hid (T w) := hT
  have Hk : Hid (∀ W W', T W → Below W.heap.size W W' → T W') := keep
  have HI : Hid (∀ (s : ByteArray) (i : Int) (W : World), s.size ≤ 1048576 → T W → Calls Tryd.prog 15 #[.string s, .int .i64 i] W fun e w' => e = .returned (.tuple #[.agg #[.string (xaN s i), .string (xaV s i)], .int .i64 (xaI s i)]) ∧ Below W.heap.size W w') := hI
  clear hT keep hI
  by_cases hbs : (1048576 : Int) < (s.size : Int)
  · go_enter Tryd.func6, Tryd.ntmps6
    go_wp2_with fail
    go_ret
    exact ⟨rfl, Below.refl _ _⟩
  have HS : ∀ W : World, Calls Tryd.prog 14 #[.string s, .int .i64 i] W fun e w' => e = .returned (.tuple #[.agg #[.string (xaN s i), .string (xaV s i)], .int .i64 (xaI s i)]) ∧ Below W.heap.size W w' := fun W => (specXmlAttr s i _ (by omega))
  have HP : ∀ W : World, T W → Calls Tryd.prog 15 #[.string s, .int .i64 i] W fun e w' => e = .returned (.tuple #[.agg #[.string (xaN s i), .string (xaV s i)], .int .i64 (xaI s i)]) ∧ Below W.heap.size W w' := fun W h => HI.out s i W (by omega) h
  clear HI
  generalize xaN s i = r0 at *
  generalize xaV s i = r1 at *
  generalize xaI s i = r2 at *
  go_enter Tryd.func6, Tryd.ntmps6
  go_wp2_with fail
  refine (HS _).mono ?_
  rintro e w1 ⟨rfl, b1⟩
  have b1' : Below w.heap.size w (w1.alloc (.cells #[.string r0, .string r1] 28)) := b1.alloc b1.size _
  have HT1 : Hid (T (w1.alloc (.cells #[.string r0, .string r1] 28))) := Hk.out _ _ HT.out b1'
  go_wp2_with fail
  refine (HP _ HT1.out).mono ?_
  rintro e w2 ⟨rfl, b2⟩
  have c0 : w2.cell? ⟨w1.heap.size, 0, none⟩ = some (.string r0) := (b2.cell (by simp)).trans (by simp)
  have c1 : w2.cell? ⟨w1.heap.size, 1, none⟩ = some (.string r1) := (b2.cell (by simp)).trans (by simp)
  have hlt : w1.heap.size < w2.heap.size := Nat.lt_of_lt_of_le (by simp) b2.size
  have d0 : (w2.alloc (.cells #[.string r0, .string r1] 28)).cell? ⟨w1.heap.size, 0, none⟩ = some (.string r0) := (World.cell?_alloc_past _ _ _ hlt).trans c0
  have d1 : (w2.alloc (.cells #[.string r0, .string r1] 28)).cell? ⟨w1.heap.size, 1, none⟩ = some (.string r1) := (World.cell?_alloc_past _ _ _ hlt).trans c1
  have B : Hid (Below w.heap.size w (w2.alloc (.cells #[.string r0, .string r1] 28))) := (b1'.trans (b2.mono b1'.size)).alloc (Nat.le_trans b1'.size b2.size) _
  clear b1 b1' b2 c0 c1
  go_wp2_with fail
  refine (eqAttr_same r0 r1 _).mono ?_
  rintro e w3 ⟨rfl, b3⟩
  go_wp2_with fail
  go_ret
  exact ⟨rfl, B.out.trans (b3.mono B.out.size)⟩

end Go.Proofs.YtfbnhjogkjbcbaaDoor.Sg
