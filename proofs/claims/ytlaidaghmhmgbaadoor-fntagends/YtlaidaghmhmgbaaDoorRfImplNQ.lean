/- Contracts of the program's namedSigns and longestName. -/
import Derived.Test.YtlaidaghmhmgbaaDoorRfLongQ
import Derived.Test.YtlaidaghmhmgbaaDoorKdSpanQ
import Derived.Test.YtlaidaghmhmgbaaDoorShelf
namespace Go.Proofs.YtlaidaghmhmgbaaDoor.Sg
open Go.ChangeShapes Go.WideShapes Go.ChangeAt Go.RowKit

/-- The cells of names and signs. -/
def namCells : List (List UInt8 × Int) → List Value
  | [] => []
  | p :: l => .string (strB p.1) :: .int .i64 p.2 :: namCells l
theorem namCells_at : ∀ (l : List (List UInt8 × Int)) (k : Nat), k < l.length → (namCells l)[k * 2]? = some (.string (strB ((l.map (·.1)).getD k []))) ∧ (namCells l)[k * 2 + 1]? = some (.int .i64 ((l.map (·.2)).getD k 0))
  | [], k, h => absurd h (Nat.not_lt_zero _)
  | p :: l, 0, _ => by simp [namCells]
  | p :: l, k + 1, h => by
    have ih := namCells_at l k (by simpa using h)
    have e1 : (k + 1) * 2 = k * 2 + 1 + 1 := by omega
    rw [e1]
    simpa [namCells] using ih

/-- The names and their signs lie one behind the other from a block's beginning. -/
def NamesAt (w : World) (b : Nat) : Prop :=
  ∀ k, k < 14 → w.cell? ⟨b, k * 2, none⟩ = some (.string (strB (nameL.getD k []))) ∧ w.cell? ⟨b, k * 2 + 1, none⟩ = some (.int .i64 (signL.getD k 0))

theorem NamesAt.laid (w : World) (C : Array Value) (t : TypeId) (hC : C = (namCells nameT).toArray) : NamesAt (w.alloc (.cells C t)) w.heap.size := by
  subst hC
  intro k hk
  rw [World.cell?_alloc_new, World.cell?_alloc_new, List.getElem?_toArray, List.getElem?_toArray]
  exact namCells_at nameT k hk
theorem NamesAt.below {w w' : World} {b : Nat} (h : NamesAt w b) {B : Nat} (hB : b < B) (hb : Below B w w') : NamesAt w' b :=
  fun k hk => ⟨(hb.cell hB).trans (h k hk).1, (hb.cell hB).trans (h k hk).2⟩
theorem NamesAt.alloc {w : World} {b : Nat} (h : NamesAt w b) (hB : b < w.heap.size) (o : Obj) : NamesAt (w.alloc o) b :=
  fun k hk => ⟨(World.cell?_alloc_past o b _ hB).trans (h k hk).1, (World.cell?_alloc_past o b _ hB).trans (h k hk).2⟩
theorem NamesAt.set {w : World} {b c i : Nat} (h : NamesAt w b) (hB : c ≠ b) (v : Value) : NamesAt (w.setCell ⟨c, i, none⟩ v) b :=
  fun k hk => ⟨(World.cell?_setCell_other _ _ _ _ (fun e => hB (congrArg Addr.block e))).trans (h k hk).1, (World.cell?_setCell_other _ _ _ _ (fun e => hB (congrArg Addr.block e))).trans (h k hk).2⟩

/-- A block has two cells that may be written. -/
def Two (w : World) (b : Nat) (x y : Value) : Prop :=
  b < w.heap.size ∧ w.cell? ⟨b, 0, none⟩ = some x ∧ w.cell? ⟨b, 1, none⟩ = some y ∧ w.frozen? ⟨b, 0, none⟩ = false ∧ w.frozen? ⟨b, 1, none⟩ = false
theorem Two.new (w : World) (x y : Value) (t : TypeId) : Two (w.alloc (.cells #[x, y] t)) w.heap.size x y :=
  ⟨by simp, by simp, by simp, by simp, by simp⟩
theorem Two.below {w w' : World} {b : Nat} {x y : Value} (h : Two w b x y) {B : Nat} (hB : b < B) (hb : Below B w w') : Two w' b x y :=
  ⟨Nat.lt_of_lt_of_le h.1 hb.size, (hb.cell hB).trans h.2.1, (hb.cell hB).trans h.2.2.1, (hb.frozen hB).trans h.2.2.2.1, (hb.frozen hB).trans h.2.2.2.2⟩
theorem Two.alloc {w : World} {b : Nat} {x y : Value} (h : Two w b x y) (o : Obj) : Two (w.alloc o) b x y :=
  h.below h.1 ((Below.refl _ _).alloc (Nat.le_refl _) _)
theorem Two.other {w : World} {b c i : Nat} {x y : Value} (h : Two w b x y) (hB : c ≠ b) (v : Value) : Two (w.setCell ⟨c, i, none⟩ v) b x y :=
  ⟨by simpa using h.1, (World.cell?_setCell_other _ _ _ _ (fun e => hB (congrArg Addr.block e))).trans h.2.1, (World.cell?_setCell_other _ _ _ _ (fun e => hB (congrArg Addr.block e))).trans h.2.2.1, by simpa using h.2.2.2.1, by simpa using h.2.2.2.2⟩
theorem Two.set {w : World} {b : Nat} {x y : Value} (h : Two w b x y) (x' y' : Value) : Two ((w.setCell ⟨b, 0, none⟩ x').setCell ⟨b, 1, none⟩ y') b x' y' :=
  ⟨by simpa using h.1, (World.cell?_setCell_other _ _ _ _ (by simp)).trans (World.cell?_setCell_same _ _ _ h.2.1), World.cell?_setCell_same _ _ _ ((World.cell?_setCell_other _ _ _ _ (by simp)).trans h.2.2.1), by simpa using h.2.2.2.1, by simpa using h.2.2.2.2⟩

set_option maxHeartbeats 1000000 in
theorem implNamedSigns (w : World) :
    Calls Tryd.prog 88 #[] w fun e w' => e = .returned (.slice (some ⟨w.heap.size, 0, none⟩) 14 14) ∧ NamesAt w' w.heap.size ∧ w.heap.size < w'.heap.size ∧ Below w.heap.size w w' := by
  go_enter Tryd.func88, Tryd.ntmps88
  go_wp2
  go_ret
  exact ⟨rfl, NamesAt.laid w _ _ rfl, by simp, (Below.refl _ _).alloc (Nat.le_refl _) _⟩

/-- A name's sign; 0 of the empty one. -/
def sign0 (x : List UInt8) : Int := if x = [] then 0 else signG nameT x
theorem sign0_at : ∀ k, k < 14 → signL.getD k 0 = sign0 (nameL.getD k []) := by decide

theorem hasPrefix_yes {y l : List UInt8} (h : y <+: l) : Lib.hasPrefix l y = true := by
  unfold Lib.hasPrefix
  exact List.isPrefixOf_iff_prefix.2 h
theorem hasPrefix_no {y l : List UInt8} (h : ¬ y <+: l) : Lib.hasPrefix l y = false := by
  unfold Lib.hasPrefix
  exact Bool.eq_false_iff.2 fun e => h (List.isPrefixOf_iff_prefix.1 e)

set_option maxHeartbeats 400000 in
theorem implLongest (s : ByteArray) (w : World) (x : List UInt8) (sx : ByteArray) (zx : Int) (Hx : Hid (longL s.data.toList = x)) (Hs : Hid (strB x = sx)) (Hz : Hid (sign0 x = zx)) :
    Calls Tryd.prog 81 #[.string s] w fun e w' => e = .returned (.agg #[.string sx, .int .i64 zx]) ∧ Below w.heap.size w w' := by
  go_enter Tryd.func81, Tryd.ntmps81
  go_wp2_with fail
  refine (implNamedSigns _).mono ?_
  rintro e w1 ⟨rfl, hN, hz, hb1⟩
  have T0 : Two w1 w.heap.size (.string ⟨#[]⟩) (.int .i64 0) := ((Two.new w _ _ 93).alloc _).below (by simp; omega) hb1
  have T1 : Two w1 (w.heap.size + 1) (.string ⟨#[]⟩) (.int .i64 0) := by
    have h := (Two.new (w.alloc (.cells #[.string ⟨#[]⟩, .int .i64 0] 93)) (.string ⟨#[]⟩) (.int .i64 0) 93).below (by simp) hb1
    simpa using h
  have hz2 : w.heap.size + 1 + 1 < w1.heap.size := by simpa using hz
  have hN2 : NamesAt w1 (w.heap.size + 1 + 1) := by simpa using hN
  have b1 : Below w.heap.size w w1 := (((Below.refl _ _).alloc (Nat.le_refl _) _).alloc (by simp) _).trans (hb1.mono (by simp; omega))
  have HN : Hid (NamesAt w1 (w.heap.size + 1 + 1)) := hN2
  have H0 : Hid (Two w1 w.heap.size (.string ⟨#[]⟩) (.int .i64 0)) := T0
  have H1 : Hid (Two w1 (w.heap.size + 1) (.string ⟨#[]⟩) (.int .i64 0)) := T1
  have eS : (w.alloc (.cells #[.string ⟨#[]⟩, .int .i64 0] 93)).heap.size = w.heap.size + 1 := by simp
  clear hN hz hb1 T0 T1 hN2 eS
  go_wp2
  have E1 : Hid (w.heap.size < w.heap.size + 1) := Nat.lt_succ_self _
  have E2 : Hid (w.heap.size + 1 < w.heap.size + 1 + 1) := Nat.lt_succ_self _
  generalize w.heap.size + 1 + 1 = c2 at *
  generalize w.heap.size + 1 = c1 at *
  go_loopw [9] (fun i wr => ∃ (k : Nat) (best : List UInt8), k ≤ 14 ∧ i = .int .i64 k ∧ best.length ≤ 6 ∧ Hid (x = longG (nameL.drop k) best s.data.toList) ∧ Below w.heap.size w wr ∧ c2 < wr.heap.size ∧ Hid (NamesAt wr (c2)) ∧ Hid (Two wr w.heap.size (.string ⟨#[]⟩) (.int .i64 0)) ∧ Hid (Two wr (c1) (.string (strB best)) (.int .i64 (sign0 best)))) (fun i _ => 14 - (intOf i).toNat)
  case atStart => exact ⟨0, [], Nat.zero_le _, rfl, Nat.zero_le _, Hx.out.symm, b1, hz2, HN, H0, H1⟩
  case round =>
    obtain ⟨k, best, hk, rfl, hbl, Hsp, hbel, hwz, HN, H0, H1⟩ := hrel
    have hbs := strB_size best
    obtain ⟨sb, Hsb⟩ : ∃ sb, Hid (strB best = sb) := ⟨_, rfl⟩
    rw [Hsb.out] at hbs
    obtain ⟨zb, Hzb⟩ : ∃ zb, Hid (sign0 best = zb) := ⟨_, rfl⟩
    have T1 := H1.out
    rw [Hsb.out, Hzb.out] at T1
    have H1' : Hid (Two wr (c1) (.string sb) (.int .i64 zb)) := T1
    obtain ⟨z1, q0, q1, f0, f1⟩ := T1
    have z0 : w.heap.size < wr.heap.size := H0.out.1
    by_cases hlk : k < 14
    · have hd := longG_drop nameL best s.data.toList k hlk
      obtain ⟨n0, n1⟩ := HN.out k hlk
      have hsg := sign0_at k hlk
      have hy := name_short k
      rw [hsg] at n1
      clear hsg
      generalize nameL.getD k [] = y at *
      have hys := strB_size y
      have Hhp := Tryd.strings_HasPrefix s (strB y)
      rw [show (strB y).data.toList = y by simp [strB]] at Hhp
      obtain ⟨sy, Hsy⟩ : ∃ sy, Hid (strB y = sy) := ⟨_, rfl⟩
      obtain ⟨zy, Hzy⟩ : ∃ zy, Hid (sign0 y = zy) := ⟨_, rfl⟩
      rw [Hsy.out] at n0 hys Hhp
      rw [Hzy.out] at n1
      have k0 : (0 : Int) ≤ (k : Int) := by omega
      have k1 : (k : Int) < 14 := by omega
      by_cases h1 : best.length < y.length
      · have g1 : sb.size < sy.size := by omega
        by_cases h3 : y <+: s.data.toList
        · have Hn : Hid (x = longG (nameL.drop (k + 1)) y s.data.toList) := by
            show _ = _
            rw [Hsp.out, hd, if_pos ⟨h1, h3⟩]
          have Hys : Hid (y.length ≤ 6) := hy
          rw [hasPrefix_yes h3] at Hhp
          clear hd h3 Hsp h1 hy hbl hys hbs
          go_wp2_with fail
          refine (Hhp _).mono ?_
          rintro e w2 ⟨rfl, rfl⟩
          go_wp2
          go_roundw
          case rel => exact ⟨k + 1, y, by omega, by go_num, Hys.out, Hn, ((hbel.setCell (p := ⟨c1, 0, none⟩) (Nat.le_of_lt E1.out) _).setCell (p := ⟨c1, 1, none⟩) (Nat.le_of_lt E1.out) _).alloc (by simp; omega) _, by simp; omega, ((HN.out.set (Nat.ne_of_lt E2.out) _).set (Nat.ne_of_lt E2.out) _).alloc (by simpa using hwz) _, ((H0.out.other (Nat.ne_of_gt E1.out) _).other (Nat.ne_of_gt E1.out) _).alloc _, by show Two _ _ _ _; rw [Hsy.out, Hzy.out]; exact (H1'.out.set _ _).alloc _⟩
          case measure => simp [intOf]; omega
        · have Hn : Hid (x = longG (nameL.drop (k + 1)) best s.data.toList) := by
            show _ = _
            rw [Hsp.out, hd, if_neg (fun h => h3 h.2)]
          have Hbl : Hid (best.length ≤ 6) := hbl
          rw [hasPrefix_no h3] at Hhp
          clear hd h3 Hsp h1 hy hbl hys hbs
          go_wp2_with fail
          refine (Hhp _).mono ?_
          rintro e w2 ⟨rfl, rfl⟩
          go_wp2
          go_roundw
          case rel => exact ⟨k + 1, best, by omega, by go_num, Hbl.out, Hn, hbel.alloc hbel.size _, by simp; omega, HN.out.alloc hwz _, H0.out.alloc _, H1.out.alloc _⟩
          case measure => simp [intOf]; omega
      · have Hn : Hid (x = longG (nameL.drop (k + 1)) best s.data.toList) := by
          show _ = _
          rw [Hsp.out, hd, if_neg (fun h => h1 h.1)]
        have g1 : ¬ sb.size < sy.size := by omega
        have g1' : decide (sb.size < sy.size) = false := decide_eq_false g1
        have Hbl : Hid (best.length ≤ 6) := hbl
        clear hd Hsp h1 hy hbl hys hbs Hhp
        go_wp2_with fail
        go_roundw
        case rel => exact ⟨k + 1, best, by omega, by go_num, Hbl.out, Hn, hbel.alloc hbel.size _, by simp; omega, HN.out.alloc hwz _, H0.out.alloc _, H1.out.alloc _⟩
        case measure => simp [intOf]; omega
    · have Hn : Hid (x = best) := by
        show _ = _
        rw [Hsp.out, List.drop_eq_nil_of_le (show nameL.length ≤ k by show 14 ≤ k; omega)]
        rfl
      have hdk : decide ((k : Int) < 14) = false := decide_eq_false (by omega)
      obtain ⟨r0, r1, r2, r3, r4⟩ := H0.out
      clear Hsp hbl hbs
      have T := Two.set H0.out (.string sb) (.int .i64 zb)
      go_wp2
      refine bodyPost_ret (v := .agg #[.string sb, .int .i64 zb]) ?_ rfl ⟨?_, ?_⟩
      · simp [results, Tryd.results81, go_sem, T.2.1, T.2.2.1]
      · rw [← Hs.out, ← Hz.out, Hn.out, Hsb.out, Hzb.out]
      · exact (hbel.setCell (Nat.le_refl _) _).setCell (Nat.le_refl _) _

end Go.Proofs.YtlaidaghmhmgbaaDoor.Sg
