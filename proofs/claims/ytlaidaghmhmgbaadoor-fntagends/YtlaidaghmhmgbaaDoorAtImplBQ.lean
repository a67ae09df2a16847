/- Contract of the program's Attrs. -/
import Derived.Test.YtlaidaghmhmgbaaDoorAtPQ
import Derived.Test.YtlaidaghmhmgbaaDoorRfImplDQ
import Derived.Test.YtlaidaghmhmgbaaDoorM03
namespace Go.Proofs.YtlaidaghmhmgbaaDoor.Sg
open Go.ChangeShapes Go.WideShapes Go.ChangeAt Go.RowKit

/-- A block has four cells. -/
def Four (w : World) (b : Nat) (x y z u : Value) : Prop :=
  b < w.heap.size ∧ w.cell? ⟨b, 0, none⟩ = some x ∧ w.cell? ⟨b, 1, none⟩ = some y ∧ w.cell? ⟨b, 2, none⟩ = some z ∧ w.cell? ⟨b, 3, none⟩ = some u
theorem Four.new (w : World) (x y z u : Value) (t : TypeId) : Four (w.alloc (.cells #[x, y, z, u] t)) w.heap.size x y z u :=
  ⟨by simp, by simp, by simp, by simp, by simp⟩
theorem Four.below {w w' : World} {b : Nat} {x y z u : Value} (h : Four w b x y z u) (hb : Below w.heap.size w w') : Four w' b x y z u :=
  ⟨Nat.lt_of_lt_of_le h.1 hb.size, (hb.cell h.1).trans h.2.1, (hb.cell h.1).trans h.2.2.1, (hb.cell h.1).trans h.2.2.2.1, (hb.cell h.1).trans h.2.2.2.2⟩
theorem Four.below' {w w' : World} {b B : Nat} {x y z u : Value} (h : Four w b x y z u) (hB : b < B) (hb : Below B w w') : Four w' b x y z u :=
  ⟨Nat.lt_of_lt_of_le h.1 hb.size, (hb.cell hB).trans h.2.1, (hb.cell hB).trans h.2.2.1, (hb.cell hB).trans h.2.2.2.1, (hb.cell hB).trans h.2.2.2.2⟩

set_option maxRecDepth 20000 in
set_option maxHeartbeats 4000000 in
theorem implAttrs (s : ByteArray) (w : World) (hs : s.size ≤ 1099511627776) (hT : Mid w) :
    Calls Tryd.prog 11 #[.string s] w fun e w' => AttrsBack w w.heap.size (attrsE s 0 [] false) e w' := by
  obtain ⟨i0, hi0, hz0, hz1, hz2⟩ := info_parts info_attr
  have Hi : Hid (Tryd.prog.info? 37 = some i0) := hi0
  have Hz0 : Hid (i0.zero = some (.agg #[.string ⟨#[]⟩, .string ⟨#[]⟩])) := hz0
  have Hz1 : Hid (i0.size = 2) := hz1
  have Hz2 : Hid (i0.bytes = 32) := hz2
  clear hi0 hz0 hz1 hz2
  have HT : Hid (Mid w) := hT
  have Hst := AttrsAtR.start s
  have P0 : Hid (∀ w, Calls Tryd.prog 33 #[.string s, .int .i64 0, .string ⟨#[9, 10, 12, 13, 32, 47]⟩] w fun e w' => e = .returned (.int .i64 (runE skipU s 0 : Int)) ∧ w' = w) := fun w => by
    have h := implPast s 0 ⟨#[9, 10, 12, 13, 32, 47]⟩ w (by omega)
    rw [one_skip] at h
    exact h
  generalize runE skipU s 0 = m0 at *
  have HS : Hid (AttrsAtR s m0 [] 0 (attrsE s 0 [] false)) := Hst
  clear hT Hst
  generalize attrsE s 0 [] false = R at *
  go_enter Tryd.func11, Tryd.ntmps11
  go_wp2_with fail
  refine (P0.out _).mono ?_
  rintro e w ⟨rfl, rfl⟩
  clear P0
  have H0 : Hid (∀ p ∈ ([] : List AttrB), p.1.toList ≠ []) := fun p hp => absurd hp List.not_mem_nil
  go_wp2
  go_loopw [4, 5, 6] (fun lv ev mv wr => ∃ (m ve : Nat) (l : List AttrB), ev = .int .i64 (ve : Int) ∧ mv = .int .i64 (m : Int) ∧ l.length ≤ m ∧ m ≤ s.size ∧ ve ≤ s.size ∧ wr.ownsRow w.heap.size 37 2 lv l.length (attrCells l) ∧ Hid (l = [] → lv = .slice none 0 0) ∧ Hid (∀ p ∈ l, p.1.toList ≠ []) ∧ Below w.heap.size w wr ∧ Hid (AttrsAtR s m l ve R)) (fun _ _ mv _ => s.size - (intOf mv).toNat)
  case atStart => exact ⟨m0, 0, [], rfl, rfl, Nat.zero_le _, HS.out.le, Nat.zero_le _, World.ownsRow_nil _ _ _ _, fun _ => rfl, H0, Below.refl _ _, HS⟩
  case round =>
    obtain ⟨m, ve, l, rfl, rfl, hlm, hms, hves, hown, Hnil, Hne, hbel, HR⟩ := hrel
    by_cases hlt : m < s.size
    · obtain ⟨hx, hlt2⟩ := HR.out.next hlt
      have hle2 := hx.le
      have hpl := plE_le (angle := false) hlt
      have hnm := attrPl_name hlt
      have Ha := fun w => implAttrAt false ⟨#[]⟩ endOk_none s m w hlt (by omega)
      have U1 : Hid (∀ w, Calls Tryd.prog 33 #[.string s, .int .i64 ((plE false s m).2.2.2 : Int), .string ⟨#[9, 10, 12, 13, 32, 47]⟩] w fun e w' => e = .returned (.int .i64 (runE skipU s (plE false s m).2.2.2 : Int)) ∧ w' = w) := fun w => by
        have h := implPast s (plE false s m).2.2.2 ⟨#[9, 10, 12, 13, 32, 47]⟩ w (by omega)
        rw [one_skip] at h
        exact h
      generalize runE skipU s (plE false s m).2.2.2 = m' at *
      have Hx : Hid (AttrsAtR s m' (l ++ [attrPl s m (plE false s m)]) (plE false s m).2.2.1 R) := hx
      clear hx
      generalize plE false s m = pl at *
      obtain ⟨p1, p2, p3, p4⟩ := pl
      simp only at hpl
      have I1 : Hid (∀ w, Calls Tryd.prog 35 #[.string (s.extract m p1)] w fun e w' => e = .returned (.string (smallS (s.extract m p1))) ∧ Below w.heap.size w w') := fun w => implSmall (s.extract m p1) w (by rw [ByteArray.size_extract]; omega)
      have I2 : Hid (∀ w, Mid w → Calls Tryd.prog 24 #[.string (s.extract p2 p3), .bool true] w fun e w' => e = .returned (.string (strB (refsL true (s.extract p2 p3).data.toList))) ∧ Below w.heap.size w w') := fun w h => implRefs (s.extract p2 p3) true w (by rw [ByteArray.size_extract]; omega) h
      have Hx2 : Hid (AttrsAtR s m' (l ++ [(smallS (s.extract m p1), strB (refsL true (s.extract p2 p3).data.toList))]) p3 R) := Hx.out
      have hnm2 : Hid ((smallS (s.extract m p1)).toList ≠ []) := hnm
      clear Hx hnm
      generalize strB (refsL true (s.extract p2 p3).data.toList) = vl at *
      generalize smallS (s.extract m p1) = nm at *
      have q1 : (m : Int) ≤ (p1 : Int) := by omega
      have q2 : (p1 : Int) ≤ (s.size : Int) := by omega
      have q3 : (p2 : Int) ≤ (p3 : Int) := by omega
      have q4 : (p3 : Int) ≤ (s.size : Int) := by omega
      have q5 : (0 : Int) ≤ (m : Int) := by omega
      have q6 : (0 : Int) ≤ (p2 : Int) := by omega
      have q7 : (0 : Int) ≤ (p1 : Int) := by omega
      have q8 : (0 : Int) ≤ (p3 : Int) := by omega
      have hT1 : Mid wr := HT.out.below (Nat.le_refl _) hbel
      go_wp2_with fail
      refine (Ha _).mono ?_
      rintro e w2 ⟨rfl, b2⟩
      simp only [plVal]
      have F2 := Four.new w2 (.int .i64 (p1 : Int)) (.int .i64 (p2 : Int)) (.int .i64 (p3 : Int)) (.int .i64 (p4 : Int)) 51
      have bA : Below wr.heap.size wr (w2.alloc (.cells #[.int .i64 (p1 : Int), .int .i64 (p2 : Int), .int .i64 (p3 : Int), .int .i64 (p4 : Int)] 51)) := b2.alloc b2.size _
      have Hzz : Hid (wr.heap.size ≤ w2.heap.size) := b2.size
      clear Ha b2
      go_upto_region 6 with fail
      go_quiet (fail)
      go_wp2_with fail
      have F3 : Four ((w2.alloc (.cells #[.int .i64 (p1 : Int), .int .i64 (p2 : Int), .int .i64 (p3 : Int), .int .i64 (p4 : Int)] 51)).drewN nq) w2.heap.size (.int .i64 (p1 : Int)) (.int .i64 (p2 : Int)) (.int .i64 (p3 : Int)) (.int .i64 (p4 : Int)) := F2
      have bB : Below wr.heap.size wr ((w2.alloc (.cells #[.int .i64 (p1 : Int), .int .i64 (p2 : Int), .int .i64 (p3 : Int), .int .i64 (p4 : Int)] 51)).drewN nq) := drew_kd bA _
      have hz2 : wr.heap.size ≤ w2.heap.size := Hzz.out
      clear F2 bA
      generalize ((w2.alloc (.cells #[.int .i64 (p1 : Int), .int .i64 (p2 : Int), .int .i64 (p3 : Int), .int .i64 (p4 : Int)] 51)).drewN nq) = w3 at *
      generalize w2.heap.size = c at *
      refine (I1.out _).mono ?_
      rintro e w4 ⟨rfl, b4⟩
      have bC := bB.trans (b4.mono bB.size)
      have F4 := F3.below b4
      have hT4 : Mid w4 := hT1.below (Nat.le_refl _) bC
      clear bB b4 F3 hT1
      go_wp2_with fail
      refine (I2.out _ hT4).mono ?_
      rintro e w5 ⟨rfl, b5⟩
      have bD := bC.trans (b5.mono bC.size)
      have F5 := F4.below b5
      have hown4 := owns_below hown (Nat.le_refl _) bD
      have hlb := hown.lt
      have hbel5 := hbel.trans (bD.mono hbel.size)
      clear bC b5 F4 hT4 hown bD
      go_wp2_with (at_builtin; refine wpList_append_own _ rfl (.tmp 30) (.tmp 36) 28 rfl w.heap.size 37 i0 (.agg #[.string ⟨#[]⟩, .string ⟨#[]⟩]) 2 32 Tryd.underlying28 Hi.out Hz0.out Hz1.out Hz2.out rfl (by decide) _ l.length (attrCells l) rfl (hown4.alloc _) ⟨_, 0, none⟩ 1 1 [.string nm, .string vl] rfl rfl (two_at _ _ _ _) (two_one _ _) ?c3 ?c4 ?c5 ?_)
      case c3 => unfold maxLen; omega
      case c4 => omega
      case c5 => have := hbel5.size; first | omega | (simp; omega)
      intro v' w6 hown' hgrow _
      have hbel6 : Below w.heap.size w w6 := own_grown2 (hown4.alloc _) (hbel5.alloc hbel5.size _) (Nat.le_refl _) hgrow (by have := hbel5.size; simp; omega)
      have hown6 : w6.ownsRow w.heap.size 37 2 v' (l ++ [(nm, vl)]).length (attrCells (l ++ [(nm, vl)])) := by
        rw [List.length_append, attrCells_more]
        exact hown'
      have hnb : ∀ i, some (⟨c, i, none⟩ : Addr).block ≠ Value.ownBlock u4 := fun i h => by
        have := hlb c h.symm
        omega
      have f2 : w6.cell? ⟨c, 2, none⟩ = some (.int .i64 (p3 : Int)) := hgrow.cell ((World.cell?_alloc_past _ c 2 F5.1).trans F5.2.2.2.1) (hnb 2)
      have f3 : w6.cell? ⟨c, 3, none⟩ = some (.int .i64 (p4 : Int)) := hgrow.cell ((World.cell?_alloc_past _ c 3 F5.1).trans F5.2.2.2.2) (hnb 3)
      have Hnil2 : Hid (l ++ [(nm, vl)] = [] → v' = .slice none 0 0) := fun h => absurd h (by simp)
      have Hne2 : Hid (∀ p ∈ l ++ [(nm, vl)], p.1.toList ≠ []) := fun p hp => by
        rcases List.mem_append.1 hp with h | h
        · exact Hne.out p h
        · rw [List.mem_singleton.1 h]
          exact hnm2.out
      clear hown' hgrow hown4 hnb hlb F5 hbel5 Hnil Hne
      go_wp2_with fail
      refine (U1.out _).mono ?_
      rintro e w7 ⟨rfl, rfl⟩
      go_wp2
      go_roundw
      case rel => exact ⟨m', p3, l ++ [(nm, vl)], rfl, rfl, by rw [List.length_append]; show l.length + 1 ≤ m'; omega, hle2, by omega, hown6, Hnil2, Hne2, hbel6, Hx2⟩
      case measure => simp [intOf]; omega
    · have Hn : Hid (R = (firstA l, sufU s && decide (ve < s.size))) := HR.out.past hlt
      have g0 : decide ((m : Int) < (s.size : Int)) = false := decide_eq_false (by omega)
      have Hf : Hid (∀ W : World, W = wr → Calls Tryd.prog 36 #[u4] W fun e w' => ∃ v', e = .returned v' ∧ w'.ownsRow W.heap.size 37 2 v' (firstA l).length (attrCells (firstA l)) ∧ Below W.heap.size W w') := fun W hW => by
        subst hW
        exact implFirstOnes w.heap.size l u4 W hown Hnil.out Hne.out (by omega)
      have Hsf : Hid (∀ W : World, Calls Tryd.prog 37 #[.string s, .string ⟨#[47]⟩] W fun e w' => e = .returned (.bool (sufU s)) ∧ w' = W) := fun W => Tryd.strings_HasSuffix s ⟨#[47]⟩ W (by omega)
      clear HR hown Hnil Hne
      cases hsf : sufU s
      · have Hn2 : Hid (R = (firstA l, false)) := by
          show _ = _
          rw [Hn.out, hsf]
          rfl
        rw [hsf] at Hsf
        clear Hn hsf
        go_wp2_with fail
        refine (Hf.out _ rfl).mono ?_
        rintro e w2 ⟨v', rfl, hown2, b2⟩
        have hbel2 := hbel.trans (b2.mono hbel.size)
        have hown3 := own_mono hown2 hbel.size
        clear hown2 b2 Hf
        go_wp2_with fail
        refine (Hsf.out _).mono ?_
        rintro e w3 ⟨rfl, rfl⟩
        go_wp2
        go_ret2
        exact attrs_ret Hn2.out hown3 hbel2
      · by_cases hve : ve < s.size
        · have Hn2 : Hid (R = (firstA l, true)) := by
            show _ = _
            rw [Hn.out, hsf, decide_eq_true hve]
            rfl
          have g1 : (ve : Int) < (s.size : Int) := by omega
          rw [hsf] at Hsf
          clear Hn hsf
          go_wp2_with fail
          refine (Hf.out _ rfl).mono ?_
          rintro e w2 ⟨v', rfl, hown2, b2⟩
          have hbel2 := hbel.trans (b2.mono hbel.size)
          have hown3 := own_mono hown2 hbel.size
          clear hown2 b2 Hf
          go_wp2_with fail
          refine (Hsf.out _).mono ?_
          rintro e w3 ⟨rfl, rfl⟩
          go_wp2
          go_ret2
          exact attrs_ret Hn2.out hown3 hbel2
        · have Hn2 : Hid (R = (firstA l, false)) := by
            show _ = _
            rw [Hn.out, hsf, decide_eq_false hve]
            rfl
          have g1 : ¬ (ve : Int) < (s.size : Int) := by omega
          have g1' : decide ((ve : Int) < (s.size : Int)) = false := decide_eq_false g1
          rw [hsf] at Hsf
          clear Hn hsf
          go_wp2_with fail
          refine (Hf.out _ rfl).mono ?_
          rintro e w2 ⟨v', rfl, hown2, b2⟩
          have hbel2 := hbel.trans (b2.mono hbel.size)
          have hown3 := own_mono hown2 hbel.size
          clear hown2 b2 Hf
          go_wp2_with fail
          refine (Hsf.out _).mono ?_
          rintro e w3 ⟨rfl, rfl⟩
          go_wp2
          go_ret2
          exact attrs_ret Hn2.out hown3 hbel2

end Go.Proofs.YtlaidaghmhmgbaaDoor.Sg
