/- Contracts of the program's nameRef and Ref. -/
import Derived.Test.YtlaidaghmhmgbaaDoorRfImplBQ
import Derived.Test.YtlaidaghmhmgbaaDoorRfRefQ
import Derived.Test.YtlaidaghmhmgbaaDoorRfImplNQ
import Derived.BigQuiet
import Derived.Deep.QuietTactic
namespace Go.Proofs.YtlaidaghmhmgbaaDoor.Sg
open Go.ChangeShapes Go.WideShapes Go.ChangeAt Go.RowKit

/-- The program's table lies there. -/
def Mid (w : World) : Prop := Lib.TabIs Tryd.prog w "loop.example/g00325/impl.middleSigns" .i64 midTab
theorem Mid.below {w w' : World} (h : Mid w) {B : Nat} (hB : w.heap.size ≤ B) (hb : Below B w w') : Mid w' := by
  have hg : 0 < w.heap.size := by
    have hc := Lib.TabIs.cell (g := 0) h (by kernel_rfl) 0 (by decide)
    unfold World.cell? at hc
    simp only at hc
    cases hh : w.heap[(0 : Nat)]? with
    | none => rw [hh] at hc; cases hc
    | some o => exact (Array.getElem?_eq_some_iff.1 hh).1
  unfold Mid Lib.TabIs World.var? at *
  rw [show Tryd.prog.globalNamed "loop.example/g00325/impl.middleSigns" = some 0 by kernel_rfl] at h ⊢
  simp only [Option.bind_some] at h ⊢
  rw [hb.block _ (by omega)]
  exact h

theorem Two.drew {w : World} {b : Nat} {x y : Value} (h : Two w b x y) (k : Nat) : Two (w.drewN k) b x y := h

set_option maxHeartbeats 2000000 in
theorem implNameRef (s : ByteArray) (value : Bool) (w : World) (hs : s.size ≤ 17592186044416) :
    Calls Tryd.prog 59 #[.string s, .bool value] w fun e w' => e = .returned (pairV (nameR value s.data.toList)) ∧ Below w.heap.size w w' := by
  have Hlp : Hid ((longL s.data.toList).length ≤ s.size) := by
    have hlen : s.data.toList.length = s.size := Array.length_toList
    exact Nat.le_trans (longL_prefix s.data.toList).length_le (Nat.le_of_eq hlen)
  have Hnone : Hid (longL s.data.toList = [] → nameR value s.data.toList = none) := nameR_none
  have Hbars : Hid (longL s.data.toList ≠ [] → value = true → barsB (tailL s (longL s.data.toList).length) = true → nameR value s.data.toList = none) := nameR_bars
  have Hsome : Hid (longL s.data.toList ≠ [] → value = false ∨ barsB (tailL s (longL s.data.toList).length) = false → nameR value s.data.toList = some (signG nameT (longL s.data.toList), endG s.data.toList (longL s.data.toList).length)) := nameR_some
  obtain ⟨x, Hx⟩ : ∃ x, Hid (longL s.data.toList = x) := ⟨_, rfl⟩
  rw [Hx.out] at Hlp Hnone Hbars Hsome
  obtain ⟨zx, Hz⟩ : ∃ z, Hid (sign0 x = z) := ⟨_, rfl⟩
  obtain ⟨sx, Hs⟩ : ∃ sx, Hid (strB x = sx) := ⟨_, rfl⟩
  have hsz : x.length = sx.size := by rw [← Hs.out, strB_size]
  have HL : Hid (∀ w, Calls Tryd.prog 81 #[.string s] w fun e w' => e = .returned (.agg #[.string sx, .int .i64 zx]) ∧ Below w.heap.size w w') := fun w => implLongest s w x sx zx Hx Hs Hz
  have Hsg : Hid (x ≠ [] → signG nameT x = zx) := fun h => by rw [← Hz.out]; exact (if_neg h).symm
  have Hx0 : Hid (x = [] → sx.size = 0) := fun h => by rw [← hsz, h]; rfl
  have Hx1 : Hid (x ≠ [] → sx.size ≠ 0) := fun h e => h (List.eq_nil_of_length_eq_zero (hsz.trans e))
  rw [hsz] at Hlp Hbars Hsome
  have hxs : sx.size ≤ s.size := Hlp.out
  have HB : Hid (∀ w, Calls Tryd.prog 82 #[.string (s.extract sx.size s.size)] w fun e w' => e = .returned (.bool (barsB (tailL s sx.size))) ∧ Below w.heap.size w w') := fun w => by
    have h := implBars (s.extract sx.size s.size) w
    rw [extract_tail] at h
    exact h
  have Hw : Hid (∀ w : World, Calls Tryd.prog 80 #[.string s, .int .i64 (sx.size : Int)] w fun e w' => e = .returned (.int .i64 (endG s.data.toList sx.size : Int)) ∧ w' = w) := fun w => implWithEnd s sx.size w hs
  clear Hlp Hx Hz Hs hsz
  go_enter Tryd.func59, Tryd.ntmps59
  go_wp2_with fail
  refine (HL.out _).mono ?_
  rintro e w1 ⟨rfl, b1⟩
  have b1a : Below w.heap.size w (w1.alloc (.cells #[.string sx, .int .i64 zx] 93)) := b1.alloc b1.size _
  by_cases hx : x = []
  · have Hn : Hid (nameR value s.data.toList = none) := Hnone.out hx
    have g5 : ((sx.size : Int) == 0) = true := by simp [Hx0.out hx]
    clear Hnone Hbars Hsome Hx0 Hx1 hx HB HL Hsg
    go_wp2_with fail
    go_ret2
    exact ⟨congrArg (fun x => Ending.returned (pairV x)) Hn.out.symm, b1a⟩
  · have g5 : ((sx.size : Int) == 0) = false := beq_eq_false_iff_ne.2 (by have := Hx1.out hx; omega)
    have g5' : sx.size ≠ 0 := Hx1.out hx
    have hsg := Hsg.out hx
    rw [hsg] at Hsome
    cases value
    · have Hn : Hid (nameR false s.data.toList = some (zx, endG s.data.toList sx.size)) := Hsome.out hx (.inl rfl)
      clear Hnone Hbars Hsome Hx0 Hx1 hx HB HL Hsg hsg
      go_upto_region 5 with fail
      go_quiet ((go_at_call 80; exact Calls.quiet_of_same (Hw.out _)))
      go_wp2_with fail
      go_ret2
      exact ⟨congrArg (fun x => Ending.returned (pairV x)) Hn.out.symm, drew_kd b1a _⟩
    · have g6 : (sx.size : Int) ≤ (s.size : Int) := by omega
      have g7 : (0 : Int) ≤ (sx.size : Int) := by omega
      cases hb : barsB (tailL s sx.size)
      · have Hn : Hid (nameR true s.data.toList = some (zx, endG s.data.toList sx.size)) := Hsome.out hx (.inr hb)
        rw [hb] at HB
        clear Hnone Hbars Hsome Hx0 Hx1 hx HL hb Hsg hsg
        go_wp2_with fail
        refine (HB.out _).mono ?_
        rintro e w2 ⟨rfl, b2⟩
        have T2 := (Two.new w1 (.string sx) (.int .i64 zx) 93).below (by simp) b2
        obtain ⟨q0, q1, q2, q3, q4⟩ := T2
        have b12 := b1a.trans (b2.mono b1a.size)
        clear b1 b2 b1a q3 q4 HB
        go_upto_region 5 with fail
        go_quiet ((go_at_call 80; exact Calls.quiet_of_same (Hw.out _)))
        go_wp2_with fail
        go_ret2
        exact ⟨congrArg (fun x => Ending.returned (pairV x)) Hn.out.symm, drew_kd b12 _⟩
      · have Hn : Hid (nameR true s.data.toList = none) := Hbars.out hx rfl hb
        rw [hb] at HB
        clear Hnone Hbars Hsome Hx0 Hx1 hx HL hb Hw Hsg hsg
        go_wp2_with fail
        refine (HB.out _).mono ?_
        rintro e w2 ⟨rfl, b2⟩
        have b12 := b1a.trans (b2.mono b1a.size)
        clear b1 b2 b1a
        go_wp2_with fail
        go_ret2
        exact ⟨congrArg (fun x => Ending.returned (pairV x)) Hn.out.symm, b12⟩

set_option maxHeartbeats 2000000 in
theorem implRef (s : ByteArray) (p : Int) (value : Bool) (w : World) (hs : s.size ≤ 17592186044416) (hT : Mid w) :
    Calls Tryd.prog 22 #[.string s, .int .i64 p, .bool value] w fun e w' => e = .returned (refV (refO s p value)) ∧ Below w.heap.size w w' := by
  by_cases h0 : p < 0
  · have Hn : Hid (refO s p value = none) := refO_low h0
    go_enter Tryd.func22, Tryd.ntmps22
    go_wp2
    go_ret2
    exact ⟨congrArg (fun x => Ending.returned (refV x)) Hn.out.symm, Below.refl _ _⟩
  obtain ⟨i, rfl⟩ : ∃ i : Nat, p = (i : Int) := ⟨p.toNat, by omega⟩
  clear h0
  by_cases h1 : i < s.size
  case neg =>
    have Hn : Hid (refO s (i : Int) value = none) := refO_past h1
    have g1 : (s.size : Int) ≤ (i : Int) := by omega
    go_enter Tryd.func22, Tryd.ntmps22
    go_wp2
    go_ret2
    exact ⟨congrArg (fun x => Ending.returned (refV x)) Hn.out.symm, Below.refl _ _⟩
  have g1 : ¬ (s.size : Int) ≤ (i : Int) := by omega
  by_cases h38 : (s[i]'h1).toNat = 38
  case neg =>
    have Hn : Hid (refO s (i : Int) value = none) := refO_other h1 h38
    have g2 : (((s[i]'h1).toNat : Int) != 38) = true := by simp; omega
    clear h38
    go_enter Tryd.func22, Tryd.ntmps22
    go_wp2
    go_ret2
    exact ⟨congrArg (fun x => Ending.returned (refV x)) Hn.out.symm, Below.refl _ _⟩
  have g2 : (((s[i]'h1).toNat : Int) != 38) = false := by simp [h38]
  have Ho : Hid (refO s (i : Int) value = (numR (tailL s (i + 1))).or (nameR value (tailL s (i + 1)))) := (refO_at h1 h38).trans (refR_or _ _)
  have g3 : (i : Int) + 1 ≤ (s.size : Int) := by omega
  have hxs : (s.extract (i + 1) s.size).size ≤ 17592186044416 := by rw [extract_size]; omega
  have Hnum : Hid (Calls Tryd.prog 58 #[.string (s.extract (i + 1) s.size)] w fun e w' => e = .returned (pairV (numR (tailL s (i + 1)))) ∧ w' = w) := by
    have h := implNumberRef (s.extract (i + 1) s.size) w hxs hT
    rw [extract_tail] at h
    exact h
  have Hnam : Hid (Calls Tryd.prog 59 #[.string (s.extract (i + 1) s.size), .bool value] w fun e w' => e = .returned (pairV (nameR value (tailL s (i + 1)))) ∧ Below w.heap.size w w') := by
    have h := implNameRef (s.extract (i + 1) s.size) value w hxs
    rw [extract_tail] at h
    exact h
  have Hnl : Hid (∀ z m, numR (tailL s (i + 1)) = some (z, m) → 1 ≤ m ∧ m ≤ s.size) := fun z m h => by
    have := numR_le h
    rw [tailL_length] at this
    omega
  have Hml : Hid (∀ z m, nameR value (tailL s (i + 1)) = some (z, m) → 1 ≤ m ∧ m ≤ s.size) := fun z m h => by
    have := nameR_le h
    rw [tailL_length] at this
    omega
  clear h38 hxs hT
  generalize numR (tailL s (i + 1)) = nr at *
  generalize nameR value (tailL s (i + 1)) = mr at *
  go_enter Tryd.func22, Tryd.ntmps22
  go_wp2_with fail
  refine Hnum.out.mono ?_
  rintro e w1 ⟨rfl, rfl⟩
  cases nr with
  | some q =>
    obtain ⟨z, m⟩ := q
    have Hn : Hid (refO s (i : Int) value = some (z, m)) := Ho.out
    have hm := Hnl.out z m rfl
    have g4 : ((m : Int) == 0) = false := by simp; omega
    clear Ho Hnam Hnum Hnl Hml
    simp only [pairV]
    go_wp2_with fail
    refine (implPutSign _ _).mono ?_
    rintro e w2 ⟨rfl, rfl⟩
    go_wp2
    go_ret2
    exact ⟨(ret_ref rfl (by omega)).trans (congrArg (fun x => Ending.returned (refV x)) Hn.out.symm), Below.refl _ _⟩
  | none =>
    have Ho' : Hid (refO s (i : Int) value = mr) := Ho.out.trans Option.none_or
    clear Ho Hnum Hnl
    simp only [pairV]
    go_wp2_with fail
    refine Hnam.out.mono ?_
    rintro e w2 ⟨rfl, b2⟩
    cases mr with
    | none =>
      clear Hnam Hml
      simp only [pairV]
      go_wp2
      go_ret2
      exact ⟨congrArg (fun x => Ending.returned (refV x)) Ho'.out.symm, b2⟩
    | some q =>
      obtain ⟨z, m⟩ := q
      have hm := Hml.out z m rfl
      have g4 : ((m : Int) == 0) = false := by simp; omega
      clear Hnam Hml
      simp only [pairV]
      go_wp2_with fail
      refine (implPutSign _ _).mono ?_
      rintro e w3 ⟨rfl, rfl⟩
      go_wp2
      go_ret2
      exact ⟨(ret_ref rfl (by omega)).trans (congrArg (fun x => Ending.returned (refV x)) Ho'.out.symm), b2⟩

end Go.Proofs.YtlaidaghmhmgbaaDoor.Sg
