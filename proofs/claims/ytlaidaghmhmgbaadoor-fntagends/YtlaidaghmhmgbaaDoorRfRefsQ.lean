/- Contract of the model's Refs. -/
import Derived.Test.YtlaidaghmhmgbaaDoorRfRefQ
import Derived.Test.YtlaidaghmhmgbaaDoorSgText
import Derived.Test.YtlaidaghmhmgbaaDoorKdOwn
namespace Go.Proofs.YtlaidaghmhmgbaaDoor.Sg
open Go.ChangeShapes Go.WideShapes Go.ChangeAt Go.RowKit

theorem refsL_cons (value : Bool) (b : UInt8) (l : List UInt8) : refsL value (b :: l) = if b = 38 then (match refR value l with | none => b :: refsL value l | some (z, m) => (putS z).data.toList ++ refsL value (l.drop m)) else b :: refsL value l := by
  rw [refsL]
  cases refR value l <;> rfl

theorem refsL_some {s : ByteArray} {k : Nat} {value : Bool} {z : Int} {m : Nat} (h : k < s.size) (hr : refO s (k : Int) value = some (z, m)) :
    refsL value (tailL s k) = (putS z).data.toList ++ refsL value (tailL s (k + (m + 1))) ∧ 1 ≤ m ∧ k + (m + 1) ≤ s.size := by
  by_cases hb : (s[k]'h).toNat = 38
  · rw [refO_at h hb] at hr
    have hb' : s[k]'h = 38 := UInt8.toNat_inj.1 hb
    have hl := refR_le hr
    rw [tailL_length] at hl
    refine ⟨?_, hl.1, by omega⟩
    rw [tailL_step s k h, refsL_cons, if_pos hb', hr]
    show _ ++ refsL value ((tailL s (k + 1)).drop m) = _
    rw [tailL_drop, show k + 1 + m = k + (m + 1) by omega]
  · rw [refO_other h hb] at hr
    cases hr

theorem refsL_none {s : ByteArray} {k : Nat} {value : Bool} (h : k < s.size) (hr : refO s (k : Int) value = none) :
    refsL value (tailL s k) = (s[k]'h) :: refsL value (tailL s (k + 1)) := by
  rw [tailL_step s k h, refsL_cons]
  by_cases hb : (s[k]'h).toNat = 38
  · rw [refO_at h hb] at hr
    have hb' : s[k]'h = 38 := UInt8.toNat_inj.1 hb
    rw [if_pos hb', hr]
  · rw [if_neg]
    intro e
    apply hb
    rw [e]
    rfl

theorem refsL_end {s : ByteArray} {k : Nat} {value : Bool} (h : ¬ k < s.size) : refsL value (tailL s k) = [] := by
  rw [tailL_end s k h, refsL]

theorem tailL_zero (s : ByteArray) : tailL s 0 = s.data.toList := rfl

set_option maxHeartbeats 2000000 in
theorem specRefs (s : ByteArray) (value : Bool) (w : World) (hs : s.size ≤ 1099511627776) :
    Calls Tryd.prog 23 #[.string s, .bool value] w fun e w' => e = .returned (.string (strB (refsL value s.data.toList))) ∧ Below w.heap.size w w' := by
  obtain ⟨i0, hi0, hz0, hz1, hz2⟩ := info_parts info_byte
  have Hi : Hid (Tryd.prog.info? 5 = some i0) := hi0
  have Hz0 : Hid (i0.zero = some (.int .u8 0)) := hz0
  have Hz1 : Hid (i0.size = 1) := hz1
  have Hz2 : Hid (i0.bytes = 1) := hz2
  clear hi0 hz0 hz1 hz2
  go_enter Tryd.func23, Tryd.ntmps23
  go_wp2
  go_loopw [5, 6] (fun v i wr => ∃ (k : Nat) (acc : List UInt8), k ≤ s.size ∧ acc.length ≤ 4 * k ∧ i = .int .i64 k ∧ wr.ownsRow w.heap.size 5 1 v acc.length (Lib.byteCells acc) ∧ Below w.heap.size w wr ∧ Hid (acc ++ refsL value (tailL s k) = refsL value s.data.toList)) (fun _ i _ => s.size - (intOf i).toNat)
  case atStart =>
    refine ⟨0, [], Nat.zero_le _, Nat.zero_le _, rfl, ⟨rfl, .inr ⟨w.heap.size, 0, #[], rfl, Nat.le_refl _, ?_, Nat.le_refl _, Nat.zero_le _, rfl, rfl⟩⟩, (Below.refl _ _).alloc (Nat.le_refl _) _, rfl⟩
    show (w.heap.push _)[w.heap.size]? = _
    simp
  case round =>
    obtain ⟨k, acc, hk, hal, rfl, hown, hbel, Hacc⟩ := hrel
    by_cases hlt : k < s.size
    · cases hr : refO s (k : Int) value with
      | none =>
        have hst := refsL_none hlt hr
        have Hst : Hid ((acc ++ [s[k]'hlt]) ++ refsL value (tailL s (k + 1)) = refsL value s.data.toList) := by
          show _ = _
          rw [← Hacc.out, hst]
          simp
        have Hc : Hid (∀ w : World, Calls Tryd.prog 21 #[.string s, .int .i64 (k : Int), .bool value] w fun e w' => e = .returned (refV none) ∧ Below w.heap.size w w') := by
          intro w
          have h := specRef s k value w (by omega)
          rw [hr] at h
          exact h
        clear hst Hacc hr
        go_wp2_with fail
        refine (Hc.out _).mono ?_
        rintro e w1 ⟨rfl, hb1⟩
        simp only [refV]
        have hown1 := owns_below hown (Nat.le_refl _) hb1
        have hbel1 : Below w.heap.size w w1 := hbel.trans (hb1.mono hbel.size)
        clear hb1 hown hbel
        go_wp2_with (at_builtin; refine wpList_append_own _ rfl (.tmp 30) (.tmp 34) 22 rfl w.heap.size 5 i0 (.int .u8 0) 1 1 Tryd.underlying22 Hi.out Hz0.out Hz1.out Hz2.out rfl (by decide) _ acc.length (Lib.byteCells acc) rfl (hown1.alloc _) ⟨_, 0, none⟩ 1 1 [.int .u8 ((s[k]'hlt).toNat : Int)] rfl rfl (one_byte_at _ _ _) (one_byte_one _) ?c3 ?c4 ?c5 ?_)
        case c3 => unfold maxLen; omega
        case c4 => omega
        case c5 => have := hbel1.size; first | omega | (simp; omega)
        intro v' w2 hown' hgrow _
        have hbel2 : Below w.heap.size w w2 := own_grown (hown1.alloc _) (hbel1.alloc hbel1.size _) (Nat.le_refl _) hgrow (by have := hbel1.size; simp; omega)
        have hown2 : w2.ownsRow w.heap.size 5 1 v' (acc ++ [s[k]'hlt]).length (Lib.byteCells (acc ++ [s[k]'hlt])) := by
          rw [List.length_append, byteCells_more]
          exact hown'
        clear hown' hgrow hown1 hbel1
        go_wp2
        go_roundw
        case rel => exact ⟨k + 1, acc ++ [s[k]'hlt], by omega, by simp; omega, by go_num, hown2, hbel2, Hst⟩
        case measure => simp [intOf]; omega
      | some q =>
        obtain ⟨z, m⟩ := q
        obtain ⟨hst, hm1, hm2⟩ := refsL_some hlt hr
        have Hst : Hid ((acc ++ (putS z).data.toList) ++ refsL value (tailL s (k + (m + 1))) = refsL value s.data.toList) := by
          show _ = _
          rw [← Hacc.out, hst, List.append_assoc]
        have Hc : Hid (∀ w : World, Calls Tryd.prog 21 #[.string s, .int .i64 (k : Int), .bool value] w fun e w' => e = .returned (refV (some (z, m))) ∧ Below w.heap.size w w') := by
          intro w
          have h := specRef s k value w (by omega)
          rw [hr] at h
          exact h
        have hps := putS_size z
        have hpl : (putS z).data.toList.length = (putS z).size := Array.length_toList
        clear hst Hacc hr
        go_wp2_with fail
        refine (Hc.out _).mono ?_
        rintro e w1 ⟨rfl, hb1⟩
        simp only [refV]
        generalize hs : putS z = t at *
        clear hs Hc
        obtain ⟨cap, W, hrun, hbW, hszW, hcW⟩ := conv_bytes w1 t
        have hownW : W.ownsRow w.heap.size 5 1 _ acc.length (Lib.byteCells acc) := owns_below (owns_below hown (Nat.le_refl _) hb1) (Nat.le_refl _) hbW
        have hbelW : Below w.heap.size w W := (hbel.trans (hb1.mono hbel.size)).trans (hbW.mono (Nat.le_trans hbel.size hb1.size))
        have HcW : Hid (∀ j u, (Lib.byteCells t.data.toList)[j]? = some u → W.cell? ((⟨w1.heap.size, 0, none⟩ : Addr).add j) = some u) := hcW
        clear hcW hbW hb1 hown hbel
        go_wp2_with (at_builtin; refine wpList_append_own _ rfl (.tmp 23) (.tmp 25) 22 rfl w.heap.size 5 i0 (.int .u8 0) 1 1 Tryd.underlying22 Hi.out Hz0.out Hz1.out Hz2.out rfl (by decide) _ acc.length (Lib.byteCells acc) rfl hownW ⟨w1.heap.size, 0, none⟩ t.size cap (Lib.byteCells t.data.toList) rfl ?c1 HcW.out byteCells_one ?c3 ?c4 hbelW.size ?_)
        case c1 => rw [Lib.byteCells_length, Nat.mul_one]; exact Array.length_toList
        case c3 => unfold maxLen; omega
        case c4 => omega
        intro v' w2 hown' hgrow _
        have hbel2 : Below w.heap.size w w2 := own_grown hownW hbelW (Nat.le_refl _) hgrow hbelW.size
        have hown2 : w2.ownsRow w.heap.size 5 1 v' (acc ++ t.data.toList).length (Lib.byteCells (acc ++ t.data.toList)) := by
          have e1 : (acc ++ t.data.toList).length = acc.length + t.size := by rw [List.length_append]; exact congrArg _ Array.length_toList
          have e2 : Lib.byteCells (acc ++ t.data.toList) = Lib.byteCells acc ++ Lib.byteCells t.data.toList := by simp [Lib.byteCells]
          rw [e1, e2]
          exact hown'
        clear hown' hgrow hownW hbelW hrun
        go_wp2
        go_roundw
        case rel => exact ⟨k + (m + 1), acc ++ t.data.toList, hm2, by rw [List.length_append, hpl]; omega, by go_num, hown2, hbel2, Hst⟩
        case measure => simp [intOf]; omega
    · have he : acc = refsL value s.data.toList := by
        have h := Hacc.out
        rw [refsL_end hlt, List.append_nil] at h
        exact h
      have hbk := own_back hown
      have Hbk : Hid (strB acc = strB (refsL value s.data.toList)) := congrArg strB he
      have hdl : decide ((k : Int) < (s.size : Int)) = false := decide_eq_false (by omega)
      clear he hown Hacc
      go_wp2
      go_ret
      exact ⟨ret_txt Hbk.out, hbel⟩

end Go.Proofs.YtlaidaghmhmgbaaDoor.Sg
