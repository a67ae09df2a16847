/- Contracts of Lines, of the program and of the model. -/
import Derived.Test.YtphbljhbkjdlkaaDoorKdOwn
import Derived.Test.YtphbljhbkjdlkaaDoorKdLinesP
import Derived.Test.YtphbljhbkjdlkaaDoorShelf
import Derived.Shelf.Vars
namespace Go.Proofs.YtphbljhbkjdlkaaDoor.Sg
open Go.ChangeShapes Go.WideShapes Go.ChangeAt Go.RowKit

/-- The library's own variable holds some number. -/
def MaxLen (w : World) : Prop := ∃ m : Int, w.cell? ⟨0, 0, none⟩ = some (.int .i64 m)
theorem maxlen {w : World} (h : w.ShapedOpen Tryd.prog) : MaxLen w :=
  cell_of_shapedOpen_int (t := 3) (zero := #[.int .i64 0]) h (of_decide_eq_true (by kernel_rfl)) (by kernel_rfl) rfl (by kernel_rfl) (by kernel_rfl) Tryd.underlying3
theorem MaxLen.below {w w' : World} (h : MaxLen w) (hb : Below w.heap.size w w') : MaxLen w' := by
  obtain ⟨m, hm⟩ := h
  refine ⟨m, (hb.cell (p := ⟨0, 0, none⟩) ?_).trans hm⟩
  show 0 < w.heap.size
  cases hh : w.heap[0]? with
  | none => simp [World.cell?, hh] at hm
  | some o => exact (Array.getElem?_eq_some_iff.1 hh).1

set_option maxHeartbeats 1000000 in
theorem implLines (s : ByteArray) (w : World) (hs : s.size ≤ 2147483648) (hm : MaxLen w) :
    Calls Tryd.prog 25 #[.string s] w fun e w' => e = .returned (.string (linesS s)) ∧ Below w.heap.size w w' := by
  have c1 := Lib.countB_le ⟨#[13, 10]⟩ (by decide) s.size s (Nat.le_refl _)
  have hl := pairs_length s.data.toList
  have hl' : s.data.toList.length = s.size := Array.length_toList
  obtain ⟨m, hm1⟩ := id hm
  go_enter Tryd.func25, Tryd.ntmps25
  go_wp2_with fail
  refine (Tryd.strings_ReplaceAll s ⟨#[13, 10]⟩ ⟨#[10]⟩ m _ (by omega) hm1 (by decide) (by show s.size + _ * 1 ≤ _; omega)).mono ?_
  rintro e w1 ⟨rfl, b1⟩
  obtain ⟨m2, hm2⟩ := hm.below b1
  clear hm1
  generalize hT : Lib.replaceAll s.data.toList [13, 10] [10] = T at *
  have c2 := Lib.countB_le ⟨#[13]⟩ (by decide) (⟨T.toArray⟩ : ByteArray).size ⟨T.toArray⟩ (Nat.le_refl _)
  have hts : (⟨T.toArray⟩ : ByteArray).size = T.length := by simp [ByteArray.size]
  have Hs : Hid (linesL s.data.toList = Lib.replaceAll T [13] [10]) := by
    show _ = _
    rw [← hT]
    exact (lines_replaced _).symm
  clear hT
  go_wp2_with fail
  refine (Tryd.strings_ReplaceAll ⟨T.toArray⟩ ⟨#[13]⟩ ⟨#[10]⟩ m2 _ (by omega) hm2 (by decide) (by show _ + _ * 1 ≤ _; omega)).mono ?_
  rintro e w2 ⟨rfl, b2⟩
  have b12 : Below w.heap.size w w2 := b1.trans (b2.mono b1.size)
  clear b1 b2 c1 c2 hl hl' hts hm2
  go_wp2
  go_ret
  refine ⟨?_, b12⟩
  unfold linesS
  rw [Hs.out]
  rfl

/-- What is left of a text from place k on. -/
def restL (s : ByteArray) (k : Nat) : List UInt8 := s.data.toList.drop k
theorem restL_step (s : ByteArray) (k : Nat) (h : k < s.size) : restL s k = s[k] :: restL s (k + 1) := by
  have h' : k < s.data.toList.length := by rw [Array.length_toList]; exact h
  unfold restL
  rw [List.drop_eq_getElem_cons h', Array.getElem_toList]
  rfl
theorem restL_end (s : ByteArray) (k : Nat) (h : ¬ k < s.size) : restL s k = [] := by
  unfold restL
  exact List.drop_eq_nil_of_le (by rw [Array.length_toList]; exact Nat.le_of_not_lt h)

theorem u8_ne (b : UInt8) (n : Nat) (hn : n < 256) (h : b.toNat ≠ n) : b ≠ UInt8.ofNat n := by
  intro e
  apply h
  rw [e, UInt8.toNat_ofNat']
  exact Nat.mod_eq_of_lt hn

set_option maxHeartbeats 1000000 in
theorem specLines (s : ByteArray) (w : World) (hs : s.size ≤ 17592186044416) :
    Calls Tryd.prog 26 #[.string s] w fun e w' => e = .returned (.string (linesS s)) ∧ Below w.heap.size w w' := by
  obtain ⟨i0, hi0, hz0, hz1, hz2⟩ := info_parts info_byte
  have Hi : Hid (Tryd.prog.info? 5 = some i0) := hi0
  have Hz0 : Hid (i0.zero = some (.int .u8 0)) := hz0
  have Hz1 : Hid (i0.size = 1) := hz1
  have Hz2 : Hid (i0.bytes = 1) := hz2
  clear hi0 hz0 hz1 hz2
  go_enter Tryd.func26, Tryd.ntmps26
  go_wp2
  go_loopw [3, 4] (fun v i wr => ∃ (k : Nat) (acc : List UInt8), k ≤ s.size ∧ acc.length ≤ k ∧ i = .int .i64 k ∧ wr.ownsRow w.heap.size 5 1 v acc.length (Lib.byteCells acc) ∧ Below w.heap.size w wr ∧ Hid (acc ++ linesG false (restL s k) = linesL s.data.toList)) (fun _ i _ => s.size - (intOf i).toNat)
  case atStart =>
    refine ⟨0, [], Nat.zero_le _, Nat.le_refl _, rfl, ⟨rfl, .inr ⟨w.heap.size, 0, #[], rfl, Nat.le_refl _, ?_, Nat.le_refl _, Nat.zero_le _, rfl, rfl⟩⟩, (Below.refl _ _).alloc (Nat.le_refl _) _, rfl⟩
    show (w.heap.push _)[w.heap.size]? = _
    simp
  case round =>
    obtain ⟨k, acc, hk, hal, rfl, hown, hbel, Hacc⟩ := hrel
    by_cases hlt : k < s.size
    · have hst := restL_step s k hlt
      by_cases h13 : (s[k]'hlt).toNat = 13
      · have g1 : (((s[k]'hlt).toNat : Int) != 13) = false := by simp [h13]
        have hb13 : s[k]'hlt = 13 := UInt8.toNat_inj.1 h13
        have Hst : Hid ((acc ++ [10]) ++ linesG true (restL s (k + 1)) = linesL s.data.toList) := by
          show _ = _
          rw [← Hacc.out, hst, hb13]
          simp [linesG]
        clear hst hb13 Hacc h13
        go_wp2_with (at_builtin; refine wpList_append_own _ rfl (.tmp 22) (.tmp 23) 22 rfl w.heap.size 5 i0 (.int .u8 0) 1 1 Tryd.underlying22 Hi.out Hz0.out Hz1.out Hz2.out rfl (by decide) _ acc.length (Lib.byteCells acc) rfl (hown.alloc _) ⟨_, 0, none⟩ 1 1 [.int .u8 (10 : Int)] rfl rfl (one_byte_at _ _ _) (one_byte_one _) ?c3 ?c4 ?c5 ?_)
        case c3 => unfold maxLen; omega
        case c4 => omega
        case c5 => have := hbel.size; first | omega | (simp; omega)
        intro v' w2 hown' hgrow _
        have hbel2 : Below w.heap.size w w2 := own_grown (hown.alloc _) (hbel.alloc hbel.size _) (Nat.le_refl _) hgrow (by have := hbel.size; simp; omega)
        have hown2 : w2.ownsRow w.heap.size 5 1 v' (acc ++ [(10 : UInt8)]).length (Lib.byteCells (acc ++ [(10 : UInt8)])) := by
          rw [List.length_append, byteCells_more]
          exact hown'
        clear hown' hgrow hown hbel
        by_cases hlt2 : k + 1 < s.size
        · have hst := restL_step s (k + 1) hlt2
          have hix : ((k : Int) + 1) < (s.size : Int) := by omega
          by_cases h10 : (s[k + 1]'hlt2).toNat = 10
          · have hb10 : s[k + 1]'hlt2 = 10 := UInt8.toNat_inj.1 h10
            have Hacc2 : Hid ((acc ++ [10]) ++ linesG false (restL s (k + 1 + 1)) = linesL s.data.toList) := by
              show _ = _
              rw [← Hst.out, hst, hb10]
              simp [linesG]
            have g2 : (((s[k + 1]'hlt2).toNat : Int) == 10) = true := by simp [h10]
            clear hst hb10 h10 Hst
            go_wp2
            go_roundw
            case rel => exact ⟨k + 1 + 1, acc ++ [10], by omega, by simp; omega, by go_num, hown2, hbel2, Hacc2⟩
            case measure => simp [intOf]; omega
          · have hb10 : s[k + 1]'hlt2 ≠ 10 := u8_ne _ 10 (by decide) h10
            have Hacc2 : Hid ((acc ++ [10]) ++ linesG false (restL s (k + 1)) = linesL s.data.toList) := by
              show _ = _
              rw [← Hst.out, linesG_back]
              intro t e
              rw [hst] at e
              exact hb10 (List.cons.inj e).1
            have g2 : (((s[k + 1]'hlt2).toNat : Int) == 10) = false := by simp; omega
            clear hst hb10 h10 Hst
            go_wp2
            go_roundw
            case rel => exact ⟨k + 1, acc ++ [10], by omega, by simp; omega, by go_num, hown2, hbel2, Hacc2⟩
            case measure => simp [intOf]; omega
        · have Hacc2 : Hid ((acc ++ [10]) ++ linesG false (restL s (k + 1)) = linesL s.data.toList) := by
            show _ = _
            rw [← Hst.out, restL_end s (k + 1) hlt2]
            rfl
          have hd : decide ((k : Int) + 1 < (s.size : Int)) = false := decide_eq_false (by omega)
          clear Hst
          go_wp2
          go_roundw
          case rel => exact ⟨k + 1, acc ++ [10], by omega, by simp; omega, by go_num, hown2, hbel2, Hacc2⟩
          case measure => simp [intOf]; omega
      · have g1 : (((s[k]'hlt).toNat : Int) != 13) = true := by simp; omega
        have hb13 : s[k]'hlt ≠ 13 := u8_ne _ 13 (by decide) h13
        have Hacc2 : Hid ((acc ++ [s[k]'hlt]) ++ linesG false (restL s (k + 1)) = linesL s.data.toList) := by
          show _ = _
          rw [← Hacc.out, hst]
          simp [linesG, hb13]
        clear hst hb13 Hacc
        go_wp2_with (at_builtin; refine wpList_append_own _ rfl (.tmp 16) (.tmp 20) 22 rfl w.heap.size 5 i0 (.int .u8 0) 1 1 Tryd.underlying22 Hi.out Hz0.out Hz1.out Hz2.out rfl (by decide) _ acc.length (Lib.byteCells acc) rfl (hown.alloc _) ⟨_, 0, none⟩ 1 1 [.int .u8 ((s[k]'hlt).toNat : Int)] rfl rfl (one_byte_at _ _ _) (one_byte_one _) ?c3 ?c4 ?c5 ?_)
        case c3 => unfold maxLen; omega
        case c4 => omega
        case c5 => have := hbel.size; first | omega | (simp; omega)
        intro v' w2 hown' hgrow _
        have hbel2 : Below w.heap.size w w2 := own_grown (hown.alloc _) (hbel.alloc hbel.size _) (Nat.le_refl _) hgrow (by have := hbel.size; simp; omega)
        have hown2 : w2.ownsRow w.heap.size 5 1 v' (acc ++ [s[k]'hlt]).length (Lib.byteCells (acc ++ [s[k]'hlt])) := by
          rw [List.length_append, byteCells_more]
          exact hown'
        clear hown' hgrow hown hbel
        go_wp2
        go_roundw
        case rel => exact ⟨k + 1, acc ++ [s[k]'hlt], by omega, by simp; omega, by go_num, hown2, hbel2, Hacc2⟩
        case measure => simp [intOf]; omega
    · have hall : acc = linesL s.data.toList := by
        rw [← Hacc.out, restL_end s k hlt]
        simp [linesG]
      have hbk := own_back hown
      rw [hall] at hbk
      have Hbk : Hid (acc = linesL s.data.toList) := hall
      clear Hacc hall hown
      go_wp2
      go_ret
      exact ⟨rfl, hbel⟩

end Go.Proofs.YtphbljhbkjdlkaaDoor.Sg
