/- The contract of the model's NoteOf. Written by mk_stnote.py. -/
import Derived.Test.YthikgkhnhbaccaaDoorMO07
namespace Go.Proofs.YthikgkhnhbaccaaDoor.Sg
open Go.ChangeShapes Go.WideShapes Go.ChangeAt Go.RowKit

theorem head_tail (t : ByteArray) (k : Nat) : (tailL t k = [] ∨ (tailL t k).head? = some 45) ↔ (¬ k < t.size ∨ ∃ h : k < t.size, t[k]'h = 45) := by
  by_cases h : k < t.size
  · rw [tailL_step t k h]
    simp [h]
  · rw [tailL_end t k h]
    simp [h]
theorem note_step (t : ByteArray) (k : Nat) (h : k < t.size) : stNoteL (tailL t k) = lineU (t[k]'h) :: (if t[k]'h = 45 ∧ (tailL t (k + 1) = [] ∨ (tailL t (k + 1)).head? = some 45) then 32 :: stNoteL (tailL t (k + 1)) else stNoteL (tailL t (k + 1))) := by
  rw [tailL_step t k h]
  conv => lhs; unfold stNoteL

set_option maxRecDepth 20000 in
set_option maxHeartbeats 4000000 in
theorem specNoteOf (s : ByteArray) (w : World) (hs : s.size ≤ 1099511627776) :
    Calls Tryd.prog 7 #[.string s] w fun e w' => e = .returned (.string (stNoteS s)) ∧ Below w.heap.size w w' := by
  obtain ⟨i0, hi0, hz0, hz1, hz2⟩ := info_parts info_byte
  have Hi : Hid (Tryd.prog.info? 5 = some i0) := hi0
  have Hz0 : Hid (i0.zero = some (.int .u8 0)) := hz0
  have Hz1 : Hid (i0.size = 1) := hz1
  have Hz2 : Hid (i0.bytes = 1) := hz2
  clear hi0 hz0 hz1 hz2
  have hsz := mild_size s
  have Hm : Hid (stNoteS s = ⟨(stNoteL (mildS s).data.toList).toArray⟩) := rfl
  go_enter Tryd.func7, Tryd.ntmps7
  go_wp2_with fail
  refine (specTextOf s _ (by omega)).mono ?_
  rintro e w1 ⟨rfl, b1⟩
  generalize mildS s = t at *
  go_wp2_with fail
  go_loopw [4, 5] (fun v i wr => ∃ (k : Nat) (acc : List UInt8), k ≤ t.size ∧ acc.length ≤ 2 * k ∧ i = .int .i64 k ∧ wr.ownsRow w1.heap.size 5 1 v acc.length (Lib.byteCells acc) ∧ Below w1.heap.size w1 wr ∧ Hid (acc ++ stNoteL (tailL t k) = stNoteL t.data.toList)) (fun _ i _ => t.size - (intOf i).toNat)
  case atStart =>
    refine ⟨0, [], Nat.zero_le _, Nat.zero_le _, rfl, ⟨rfl, .inr ⟨w1.heap.size, 0, #[], rfl, Nat.le_refl _, ?_, Nat.le_refl _, Nat.zero_le _, rfl, rfl⟩⟩, (Below.refl _ _).alloc (Nat.le_refl _) _, ?_⟩
    · show (w1.heap.push _)[w1.heap.size]? = _
      simp
    · show [] ++ _ = _
      rw [List.nil_append, tail_all]
  case round =>
    obtain ⟨k, acc, hk, hal, rfl, hown0, hbel0, Hacc⟩ := hrel
    by_cases hlt : k < t.size
    · have hst := note_step t k hlt
      by_cases h13 : t[k]'hlt = 13
      · have Hst : Hid (stNoteL (tailL t k) = 10 :: stNoteL (tailL t (k + 1))) := by
          show _ = _
          rw [hst, h13, if_neg (by rintro ⟨h, _⟩; revert h; decide)]
          rfl
        have Hnx : Hid ((acc ++ [10]) ++ stNoteL (tailL t (k + 1)) = stNoteL t.data.toList) := by
          show _ = _
          rw [← Hacc.out, Hst.out]
          simp
        have g1 : ((t[k]'hlt).toNat : Int) = 13 := by rw [h13]; rfl
        clear hst h13 Hst Hacc
        go_wp2_with (at_builtin; refine wpList_append_own _ rfl (.tmp 21) (.tmp 23) 22 rfl w1.heap.size 5 i0 (.int .u8 0) 1 1 Tryd.underlying22 Hi.out Hz0.out Hz1.out Hz2.out rfl (by decide) _ (acc).length (Lib.byteCells (acc)) rfl (hown0.alloc _) ⟨_, 0, none⟩ 1 1 [.int .u8 (10 : Int)] rfl rfl (one_byte_at _ _ _) (one_byte_one _) ?c3 ?c4 ?c5 ?_)
        case c3 => unfold maxLen; first | omega | (simp only [List.length_append, List.length_cons, List.length_nil]; omega)
        case c4 => first | omega | (simp only [List.length_append, List.length_cons, List.length_nil]; omega)
        case c5 => have := hbel0.size; first | omega | (simp; omega)
        intro v1 w3 hown' hgrow _
        have hbel1 : Below w1.heap.size w1 w3 := own_grown (hown0.alloc _) (hbel0.alloc hbel0.size _) (Nat.le_refl _) hgrow (by have := hbel0.size; simp; omega)
        have hown1 : w3.ownsRow w1.heap.size 5 1 v1 ((acc) ++ [10]).length (Lib.byteCells ((acc) ++ [10])) := by
          rw [byteCells_more]
          simp only [List.length_append, List.length_cons, List.length_nil, Nat.zero_add]
          exact hown'
        clear hown' hgrow hown0 hbel0
        go_wp2_with fail
        go_roundw
        case rel => exact ⟨k + 1, acc ++ [10], by omega, by simp only [List.length_append, List.length_cons, List.length_nil]; omega, by go_num, hown1, hbel1, Hnx⟩
        case measure => simp [intOf]; omega
      · have g1 : (((t[k]'hlt).toNat : Int) == 13) = false := by
          rw [beq_eq_false_iff_ne]
          intro e
          exact h13 (UInt8.toNat_inj.1 (by show _ = 13; omega))
        have Hl : Hid (lineU (t[k]'hlt) = t[k]'hlt) := by show _ = _; unfold lineU; rw [if_neg h13]
        by_cases h45 : t[k]'hlt = 45
        · have g2 : ((t[k]'hlt).toNat : Int) = 45 := by rw [h45]; rfl
          clear g1
          by_cases hend : k + 1 < t.size
          · by_cases hn : t[k + 1]'hend = 45
            · have Hst : Hid (stNoteL (tailL t k) = 45 :: 32 :: stNoteL (tailL t (k + 1))) := by
                show _ = _
                rw [hst, Hl.out, if_pos ⟨h45, (head_tail t (k + 1)).2 (.inr ⟨hend, hn⟩)⟩, h45]
              have Hnx : Hid (((acc ++ [45]) ++ [32]) ++ stNoteL (tailL t (k + 1)) = stNoteL t.data.toList) := by
                show _ = _
                rw [← Hacc.out, Hst.out]
                simp
              have g3 : ((t[k + 1]'hend).toNat : Int) = 45 := by rw [hn]; rfl
              have g4 : ((k : Int) + 1 == (t.size : Int)) = false := by rw [beq_eq_false_iff_ne]; omega
              clear hst h13 h45 Hst Hacc Hl hn
              go_wp2_with (at_builtin; refine wpList_append_own _ rfl (.tmp 21) (.tmp 23) 22 rfl w1.heap.size 5 i0 (.int .u8 0) 1 1 Tryd.underlying22 Hi.out Hz0.out Hz1.out Hz2.out rfl (by decide) _ (acc).length (Lib.byteCells (acc)) rfl (hown0.alloc _) ⟨_, 0, none⟩ 1 1 [.int .u8 (45 : Int)] rfl rfl (one_byte_at _ _ _) (one_byte_one _) ?c3 ?c4 ?c5 ?_)
              case c3 => unfold maxLen; first | omega | (simp only [List.length_append, List.length_cons, List.length_nil]; omega)
              case c4 => first | omega | (simp only [List.length_append, List.length_cons, List.length_nil]; omega)
              case c5 => have := hbel0.size; first | omega | (simp; omega)
              intro v1 w3 hown' hgrow _
              have hbel1 : Below w1.heap.size w1 w3 := own_grown (hown0.alloc _) (hbel0.alloc hbel0.size _) (Nat.le_refl _) hgrow (by have := hbel0.size; simp; omega)
              have hown1 : w3.ownsRow w1.heap.size 5 1 v1 ((acc) ++ [45]).length (Lib.byteCells ((acc) ++ [45])) := by
                rw [byteCells_more]
                simp only [List.length_append, List.length_cons, List.length_nil, Nat.zero_add]
                exact hown'
              clear hown' hgrow hown0 hbel0
              go_wp2_with (at_builtin; refine wpList_append_own _ rfl (.tmp 41) (.tmp 42) 22 rfl w1.heap.size 5 i0 (.int .u8 0) 1 1 Tryd.underlying22 Hi.out Hz0.out Hz1.out Hz2.out rfl (by decide) _ (acc ++ [45]).length (Lib.byteCells (acc ++ [45])) rfl (hown1.alloc _) ⟨_, 0, none⟩ 1 1 [.int .u8 (32 : Int)] rfl rfl (one_byte_at _ _ _) (one_byte_one _) ?c3 ?c4 ?c5 ?_)
              case c3 => unfold maxLen; first | omega | (simp only [List.length_append, List.length_cons, List.length_nil]; omega)
              case c4 => first | omega | (simp only [List.length_append, List.length_cons, List.length_nil]; omega)
              case c5 => have := hbel1.size; first | omega | (simp; omega)
              intro v2 w4 hown' hgrow _
              have hbel2 : Below w1.heap.size w1 w4 := own_grown (hown1.alloc _) (hbel1.alloc hbel1.size _) (Nat.le_refl _) hgrow (by have := hbel1.size; simp; omega)
              have hown2 : w4.ownsRow w1.heap.size 5 1 v2 ((acc ++ [45]) ++ [32]).length (Lib.byteCells ((acc ++ [45]) ++ [32])) := by
                rw [byteCells_more]
                simp only [List.length_append, List.length_cons, List.length_nil, Nat.zero_add]
                exact hown'
              clear hown' hgrow hown1 hbel1
              go_wp2_with fail
              go_roundw
              case rel => exact ⟨k + 1, (acc ++ [45]) ++ [32], by omega, by simp only [List.length_append, List.length_cons, List.length_nil]; omega, by go_num, hown2, hbel2, Hnx⟩
              case measure => simp [intOf]; omega
            · have Hst : Hid (stNoteL (tailL t k) = 45 :: stNoteL (tailL t (k + 1))) := by
                show _ = _
                rw [hst, Hl.out, if_neg (fun e => (head_tail t (k + 1)).1 e.2 |>.elim (fun c => c hend) (fun c => hn c.2)), h45]
              have Hnx : Hid ((acc ++ [45]) ++ stNoteL (tailL t (k + 1)) = stNoteL t.data.toList) := by
                show _ = _
                rw [← Hacc.out, Hst.out]
                simp
              have g3 : (((t[k + 1]'hend).toNat : Int) == 45) = false := by
                rw [beq_eq_false_iff_ne]
                intro e
                exact hn (UInt8.toNat_inj.1 (by show _ = 45; omega))
              have g4 : ((k : Int) + 1 == (t.size : Int)) = false := by rw [beq_eq_false_iff_ne]; omega
              clear hst h13 h45 Hst Hacc Hl hn
              go_wp2_with (at_builtin; refine wpList_append_own _ rfl (.tmp 21) (.tmp 23) 22 rfl w1.heap.size 5 i0 (.int .u8 0) 1 1 Tryd.underlying22 Hi.out Hz0.out Hz1.out Hz2.out rfl (by decide) _ (acc).length (Lib.byteCells (acc)) rfl (hown0.alloc _) ⟨_, 0, none⟩ 1 1 [.int .u8 (45 : Int)] rfl rfl (one_byte_at _ _ _) (one_byte_one _) ?c3 ?c4 ?c5 ?_)
              case c3 => unfold maxLen; first | omega | (simp only [List.length_append, List.length_cons, List.length_nil]; omega)
              case c4 => first | omega | (simp only [List.length_append, List.length_cons, List.length_nil]; omega)
              case c5 => have := hbel0.size; first | omega | (simp; omega)
              intro v1 w3 hown' hgrow _
              have hbel1 : Below w1.heap.size w1 w3 := own_grown (hown0.alloc _) (hbel0.alloc hbel0.size _) (Nat.le_refl _) hgrow (by have := hbel0.size; simp; omega)
              have hown1 : w3.ownsRow w1.heap.size 5 1 v1 ((acc) ++ [45]).length (Lib.byteCells ((acc) ++ [45])) := by
                rw [byteCells_more]
                simp only [List.length_append, List.length_cons, List.length_nil, Nat.zero_add]
                exact hown'
              clear hown' hgrow hown0 hbel0
              go_wp2_with fail
              go_roundw
              case rel => exact ⟨k + 1, acc ++ [45], by omega, by simp only [List.length_append, List.length_cons, List.length_nil]; omega, by go_num, hown1, hbel1, Hnx⟩
              case measure => simp [intOf]; omega
          · have Hst : Hid (stNoteL (tailL t k) = 45 :: 32 :: stNoteL (tailL t (k + 1))) := by
              show _ = _
              rw [hst, Hl.out, if_pos ⟨h45, (head_tail t (k + 1)).2 (.inl hend)⟩, h45]
            have Hnx : Hid (((acc ++ [45]) ++ [32]) ++ stNoteL (tailL t (k + 1)) = stNoteL t.data.toList) := by
              show _ = _
              rw [← Hacc.out, Hst.out]
              simp
            have g4 : ((k : Int) + 1 == (t.size : Int)) = true := by rw [beq_iff_eq]; omega
            clear hst h13 h45 Hst Hacc Hl
            go_wp2_with (at_builtin; refine wpList_append_own _ rfl (.tmp 21) (.tmp 23) 22 rfl w1.heap.size 5 i0 (.int .u8 0) 1 1 Tryd.underlying22 Hi.out Hz0.out Hz1.out Hz2.out rfl (by decide) _ (acc).length (Lib.byteCells (acc)) rfl (hown0.alloc _) ⟨_, 0, none⟩ 1 1 [.int .u8 (45 : Int)] rfl rfl (one_byte_at _ _ _) (one_byte_one _) ?c3 ?c4 ?c5 ?_)
            case c3 => unfold maxLen; first | omega | (simp only [List.length_append, List.length_cons, List.length_nil]; omega)
            case c4 => first | omega | (simp only [List.length_append, List.length_cons, List.length_nil]; omega)
            case c5 => have := hbel0.size; first | omega | (simp; omega)
            intro v1 w3 hown' hgrow _
            have hbel1 : Below w1.heap.size w1 w3 := own_grown (hown0.alloc _) (hbel0.alloc hbel0.size _) (Nat.le_refl _) hgrow (by have := hbel0.size; simp; omega)
            have hown1 : w3.ownsRow w1.heap.size 5 1 v1 ((acc) ++ [45]).length (Lib.byteCells ((acc) ++ [45])) := by
              rw [byteCells_more]
              simp only [List.length_append, List.length_cons, List.length_nil, Nat.zero_add]
              exact hown'
            clear hown' hgrow hown0 hbel0
            go_wp2_with (at_builtin; refine wpList_append_own _ rfl (.tmp 41) (.tmp 42) 22 rfl w1.heap.size 5 i0 (.int .u8 0) 1 1 Tryd.underlying22 Hi.out Hz0.out Hz1.out Hz2.out rfl (by decide) _ (acc ++ [45]).length (Lib.byteCells (acc ++ [45])) rfl (hown1.alloc _) ⟨_, 0, none⟩ 1 1 [.int .u8 (32 : Int)] rfl rfl (one_byte_at _ _ _) (one_byte_one _) ?c3 ?c4 ?c5 ?_)
            case c3 => unfold maxLen; first | omega | (simp only [List.length_append, List.length_cons, List.length_nil]; omega)
            case c4 => first | omega | (simp only [List.length_append, List.length_cons, List.length_nil]; omega)
            case c5 => have := hbel1.size; first | omega | (simp; omega)
            intro v2 w4 hown' hgrow _
            have hbel2 : Below w1.heap.size w1 w4 := own_grown (hown1.alloc _) (hbel1.alloc hbel1.size _) (Nat.le_refl _) hgrow (by have := hbel1.size; simp; omega)
            have hown2 : w4.ownsRow w1.heap.size 5 1 v2 ((acc ++ [45]) ++ [32]).length (Lib.byteCells ((acc ++ [45]) ++ [32])) := by
              rw [byteCells_more]
              simp only [List.length_append, List.length_cons, List.length_nil, Nat.zero_add]
              exact hown'
            clear hown' hgrow hown1 hbel1
            go_wp2_with fail
            go_roundw
            case rel => exact ⟨k + 1, (acc ++ [45]) ++ [32], by omega, by simp only [List.length_append, List.length_cons, List.length_nil]; omega, by go_num, hown2, hbel2, Hnx⟩
            case measure => simp [intOf]; omega
        · have Hst : Hid (stNoteL (tailL t k) = t[k]'hlt :: stNoteL (tailL t (k + 1))) := by
            show _ = _
            rw [hst, Hl.out, if_neg (fun e => h45 e.1)]
          have g2 : (((t[k]'hlt).toNat : Int) == 45) = false := by
            rw [beq_eq_false_iff_ne]
            intro e
            exact h45 (UInt8.toNat_inj.1 (by show _ = 45; omega))
          have Hnx : Hid ((acc ++ [t[k]'hlt]) ++ stNoteL (tailL t (k + 1)) = stNoteL t.data.toList) := by
            show _ = _
            rw [← Hacc.out, Hst.out]
            simp
          clear hst h13 h45 Hst Hacc Hl
          go_wp2_with (at_builtin; refine wpList_append_own _ rfl (.tmp 21) (.tmp 23) 22 rfl w1.heap.size 5 i0 (.int .u8 0) 1 1 Tryd.underlying22 Hi.out Hz0.out Hz1.out Hz2.out rfl (by decide) _ (acc).length (Lib.byteCells (acc)) rfl (hown0.alloc _) ⟨_, 0, none⟩ 1 1 [.int .u8 ((t[k]'hlt).toNat : Int)] rfl rfl (one_byte_at _ _ _) (one_byte_one _) ?c3 ?c4 ?c5 ?_)
          case c3 => unfold maxLen; first | omega | (simp only [List.length_append, List.length_cons, List.length_nil]; omega)
          case c4 => first | omega | (simp only [List.length_append, List.length_cons, List.length_nil]; omega)
          case c5 => have := hbel0.size; first | omega | (simp; omega)
          intro v1 w3 hown' hgrow _
          have hbel1 : Below w1.heap.size w1 w3 := own_grown (hown0.alloc _) (hbel0.alloc hbel0.size _) (Nat.le_refl _) hgrow (by have := hbel0.size; simp; omega)
          have hown1 : w3.ownsRow w1.heap.size 5 1 v1 ((acc) ++ [t[k]'hlt]).length (Lib.byteCells ((acc) ++ [t[k]'hlt])) := by
            rw [byteCells_more]
            simp only [List.length_append, List.length_cons, List.length_nil, Nat.zero_add]
            exact hown'
          clear hown' hgrow hown0 hbel0
          go_wp2_with fail
          go_roundw
          case rel => exact ⟨k + 1, acc ++ [t[k]'hlt], by omega, by simp only [List.length_append, List.length_cons, List.length_nil]; omega, by go_num, hown1, hbel1, Hnx⟩
          case measure => simp [intOf]; omega
    · have hall : acc = stNoteL t.data.toList := by
        rw [← Hacc.out, tailL_end t k hlt]
        simp [stNoteL]
      subst hall
      clear Hacc
      have hbk := own_back hown0
      clear hown0
      have g1 : decide ((k : Int) < (t.size : Int)) = false := decide_eq_false (by omega)
      go_wp2_with fail
      go_ret
      exact ⟨ret_str Hm.out.symm, b1.trans (hbel0.mono b1.size)⟩

end Go.Proofs.YthikgkhnhbaccaaDoor.Sg
