/- The program's needsBlank and NoteOf. -/
import Derived.Test.YthikgkhnhbaccaaDoorStImTo
import Derived.Test.YthikgkhnhbaccaaDoorStNoteOf
namespace Go.Proofs.YthikgkhnhbaccaaDoor.Sg
open Go.ChangeShapes Go.WideShapes Go.ChangeAt Go.RowKit

/-- What stands from a place on is empty, or begins with a byte 45. -/
def aheadB (t : ByteArray) (k : Nat) : Bool := decide (tailL t k = [] ∨ (tailL t k).head? = some 45)

theorem blank_end {t : ByteArray} {k : Nat} (h : ¬ k < t.size) : aheadB t k = true := decide_eq_true ((head_tail t k).2 (.inl h))
theorem blank_at {t : ByteArray} {k : Nat} (h : k < t.size) : aheadB t k = decide (t[k]'h = 45) := by
  unfold aheadB
  by_cases e : t[k]'h = 45
  · rw [decide_eq_true e]
    exact decide_eq_true ((head_tail t k).2 (.inr ⟨h, e⟩))
  · rw [decide_eq_false e]
    exact decide_eq_false fun c => (head_tail t k).1 c |>.elim (fun c => c h) (fun c => e c.2)

theorem ext_first (t : ByteArray) (k : Nat) (h : k < t.size) (h0 : 0 < (t.extract k t.size).size) : (t.extract k t.size)[0]'h0 = t[k]'h := by
  rw [ByteArray.getElem_extract]
  rfl

set_option maxHeartbeats 1000000 in
theorem implNeedsBlank (t : ByteArray) (k : Nat) (w : World) :
    Calls Tryd.prog 13 #[.string (t.extract k t.size)] w fun e w' => e = .returned (.bool (aheadB t k)) ∧ w' = w := by
  by_cases h : k < t.size
  · have hsz : (t.extract k t.size).size = t.size - k := by rw [ByteArray.size_extract]; omega
    have h0 : 0 < (t.extract k t.size).size := by omega
    have hf := ext_first t k h h0
    have Hb : Hid (aheadB t k = decide (t[k]'h = 45)) := blank_at h
    generalize t.extract k t.size = u at *
    generalize t[k]'h = b at *
    have hne : (u.toList == []) = false := not_empty (by omega)
    subst hf
    clear hsz
    by_cases e : u[0]'h0 = 45
    · have Hv : Hid (aheadB t k = true) := by show _ = _; rw [Hb.out, decide_eq_true e]
      have g1 : ((u[0]'h0).toNat : Int) = 45 := by rw [e]; rfl
      clear e Hb
      go_enter Tryd.func13, Tryd.ntmps13
      go_wp2_with fail
      go_ret
      exact ⟨ret_bool Hv.out.symm, rfl⟩
    · have Hv : Hid (aheadB t k = false) := by show _ = _; rw [Hb.out, decide_eq_false e]
      have g1 : (((u[0]'h0).toNat : Int) == 45) = false := by
        rw [beq_eq_false_iff_ne]
        intro c
        exact e (UInt8.toNat_inj.1 (by show _ = 45; omega))
      clear e Hb
      go_enter Tryd.func13, Tryd.ntmps13
      go_wp2_with fail
      go_ret
      exact ⟨ret_bool Hv.out.symm, rfl⟩
  · have Hv : Hid (aheadB t k = true) := blank_end h
    have hz : (t.extract k t.size).size = 0 := by rw [ByteArray.size_extract]; omega
    rw [empty_of hz]
    clear hz h
    go_enter Tryd.func13, Tryd.ntmps13
    go_wp2_with fail
    go_ret
    exact ⟨ret_bool Hv.out.symm, rfl⟩

theorem put_cells (bs : List UInt8) (C : Array Value) (hC : C = (Lib.byteCells bs).toArray) (w : World) (t : TypeId) : ∀ j u, (Lib.byteCells bs)[j]? = some u → (w.alloc (.cells C t)).cell? ((⟨w.heap.size, 0, none⟩ : Addr).add j) = some u := by
  intro j u hj
  subst hC
  rw [add0]
  have hn : (w.alloc (.cells (Lib.byteCells bs).toArray t)).heap[w.heap.size]? = some (.cells (Lib.byteCells bs).toArray t) := by
    show (w.heap.push _)[w.heap.size]? = _
    simp
  unfold World.cell?
  dsimp only
  rw [hn]
  simpa using hj

/-- Bytes that were just laid, put behind bytes that a call owns. -/
theorem putNew (acc bs : List UInt8) (m : Nat) (C : Array Value) (hC : C = (Lib.byteCells bs).toArray) (hm : bs.length = m) (v : Value) (t : TypeId) (w0 w : World) (hown : w.ownsRow w0.heap.size 5 1 v acc.length (Lib.byteCells acc)) (hbel : Below w0.heap.size w0 w) (hl : acc.length + m ≤ 1099511627776) (c : Nat) :
    Calls Tryd.prog 12 #[v, .slice (some ⟨w.heap.size, 0, none⟩) m c] (w.alloc (.cells C t)) fun e w' => ∃ v', e = .returned v' ∧ w'.ownsRow w0.heap.size 5 1 v' (acc ++ bs).length (Lib.byteCells (acc ++ bs)) ∧ Below w0.heap.size w0 w' := by
  have hB : w0.heap.size ≤ w.heap.size := hbel.size
  refine (implPutBytes acc bs v ⟨w.heap.size, 0, none⟩ m c w0.heap.size (w.alloc (.cells C t)) (hown.alloc _) hm (put_cells bs C hC w t) (by simp; omega) hl).mono ?_
  rintro e w' ⟨v', h1, h2, h3⟩
  exact ⟨v', h1, h2, own_grown (hown.alloc _) (hbel.alloc hB _) (Nat.le_refl _) h3 (by simp; omega)⟩

set_option maxRecDepth 20000 in
set_option maxHeartbeats 4000000 in
theorem implNoteOf (s : ByteArray) (w : World) (hs : s.size ≤ 17179869184) (hT : Lib.Utf8Tabs 2 3 w) :
    Calls Tryd.prog 6 #[.string s] w fun e w' => e = .returned (.string (stNoteS s)) ∧ Below w.heap.size w w' := by
  have hsz := mild_size s
  have Hm : Hid (stNoteS s = ⟨(stNoteL (mildS s).data.toList).toArray⟩) := rfl
  have H0 := implTextOf s w hs hT
  clear hT
  go_enter Tryd.func6, Tryd.ntmps6
  go_wp2_with fail
  refine H0.mono ?_
  rintro e w1 ⟨rfl, b1⟩
  clear H0
  generalize mildS s = t at *
  go_wp2_with fail
  go_loopw [4, 5, 6, 11] (fun v _ _ i wr => ∃ (k : Nat) (acc : List UInt8), k ≤ t.size ∧ acc.length ≤ 2 * k ∧ i = .int .i64 k ∧ wr.ownsRow w1.heap.size 5 1 v acc.length (Lib.byteCells acc) ∧ Below w1.heap.size w1 wr ∧ Hid (acc ++ stNoteL (tailL t k) = stNoteL t.data.toList)) (fun _ _ _ i _ => t.size - (intOf i).toNat)
  case atStart =>
    refine ⟨0, [], Nat.zero_le _, Nat.zero_le _, rfl, ⟨rfl, .inl ⟨rfl, rfl⟩⟩, Below.refl _ _, ?_⟩
    show [] ++ _ = _
    rw [List.nil_append, tail_all]
  case round =>
    obtain ⟨k, acc, hk, hal, rfl, hown0, hbel0, Hacc⟩ := hrel
    by_cases hlt : k < t.size
    · have hst := note_step t k hlt
      have g0 : (k : Int) < (t.size : Int) := by omega
      by_cases h13 : t[k]'hlt = 13
      · have Hnx : Hid ((acc ++ [10]) ++ stNoteL (tailL t (k + 1)) = stNoteL t.data.toList) := by
          show _ = _
          rw [← Hacc.out, hst, h13, if_neg (by rintro ⟨h, _⟩; revert h; decide)]
          simp [lineU]
        have g1 : ((t[k]'hlt).toNat : Int) = 13 := by rw [h13]; rfl
        have Hput := fun c ty => putNew acc [10] 1 #[.int .u8 10] rfl rfl _ ty w1 wr hown0 hbel0 (by omega) c
        clear hst h13 Hacc hown0 hbel0
        go_wp2_with fail
        refine (Hput _ _).mono ?_
        rintro e w2 ⟨v', rfl, hown1, hbel1⟩
        clear Hput
        go_wp2_with fail
        go_roundw
        case rel => exact ⟨k + 1, acc ++ [10], by omega, by simp only [List.length_append, List.length_cons, List.length_nil]; omega, by go_num, hown1, hbel1, Hnx⟩
        case measure => simp [intOf]; omega
      · have g1 : (((t[k]'hlt).toNat : Int) == 13) = false := by
          rw [beq_eq_false_iff_ne]
          intro e
          exact h13 (UInt8.toNat_inj.1 (by show _ = 13; omega))
        have Hl : Hid (lineU (t[k]'hlt) = t[k]'hlt) := by show _ = _; unfold lineU; rw [if_neg h13]
        by_cases h45 : t[k]'hlt = 45
        · have g2 : ((t[k]'hlt).toNat : Int) = 45 := by rw [h45]; rfl
          clear g1
          have q0 : (0 : Int) ≤ (k : Int) + 1 := by omega
          have q1 : (k : Int) + 1 ≤ (t.size : Int) := by omega
          have qw : IntKind.i64.wrap ((k : Int) + 1) = (k : Int) + 1 := IntWalk.i64_in _ (by omega)
          have HB := fun W => implNeedsBlank t (k + 1) W
          cases hb : aheadB t (k + 1)
          · rw [hb] at HB
            have Hnx : Hid ((acc ++ [45]) ++ stNoteL (tailL t (k + 1)) = stNoteL t.data.toList) := by
              show _ = _
              rw [← Hacc.out, hst, Hl.out, if_neg (fun e => of_decide_eq_false hb e.2), h45]
              simp
            have Hput := fun c ty => putNew acc [45] 1 #[.int .u8 45] rfl rfl _ ty w1 wr hown0 hbel0 (by omega) c
            clear hst h13 h45 Hacc hown0 hbel0 Hl hb
            go_wp2_with fail
            refine (HB _).mono ?_
            rintro e w2 ⟨rfl, rfl⟩
            clear HB
            go_wp2_with fail
            refine (Hput _ _).mono ?_
            rintro e w2 ⟨v', rfl, hown1, hbel1⟩
            clear Hput
            go_wp2_with fail
            go_roundw
            case rel => exact ⟨k + 1, acc ++ [45], by omega, by simp only [List.length_append, List.length_cons, List.length_nil]; omega, by go_num, hown1, hbel1, Hnx⟩
            case measure => simp [intOf]; omega
          · rw [hb] at HB
            have Hnx : Hid ((acc ++ [45, 32]) ++ stNoteL (tailL t (k + 1)) = stNoteL t.data.toList) := by
              show _ = _
              rw [← Hacc.out, hst, Hl.out, if_pos ⟨h45, of_decide_eq_true hb⟩, h45]
              simp
            have Hput := fun c ty => putNew acc [45, 32] 2 #[.int .u8 45, .int .u8 32] rfl rfl _ ty w1 wr hown0 hbel0 (by omega) c
            clear hst h13 h45 Hacc hown0 hbel0 Hl hb
            go_wp2_with fail
            refine (HB _).mono ?_
            rintro e w2 ⟨rfl, rfl⟩
            clear HB
            go_wp2_with fail
            refine (Hput _ _).mono ?_
            rintro e w2 ⟨v', rfl, hown1, hbel1⟩
            clear Hput
            go_wp2_with fail
            go_roundw
            case rel => exact ⟨k + 1, acc ++ [45, 32], by omega, by simp only [List.length_append, List.length_cons, List.length_nil]; omega, by go_num, hown1, hbel1, Hnx⟩
            case measure => simp [intOf]; omega
        · have Hnx : Hid ((acc ++ [t[k]'hlt]) ++ stNoteL (tailL t (k + 1)) = stNoteL t.data.toList) := by
            show _ = _
            rw [← Hacc.out, hst, Hl.out, if_neg (fun e => h45 e.1)]
            simp
          have g2 : (((t[k]'hlt).toNat : Int) == 45) = false := by
            rw [beq_eq_false_iff_ne]
            intro e
            exact h45 (UInt8.toNat_inj.1 (by show _ = 45; omega))
          have Hput := fun c ty => putNew acc [t[k]'hlt] 1 #[.int .u8 ((t[k]'hlt).toNat : Int)] rfl rfl _ ty w1 wr hown0 hbel0 (by omega) c
          clear hst h13 h45 Hacc hown0 hbel0 Hl
          go_wp2_with fail
          refine (Hput _ _).mono ?_
          rintro e w2 ⟨v', rfl, hown1, hbel1⟩
          clear Hput
          go_wp2_with fail
          go_roundw
          case rel => exact ⟨k + 1, acc ++ [t[k]'hlt], by omega, by simp only [List.length_append, List.length_cons, List.length_nil]; omega, by go_num, hown1, hbel1, Hnx⟩
          case measure => simp [intOf]; omega
    · have hall : acc = stNoteL t.data.toList := by
        rw [← Hacc.out, tailL_end t k hlt]
        simp [stNoteL]
      subst hall
      clear Hacc
      have hbk := own_back hown0
      clear hown0
      have g1 : ¬ (k : Int) < (t.size : Int) := by omega
      go_wp2_with fail
      go_ret
      exact ⟨ret_str Hm.out.symm, b1.trans (hbel0.mono b1.size)⟩

end Go.Proofs.YthikgkhnhbaccaaDoor.Sg
