/- The program's Signs gives the signs of a text in memory of its own. -/
import Derived.Test.YtbmmghkieolpkaaGreatDoorSgSigns
import Derived.WalkSmall
namespace Go.Proofs.YtbmmghkieolpkaaGreatDoor.Sg
open Go.ChangeShapes Go.WideShapes Go.ChangeAt Go.RowKit

theorem Owned.lower {w : World} {B B' : Nat} {a : Option Addr} {cap : Nat} {zs : List Int} (h : Owned w B a cap zs) (hB : B' ≤ B) : Owned w B' a cap zs := by
  rcases h with h | ⟨g, cur, ha, hg, h⟩
  · exact .inl h
  · exact .inr ⟨g, cur, ha, by omega, h⟩

theorem decode_fit (s : ByteArray) (i : Nat) (h : i < s.size) : i + (Utf8.decode s i).2 ≤ s.size := by
  have hm := getS_many s i h
  by_cases hd : (Utf8.decode s i).1 = 65533
  · have := (getS_bad s i h hd).2.1
    omega
  · rw [← getS_good s i h hd]
    omega

set_option maxHeartbeats 2000000 in
theorem implSigns (s : ByteArray) (w : World) (hs : s.size ≤ 17592186044416) (hT : Lib.Utf8Tabs 2 3 w) :
    Calls Tryz.prog 153 #[.string s] w fun e w' => ∃ a cap, e = .returned (.slice a (signsL s).length cap) ∧ Owned w' w.heap.size a cap (signsL s) ∧ Below w.heap.size w w' := by
  obtain ⟨i0, hi0, hz0, hz1, hz2⟩ := info_parts info_int
  have Hi : Hid (Tryz.prog.info? 3 = some i0) := hi0
  have Hz0 : Hid (i0.zero = some (.int .i64 0)) := hz0
  have Hz1 : Hid (i0.size = 1) := hz1
  have Hz2 : Hid (i0.bytes = 8) := hz2
  have HT : Hid (Lib.Utf8Tabs 2 3 w) := hT
  clear hi0 hz0 hz1 hz2 hT
  go_enter Tryz.func153, Tryz.ntmps153
  go_wp2
  go_loopw [3, 4] (fun v nv wr => ∃ (pos nx : Nat) (acc : List Int), pos ≤ s.size ∧ acc.length ≤ pos ∧ nx ≤ s.size ∧ nv = .int .i64 nx ∧ wr.ownsRow (w.heap.size + 1) 3 1 v acc.length (intCells acc) ∧
    wr.heap[w.heap.size]? = some (.stringIter s pos) ∧ Below w.heap.size w wr ∧ Hid (acc ++ signsAt s (max pos nx) = signsL s) ∧ Hid (∀ j, pos ≤ j → j < nx → 128 ≤ bN s j ∧ bN s j ≤ 191)) (fun _ _ wr => s.size - wr.iterPos w.heap.size)
  case atStart =>
    refine ⟨0, 0, [], Nat.zero_le _, Nat.le_refl _, Nat.zero_le _, rfl, World.ownsRow_nil _ _ _ _, ?_, (Below.refl _ w).alloc (Nat.le_refl _) _, rfl, fun j _ h => by omega⟩
    have := World.iter_heap w s 0
    simpa using this
  case round =>
    obtain ⟨pos, nx, acc, hpos, hal, hnx, rfl, hown, hit, hbel, Hacc, Hsp⟩ := hrel
    have hsz : w.heap.size < wr.heap.size := (Array.getElem?_eq_some_iff.1 hit).1
    by_cases hp : pos < s.size
    · have hnext : ∀ ty, (Instr.next (.pointer (some ⟨w.heap.size, 0, none⟩)) true ty).run Tryz.prog wr = _ := fun ty => Lib.run_next_any_at wr w.heap.size s pos ty hit hp
      have hwd := decode_pos s pos
      have hd1 := decode_le s pos
      have hfit := decode_fit s pos hp
      have hit2 := Lib.iterAt_heap wr w.heap.size s pos (pos + (Utf8.decode s pos).2) hit
      have hown2 := ownsRow_iterAt hown (k := w.heap.size) (by omega) s (pos + (Utf8.decode s pos).2)
      have hbel2 := Lib.below_iterAt hbel (k := w.heap.size) (Nat.le_refl _) s (pos + (Utf8.decode s pos).2)
      have hgood := getS_good s pos hp
      have hbad := getS_bad s pos hp
      have hgm := getS_many s pos hp
      have hst := signsAt_step s pos hp
      have hbeh := decode_behind s pos
      generalize hD : Utf8.decode s pos = D at *
      obtain ⟨r, m⟩ := D
      simp only at hwd hd1 hfit hit2 hown2 hbel2 hbad
      have Hgood : Hid (r ≠ 65533 → getS s pos = (r, m)) := hgood
      have Hbad : Hid (r = 65533 → (getS s pos).1 = 65533 ∧ m ≤ (getS s pos).2 ∧ ∀ j, pos + m ≤ j → j < pos + (getS s pos).2 → 128 ≤ bN s j ∧ bN s j ≤ 191) := hbad
      have Hgm : Hid (1 ≤ (getS s pos).2 ∧ pos + (getS s pos).2 ≤ s.size) := hgm
      have Hst : Hid (signsAt s pos = ((getS s pos).1 : Int) :: signsAt s (pos + (getS s pos).2)) := hst
      have Hbeh : Hid (128 ≤ bN s pos → bN s pos ≤ 191 → (r, m) = (65533, 1)) := hbeh
      clear hgood hbad hgm hst hbeh hD hown
      generalize hW : wr.iterAt w.heap.size s (pos + m) = W at *
      have hszW : w.heap.size < W.heap.size := (Array.getElem?_eq_some_iff.1 hit2).1
      clear hW
      by_cases hskip : pos < nx
      · have hm1 : (r, m) = (65533, 1) := Hbeh.out (Hsp.out pos (Nat.le_refl _) hskip).1 (Hsp.out pos (Nat.le_refl _) hskip).2
        have hm : m = 1 := congrArg Prod.snd hm1
        subst hm
        clear hm1
        have Hacc2 : Hid (acc ++ signsAt s (max (pos + 1) nx) = signsL s) := by
          have h := Hacc.out
          rw [show max pos nx = nx by omega] at h
          show _ = _
          rw [show max (pos + 1) nx = nx by omega]
          exact h
        have Hsp2 : Hid (∀ j, pos + 1 ≤ j → j < nx → 128 ≤ bN s j ∧ bN s j ≤ 191) := fun j h1 h2 => Hsp.out j (by omega) h2
        clear Hacc Hsp Hgood Hbad Hgm Hst Hbeh
        go_wp2
        go_roundw
        case rel => exact ⟨pos + 1, nx, acc, by omega, by omega, hnx, rfl, hown2, hit2, hbel2, Hacc2, Hsp2⟩
        case measure =>
          simp only [World.iterPos, hit2, hit]
          omega
      · have hA := Hacc.out
        rw [show max pos nx = pos by omega, Hst.out] at hA
        by_cases hr : r = 65533
        · subst hr
          obtain ⟨hb1, hb2, hb3⟩ := Hbad.out rfl
          obtain ⟨hg1, hg2⟩ := Hgm.out
          rw [hb1] at hA
          generalize hK : (getS s pos).2 = K at *
          have HK : Hid ((getS s pos).2 = K) := hK
          have Hacc2 : Hid ((acc ++ [(65533 : Int)]) ++ signsAt s (max (pos + m) (pos + K)) = signsL s) := by
            show _ = _
            rw [show max (pos + m) (pos + K) = pos + K by omega, ← hA]
            simp
          have Hsp2 : Hid (∀ j, pos + m ≤ j → j < pos + K → 128 ≤ bN s j ∧ bN s j ≤ 191) := hb3
          have HT2 : Hid (Lib.Utf8Tabs 2 3 W) := Utf8Tabs_below HT.out hbel2
          clear Hacc Hsp Hgood Hbad Hgm Hst Hbeh hA hb1 hb3 hK
          go_wp2_with fail
          refine (implGet_in s pos _ hp (by omega) HT2.out).mono ?_
          rintro e w1 ⟨rfl, hb1⟩
          rw [HK.out]
          have hown3 := owns_below hown2 (Nat.le_refl _) hb1
          have hit3 : w1.heap[w.heap.size]? = some (.stringIter s (pos + m)) := (hb1.block w.heap.size hszW).trans hit2
          have hbel3 : Below w.heap.size w w1 := hbel2.trans (hb1.mono (by omega))
          have hsz3 : w.heap.size < w1.heap.size := Nat.lt_of_lt_of_le hszW hb1.size
          clear hown2 hit2 hbel2 hb1 hnext
          go_wp2_with (at_builtin; refine wpList_append_own _ rfl (.tmp 29) (.tmp 32) 112 rfl (w.heap.size + 1) 3 i0 (.int .i64 0) 1 8 Tryz.underlying112 Hi.out Hz0.out Hz1.out Hz2.out rfl (by decide) _ acc.length (intCells acc) rfl (hown3.alloc _) ⟨_, 0, none⟩ 1 1 [.int .i64 65533] rfl rfl (one_cell _ _ _) (one_one _) ?c3 ?c4 ?c5 ?_)
          case c3 => unfold maxLen; omega
          case c4 => omega
          case c5 => first | omega | (simp; omega)
          intro v' w2 hown' hgrow _
          have hbel4 : Below w.heap.size w w2 := own_grown1 (hown3.alloc _) (hbel3.alloc hbel3.size _) (Nat.le_succ _) hgrow (by simp; omega)
          have hit4 : w2.heap[w.heap.size]? = some (.stringIter s (pos + m)) := iter_kept (hown3.alloc _) (Nat.lt_succ_self _) hgrow (by rw [Below.heap_alloc _ _ _ hsz3]; exact hit3)
          have hown4 : w2.ownsRow (w.heap.size + 1) 3 1 v' (acc ++ [(65533 : Int)]).length (intCells (acc ++ [(65533 : Int)])) := by
            rw [List.length_append]
            have e2 : intCells (acc ++ [(65533 : Int)]) = intCells acc ++ [.int .i64 65533] := by simp [intCells]
            rw [e2]
            exact hown'
          clear hown' hgrow hown3 hbel3 hit3 HT2
          go_wp2
          go_roundw
          case rel => exact ⟨pos + m, pos + K, acc ++ [(65533 : Int)], by omega, by simp; omega, by omega, by go_num, hown4, hit4, hbel4, Hacc2, Hsp2⟩
          case measure =>
            simp only [World.iterPos, hit4, hit]
            omega
        · have hg := Hgood.out hr
          rw [hg] at hA
          simp only at hA
          have Hacc2 : Hid ((acc ++ [(r : Int)]) ++ signsAt s (max (pos + m) nx) = signsL s) := by
            show _ = _
            rw [show max (pos + m) nx = pos + m by omega, ← hA]
            simp
          have Hsp2 : Hid (∀ j, pos + m ≤ j → j < nx → 128 ≤ bN s j ∧ bN s j ≤ 191) := fun j h1 h2 => by omega
          have hr2 : ((r : Int) == 65533) = false := by rw [beq_eq_false_iff_ne]; omega
          have hrl : (r : Int) ≤ 1114111 := by omega
          clear Hacc Hsp Hgood Hbad Hgm Hst Hbeh hA hg hr
          go_wp2_with (at_builtin; refine wpList_append_own _ rfl (.tmp 29) (.tmp 32) 112 rfl (w.heap.size + 1) 3 i0 (.int .i64 0) 1 8 Tryz.underlying112 Hi.out Hz0.out Hz1.out Hz2.out rfl (by decide) _ acc.length (intCells acc) rfl (hown2.alloc _) ⟨_, 0, none⟩ 1 1 [.int .i64 (r : Int)] rfl rfl (one_cell _ _ _) (one_one _) ?c3 ?c4 ?c5 ?_)
          case c3 => unfold maxLen; omega
          case c4 => omega
          case c5 => first | omega | (simp; omega)
          intro v' w2 hown' hgrow _
          have hbel4 : Below w.heap.size w w2 := own_grown1 (hown2.alloc _) (hbel2.alloc hbel2.size _) (Nat.le_succ _) hgrow (by simp; omega)
          have hit4 : w2.heap[w.heap.size]? = some (.stringIter s (pos + m)) := iter_kept (hown2.alloc _) (Nat.lt_succ_self _) hgrow (by rw [Below.heap_alloc _ _ _ hszW]; exact hit2)
          have hown4 : w2.ownsRow (w.heap.size + 1) 3 1 v' (acc ++ [(r : Int)]).length (intCells (acc ++ [(r : Int)])) := by
            rw [List.length_append]
            have e2 : intCells (acc ++ [(r : Int)]) = intCells acc ++ [.int .i64 (r : Int)] := by simp [intCells]
            rw [e2]
            exact hown'
          clear hown' hgrow hown2 hbel2 hit2 hnext
          go_wp2
          go_roundw
          case rel => exact ⟨pos + m, nx, acc ++ [(r : Int)], by omega, by simp; omega, hnx, rfl, hown4, hit4, hbel4, Hacc2, Hsp2⟩
          case measure =>
            simp only [World.iterPos, hit4, hit]
            omega
    · have hnext : ∀ ty, (Instr.next (.pointer (some ⟨w.heap.size, 0, none⟩)) true ty).run Tryz.prog wr = _ := fun ty => Lib.run_next_end_at wr w.heap.size s pos ty hit hp
      have hall : acc = signsL s := by
        rw [← Hacc.out, signsAt_end s _ (by omega), List.append_nil]
      subst hall
      clear Hacc Hsp
      obtain ⟨a, cap, rfl, ho⟩ := Owned.of_row hown
      clear hown
      go_wp2
      go_ret
      exact ⟨a, cap, rfl, ho.lower (Nat.le_succ _), hbel⟩

end Go.Proofs.YtbmmghkieolpkaaGreatDoor.Sg
