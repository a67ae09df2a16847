/- The program's Signs gives the signs of a text in memory of its own. A builder of text that a call itself has made: what its two inner methods do at this dump. The program's SignText gives the bytes of the signs, one behind the other. Contracts of Clean and CleanOk, of the program and of the model. Signs that are written are read as they were: plain, no program in it. Plain tests of numbers: the kinds of signs. No program in it. Contracts of IsBlank and IsText, of the program and of the model, and of the model's test of a span. Contracts of IsText, of the program and of the model. -/
import Derived.Test.YtbmmghkieolpkaaGreatDoorMR2312
import Derived.WalkSmall
import Derived.Test.YtbmmghkieolpkaaGreatDoorMR2304
import Derived.Shelf.Strings.BuilderK
import Derived.Below
import Derived.OwnWalk
import Derived.ProofKit
namespace Go.Proofs.YtbmmghkieolpkaaGreatDoor.Sg
open Go.ChangeShapes Go.WideShapes Go.ChangeAt Go.RowKit

theorem Owned.lower {w : World} {B B' : Nat} {a : Option Addr} {cap : Nat} {zs : List Int} (h : Owned w B a cap zs) (hB : B' ≤ B) : Owned w B' a cap zs := by
  rcases h with h | ⟨g, cur, ha, hg, h⟩
  · exact .inl h
  · exact .inr ⟨g, cur, ha, by omega, h⟩

theorem decode_fit (s : ByteArray) (i : Nat) (h : i < s.size) : i + (Utf8.decode s i).2 ≤ s.size := by
  have hm := getS_many s i h
  by_cases hd : (Utf8.decode s i).1 = 65533
  · have := (getS_bad s i h hd).2.1
    omega
  · rw [← getS_good s i h hd]
    omega

set_option maxHeartbeats 2000000 in
theorem implSigns (s : ByteArray) (w : World) (hs : s.size ≤ 17592186044416) (hT : Lib.Utf8Tabs 2 3 w) :
    Calls Tryz.prog 153 #[.string s] w fun e w' => ∃ a cap, e = .returned (.slice a (signsL s).length cap) ∧ Owned w' w.heap.size a cap (signsL s) ∧ Below w.heap.size w w' := by
  obtain ⟨i0, hi0, hz0, hz1, hz2⟩ := info_parts info_int
  have Hi : Hid (Tryz.prog.info? 3 = some i0) := hi0
  have Hz0 : Hid (i0.zero = some (.int .i64 0)) := hz0
  have Hz1 : Hid (i0.size = 1) := hz1
  have Hz2 : Hid (i0.bytes = 8) := hz2
  have HT : Hid (Lib.Utf8Tabs 2 3 w) := hT
  clear hi0 hz0 hz1 hz2 hT
  go_enter Tryz.func153, Tryz.ntmps153
  go_wp2
  go_loopw [3, 4] (fun v nv wr => ∃ (pos nx : Nat) (acc : List Int), pos ≤ s.size ∧ acc.length ≤ pos ∧ nx ≤ s.size ∧ nv = .int .i64 nx ∧ wr.ownsRow (w.heap.size + 1) 3 1 v acc.length (intCells acc) ∧
    wr.heap[w.heap.size]? = some (.stringIter s pos) ∧ Below w.heap.size w wr ∧ Hid (acc ++ signsAt s (max pos nx) = signsL s) ∧ Hid (∀ j, pos ≤ j → j < nx → 128 ≤ bN s j ∧ bN s j ≤ 191)) (fun _ _ wr => s.size - wr.iterPos w.heap.size)
  case atStart =>
    refine ⟨0, 0, [], Nat.zero_le _, Nat.le_refl _, Nat.zero_le _, rfl, World.ownsRow_nil _ _ _ _, ?_, (Below.refl _ w).alloc (Nat.le_refl _) _, rfl, fun j _ h => by omega⟩
    have := World.iter_heap w s 0
    simpa using this
  case round =>
    obtain ⟨pos, nx, acc, hpos, hal, hnx, rfl, hown, hit, hbel, Hacc, Hsp⟩ := hrel
    have hsz : w.heap.size < wr.heap.size := (Array.getElem?_eq_some_iff.1 hit).1
    by_cases hp : pos < s.size
    · have hnext : ∀ ty, (Instr.next (.pointer (some ⟨w.heap.size, 0, none⟩)) true ty).run Tryz.prog wr = _ := fun ty => Lib.run_next_any_at wr w.heap.size s pos ty hit hp
      have hwd := decode_pos s pos
      have hd1 := decode_le s pos
      have hfit := decode_fit s pos hp
      have hit2 := Lib.iterAt_heap wr w.heap.size s pos (pos + (Utf8.decode s pos).2) hit
      have hown2 := ownsRow_iterAt hown (k := w.heap.size) (by omega) s (pos + (Utf8.decode s pos).2)
      have hbel2 := Lib.below_iterAt hbel (k := w.heap.size) (Nat.le_refl _) s (pos + (Utf8.decode s pos).2)
      have hgood := getS_good s pos hp
      have hbad := getS_bad s pos hp
      have hgm := getS_many s pos hp
      have hst := signsAt_step s pos hp
      have hbeh := decode_behind s pos
      generalize hD : Utf8.decode s pos = D at *
      obtain ⟨r, m⟩ := D
      simp only at hwd hd1 hfit hit2 hown2 hbel2 hbad
      have Hgood : Hid (r ≠ 65533 → getS s pos = (r, m)) := hgood
      have Hbad : Hid (r = 65533 → (getS s pos).1 = 65533 ∧ m ≤ (getS s pos).2 ∧ ∀ j, pos + m ≤ j → j < pos + (getS s pos).2 → 128 ≤ bN s j ∧ bN s j ≤ 191) := hbad
      have Hgm : Hid (1 ≤ (getS s pos).2 ∧ pos + (getS s pos).2 ≤ s.size) := hgm
      have Hst : Hid (signsAt s pos = ((getS s pos).1 : Int) :: signsAt s (pos + (getS s pos).2)) := hst
      have Hbeh : Hid (128 ≤ bN s pos → bN s pos ≤ 191 → (r, m) = (65533, 1)) := hbeh
      clear hgood hbad hgm hst hbeh hD hown
      generalize hW : wr.iterAt w.heap.size s (pos + m) = W at *
      have hszW : w.heap.size < W.heap.size := (Array.getElem?_eq_some_iff.1 hit2).1
      clear hW
      by_cases hskip : pos < nx
      · have hm1 : (r, m) = (65533, 1) := Hbeh.out (Hsp.out pos (Nat.le_refl _) hskip).1 (Hsp.out pos (Nat.le_refl _) hskip).2
        have hm : m = 1 := congrArg Prod.snd hm1
        subst hm
        clear hm1
        have Hacc2 : Hid (acc ++ signsAt s (max (pos + 1) nx) = signsL s) := by
          have h := Hacc.out
          rw [show max pos nx = nx by omega] at h
          show _ = _
          rw [show max (pos + 1) nx = nx by omega]
          exact h
        have Hsp2 : Hid (∀ j, pos + 1 ≤ j → j < nx → 128 ≤ bN s j ∧ bN s j ≤ 191) := fun j h1 h2 => Hsp.out j (by omega) h2
        clear Hacc Hsp Hgood Hbad Hgm Hst Hbeh
        go_wp2
        go_roundw
        case rel => exact ⟨pos + 1, nx, acc, by omega, by omega, hnx, rfl, hown2, hit2, hbel2, Hacc2, Hsp2⟩
        case measure =>
          simp only [World.iterPos, hit2, hit]
          omega
      · have hA := Hacc.out
        rw [show max pos nx = pos by omega, Hst.out] at hA
        by_cases hr : r = 65533
        · subst hr
          obtain ⟨hb1, hb2, hb3⟩ := Hbad.out rfl
          obtain ⟨hg1, hg2⟩ := Hgm.out
          rw [hb1] at hA
          generalize hK : (getS s pos).2 = K at *
          have HK : Hid ((getS s pos).2 = K) := hK
          have Hacc2 : Hid ((acc ++ [(65533 : Int)]) ++ signsAt s (max (pos + m) (pos + K)) = signsL s) := by
            show _ = _
            rw [show max (pos + m) (pos + K) = pos + K by omega, ← hA]
            simp
          have Hsp2 : Hid (∀ j, pos + m ≤ j → j < pos + K → 128 ≤ bN s j ∧ bN s j ≤ 191) := hb3
          have HT2 : Hid (Lib.Utf8Tabs 2 3 W) := Utf8Tabs_below HT.out hbel2
          clear Hacc Hsp Hgood Hbad Hgm Hst Hbeh hA hb1 hb3 hK
          go_wp2_with fail
          refine (implGet_in s pos _ hp (by omega) HT2.out).mono ?_
          rintro e w1 ⟨rfl, hb1⟩
          rw [HK.out]
          have hown3 := owns_below hown2 (Nat.le_refl _) hb1
          have hit3 : w1.heap[w.heap.size]? = some (.stringIter s (pos + m)) := (hb1.block w.heap.size hszW).trans hit2
          have hbel3 : Below w.heap.size w w1 := hbel2.trans (hb1.mono (by omega))
          have hsz3 : w.heap.size < w1.heap.size := Nat.lt_of_lt_of_le hszW hb1.size
          clear hown2 hit2 hbel2 hb1 hnext
          go_wp2_with (at_builtin; refine wpList_append_own _ rfl (.tmp 29) (.tmp 32) 112 rfl (w.heap.size + 1) 3 i0 (.int .i64 0) 1 8 Tryz.underlying112 Hi.out Hz0.out Hz1.out Hz2.out rfl (by decide) _ acc.length (intCells acc) rfl (hown3.alloc _) ⟨_, 0, none⟩ 1 1 [.int .i64 65533] rfl rfl (one_cell _ _ _) (one_one _) ?c3 ?c4 ?c5 ?_)
          case c3 => unfold maxLen; omega
          case c4 => omega
          case c5 => first | omega | (simp; omega)
          intro v' w2 hown' hgrow _
          have hbel4 : Below w.heap.size w w2 := own_grown1 (hown3.alloc _) (hbel3.alloc hbel3.size _) (Nat.le_succ _) hgrow (by simp; omega)
          have hit4 : w2.heap[w.heap.size]? = some (.stringIter s (pos + m)) := iter_kept (hown3.alloc _) (Nat.lt_succ_self _) hgrow (by rw [Below.heap_alloc _ _ _ hsz3]; exact hit3)
          have hown4 : w2.ownsRow (w.heap.size + 1) 3 1 v' (acc ++ [(65533 : Int)]).length (intCells (acc ++ [(65533 : Int)])) := by
            rw [List.length_append]
            have e2 : intCells (acc ++ [(65533 : Int)]) = intCells acc ++ [.int .i64 65533] := by simp [intCells]
            rw [e2]
            exact hown'
          clear hown' hgrow hown3 hbel3 hit3 HT2
          go_wp2
          go_roundw
          case rel => exact ⟨pos + m, pos + K, acc ++ [(65533 : Int)], by omega, by simp; omega, by omega, by go_num, hown4, hit4, hbel4, Hacc2, Hsp2⟩
          case measure =>
            simp only [World.iterPos, hit4, hit]
            omega
        · have hg := Hgood.out hr
          rw [hg] at hA
          simp only at hA
          have Hacc2 : Hid ((acc ++ [(r : Int)]) ++ signsAt s (max (pos + m) nx) = signsL s) := by
            show _ = _
            rw [show max (pos + m) nx = pos + m by omega, ← hA]
            simp
          have Hsp2 : Hid (∀ j, pos + m ≤ j → j < nx → 128 ≤ bN s j ∧ bN s j ≤ 191) := fun j h1 h2 => by omega
          have hr2 : ((r : Int) == 65533) = false := by rw [beq_eq_false_iff_ne]; omega
          have hrl : (r : Int) ≤ 1114111 := by omega
          clear Hacc Hsp Hgood Hbad Hgm Hst Hbeh hA hg hr
          go_wp2_with (at_builtin; refine wpList_append_own _ rfl (.tmp 29) (.tmp 32) 112 rfl (w.heap.size + 1) 3 i0 (.int .i64 0) 1 8 Tryz.underlying112 Hi.out Hz0.out Hz1.out Hz2.out rfl (by decide) _ acc.length (intCells acc) rfl (hown2.alloc _) ⟨_, 0, none⟩ 1 1 [.int .i64 (r : Int)] rfl rfl (one_cell _ _ _) (one_one _) ?c3 ?c4 ?c5 ?_)
          case c3 => unfold maxLen; omega
          case c4 => omega
          case c5 => first | omega | (simp; omega)
          intro v' w2 hown' hgrow _
          have hbel4 : Below w.heap.size w w2 := own_grown1 (hown2.alloc _) (hbel2.alloc hbel2.size _) (Nat.le_succ _) hgrow (by simp; omega)
          have hit4 : w2.heap[w.heap.size]? = some (.stringIter s (pos + m)) := iter_kept (hown2.alloc _) (Nat.lt_succ_self _) hgrow (by rw [Below.heap_alloc _ _ _ hszW]; exact hit2)
          have hown4 : w2.ownsRow (w.heap.size + 1) 3 1 v' (acc ++ [(r : Int)]).length (intCells (acc ++ [(r : Int)])) := by
            rw [List.length_append]
            have e2 : intCells (acc ++ [(r : Int)]) = intCells acc ++ [.int .i64 (r : Int)] := by simp [intCells]
            rw [e2]
            exact hown'
          clear hown' hgrow hown2 hbel2 hit2 hnext
          go_wp2
          go_roundw
          case rel => exact ⟨pos + m, nx, acc ++ [(r : Int)], by omega, by simp; omega, hnx, rfl, hown4, hit4, hbel4, Hacc2, Hsp2⟩
          case measure =>
            simp only [World.iterPos, hit4, hit]
            omega
    · have hnext : ∀ ty, (Instr.next (.pointer (some ⟨w.heap.size, 0, none⟩)) true ty).run Tryz.prog wr = _ := fun ty => Lib.run_next_end_at wr w.heap.size s pos ty hit hp
      have hall : acc = signsL s := by
        rw [← Hacc.out, signsAt_end s _ (by omega), List.append_nil]
      subst hall
      clear Hacc Hsp
      obtain ⟨a, cap, rfl, ho⟩ := Owned.of_row hown
      clear hown
      go_wp2
      go_ret
      exact ⟨a, cap, rfl, ho.lower (Nat.le_succ _), hbel⟩

end Go.Proofs.YtbmmghkieolpkaaGreatDoor.Sg

namespace Go.Proofs.YtbmmghkieolpkaaGreatDoor.Sg
open Go.ChangeShapes Go.WideShapes Go.ChangeAt Go.RowKit

/-- What this dump says of a builder's type. -/
theorem bld_size : (Tryz.prog.info? 130).map (·.size) = some 2 := by kernel_rfl
theorem bld_lies : liesAt Tryz.prog Tryz.prog.depth 130 (2 / Tryz.prog.cellsOf 130) 0 130 1 = true := by kernel_rfl
theorem bld_info : (Tryz.prog.info? 5).map (fun i => (i.zero, i.size, i.bytes)) = some (some (.int .u8 0), 1, 1) := by kernel_rfl

set_option maxHeartbeats 1000000 in
set_option maxRecDepth 100000 in
/-- A builder that has been written to stays as it is. -/
theorem checkUsed (b : Nat) (w : World) (h0 : w.cell? ⟨b, 0, none⟩ = some (.pointer (some ⟨b, 0, none⟩))) :
    Calls Tryz.prog 130 #[.pointer (some ⟨b, 0, none⟩)] w fun e w' => e = .returned (.tuple #[]) ∧ w' = w := by
  obtain ⟨j, hj, _⟩ := Option.map_eq_some_iff.1 bld_size
  go_enter Tryz.func130, Tryz.ntmps130
  go_wp2
  rw [Lib.run_neq_ptr_same w _ Tryz.underlying128 hj]
  go_wp2
  go_end0
  exact ⟨rfl, rfl⟩

set_option maxHeartbeats 1000000 in
set_option maxRecDepth 100000 in
/-- A new one is marked with its own address. -/
theorem checkFresh (b : Nat) (w : World) (h0 : w.cell? ⟨b, 0, none⟩ = some (.pointer none)) (hsh : w.shape? b = some (130, 2)) (hfz : w.frozen? ⟨b, 0, none⟩ = false) :
    Calls Tryz.prog 130 #[.pointer (some ⟨b, 0, none⟩)] w fun e w' => e = .returned (.tuple #[]) ∧ w' = w.setCell ⟨b, 0, none⟩ (.pointer (some ⟨b, 0, none⟩)) := by
  obtain ⟨j, hj, hjs⟩ := Option.map_eq_some_iff.1 bld_size
  go_enter Tryz.func130, Tryz.ntmps130
  go_wp2
  rw [Lib.run_to_unsafe w ⟨b, 0, none⟩ Tryz.underlying128 Tryz.underlying175 hj (by rw [hjs]; decide) hsh (Nat.zero_lt_succ 1)]
  simp only [Result.andThen]
  rw [Oper.upon_value]
  go_wp2
  rw [run_callFunc_extern Tryz.func158 (by kernel_rfl) (by kernel_rfl) (by kernel_rfl) (e := Extern.AbiNoEscape.same) (by kernel_rfl)]
  rw [Lib.run_noEscape]
  simp only [Result.andThen]
  rw [Oper.upon_value]
  go_wp2
  rw [Lib.run_from_unsafe w ⟨b, 0, none⟩ Tryz.underlying175 Tryz.underlying128 hj hsh bld_lies]
  simp only [Result.andThen]
  rw [Oper.upon_value]
  go_wp2
  go_end0
  exact ⟨rfl, rfl⟩

theorem checkAny (B b : Nat) (bs : List Value) (w : World) (h : Lib.IsBuilderF 130 5 B b bs w) :
    Calls Tryz.prog 130 #[.pointer (some ⟨b, 0, none⟩)] w fun e w' => e = .returned (.tuple #[]) ∧
      Lib.BuilderAtF 130 5 B b (.pointer (some ⟨b, 0, none⟩)) bs w' ∧ Below B w w' ∧ Lib.OthersKept 5 (some b) w w' := by
  rcases h with h | h
  · refine (checkFresh b w h.cell0 h.shape h.frozen0).mono ?_
    rintro e w' ⟨rfl, rfl⟩
    exact ⟨rfl, h.used _, (Below.refl B w).setCell (p := ⟨b, 0, none⟩) h.1 _, (Lib.OthersKept.refl _ _ w).setCell ⟨b, 0, none⟩ rfl _⟩
  · refine (checkUsed b w h.cell0).mono ?_
    rintro e w' ⟨rfl, rfl⟩
    exact ⟨rfl, h, Below.refl B _, Lib.OthersKept.refl _ _ _⟩

set_option maxHeartbeats 2000000 in
set_option maxRecDepth 100000 in
theorem writeString (B b : Nat) (bs : List Value) (s : ByteArray) (w : World) (h : Lib.IsBuilderF 130 5 B b bs w) (hlen : bs.length + s.size ≤ 140737488355328) (hBw : B ≤ w.heap.size) :
    Calls Tryz.prog 109 #[.pointer (some ⟨b, 0, none⟩), .string s] w fun e w' => e = .returned (.tuple #[.int .i64 s.size, .nilIface]) ∧
      Lib.BuilderAtF 130 5 B b (.pointer (some ⟨b, 0, none⟩)) (bs ++ Lib.strCells s) w' ∧ Below B w w' ∧ Lib.OthersKept 5 (some b) w w' := by
  obtain ⟨i0, hi, hz0, hz1, hz2⟩ := info_parts bld_info
  go_enter Tryz.func109, Tryz.ntmps109
  go_wp2_with fail
  refine (checkAny B b bs _ h).mono ?_
  rintro e w1 ⟨rfl, ⟨hB, v, hbk, hown, hne⟩, hb1, hk1⟩
  have hlt : b < w1.heap.size := (Array.getElem?_eq_some_iff.1 hbk).1
  have c0 : w1.cell? ⟨b, 0, none⟩ = some (.pointer (some ⟨b, 0, none⟩)) := by rw [Lib.cell_of_heap hbk]; rfl
  have c1 : w1.cell? ⟨b, 1, none⟩ = some v := by rw [Lib.cell_of_heap hbk]; rfl
  go_wp2_with (at_builtin; refine Lib.wpList_append_own_stringF _ rfl _ _ 78 9 rfl B 5 i0 Tryz.underlying78 Tryz.underlying9 hi hz0 hz1 hz2 _ _ _ rfl hown s rfl ?c3 ?c4 ?c5 ?_)
  case c3 => unfold maxLen; omega
  case c4 => omega
  case c5 => have := hb1.size; omega
  intro v' w2 hown' hgrow _
  have hb2 : w2.heap[b]? = some (.cells #[.pointer (some ⟨b, 0, none⟩), v] 130 (0, 0)) := (hgrow.block b hlt (fun e => hne e.symm)).trans hbk
  have d1 : w2.cell? ⟨b, 1, none⟩ = some v := by rw [Lib.cell_of_heap hb2]; rfl
  have f1 : w2.frozen? ⟨b, 1, none⟩ = false := Lib.frozen_of_heap hb2 1
  obtain ⟨ao, n', cap, rfl⟩ : ∃ ao n' cap, v' = .slice ao n' cap := by
    rcases hown'.2 with ⟨hv, _⟩ | ⟨g, cap, cur, fz, hv, _⟩
    · exact ⟨_, _, _, hv⟩
    · exact ⟨_, _, _, hv⟩
  clear hi hz0 hz1 hz2
  go_wp2
  go_ret2
  refine ⟨rfl, ?_, ?_, (hk1.grown hgrow (Lib.ownsRowF_kind hown)).setCell ⟨b, 1, none⟩ rfl _⟩
  · exact Lib.BuilderAtF.put (T := 130) (e := 5) hB hb2 (bs' := bs ++ Lib.strCells s) (by rw [List.length_append, Lib.strCells_length]; exact hown') (by decide)
  · exact (hb1.grown hgrow (by have := hb1.size; omega) (fun k hk => (hown.lt k hk).1)).setCell (p := ⟨b, 1, none⟩) hB _


end Go.Proofs.YtbmmghkieolpkaaGreatDoor.Sg

namespace Go.Proofs.YtbmmghkieolpkaaGreatDoor.Sg
open Go.ChangeShapes Go.WideShapes Go.ChangeAt Go.RowKit

set_option maxHeartbeats 1000000 in
theorem implSignText (zs : List Int) (a : Option Addr) (ca : Nat) (w : World) (ha : Ints w a zs) (hn : zs.length ≤ 17592186044416) :
    Calls Tryz.prog 179 #[.slice a zs.length ca] w fun e w' => e = .returned (.string (textS zs)) ∧ Below w.heap.size w w' := by
  generalize hlen : zs.length = n at *
  have Hlen : Hid (zs.length = n) := hlen
  clear hlen
  go_enter Tryz.func179, Tryz.ntmps179
  go_wp2
  go_loopw [8] (fun i wr => ∃ k : Nat, k ≤ n ∧ i = .int .i64 k ∧ Lib.IsBuilderF 130 5 w.heap.size w.heap.size (Lib.byteCells (sgBytes (zs.take k))) wr ∧ Below w.heap.size w wr) (fun i _ => n - (intOf i).toNat)
  case atStart => exact ⟨0, Nat.zero_le _, rfl, Lib.IsBuilderF.of (Lib.fresh_isBuilder 130 5 w), (Below.refl _ _).alloc (Nat.le_refl _) _⟩
  case round =>
    obtain ⟨k, hk, rfl, hI, hbel⟩ := hrel
    by_cases hlt : k < n
    · rcases ha with ha | ⟨ba, oa, rfl, hba, hca⟩
      · have := Hlen.out
        rw [ha] at this
        simp at this
        omega
      have hca' := hca k (by rw [Hlen.out]; exact hlt)
      have h1 : wr.cell? ⟨ba, oa + k, none⟩ = some (.int .i64 (zs.getD k 0)) := (hbel.cell (by exact hba)).trans hca'
      have hst := sgBytes_take zs k (by rw [Hlen.out]; exact hlt)
      have hle := sgBytes_length (zs.take k)
      have hle2 : (zs.take k).length ≤ k := List.length_take_le _ _
      clear hca hca'
      have hps := putS_size (zs.getD k 0)
      generalize hz : zs.getD k 0 = z at *
      clear hz
      have Hst : Hid (sgBytes (zs.take (k + 1)) = sgBytes (zs.take k) ++ (putS z).data.toList) := hst
      clear hst
      generalize hacc : sgBytes (zs.take k) = acc at *
      clear hacc
      go_wp2_with fail
      refine (implPutSign z _).mono ?_
      rintro e w1 ⟨rfl, rfl⟩
      go_wp2_with fail
      refine (writeString w.heap.size w.heap.size (Lib.byteCells acc) (putS z) _ hI ?_ hbel.size).mono ?_
      · rw [Lib.byteCells_length]
        omega
      rintro e w2 ⟨rfl, hI2, hb2, _⟩
      have hI3 : Lib.IsBuilderF 130 5 w.heap.size w.heap.size (Lib.byteCells (sgBytes (zs.take (k + 1)))) w2 := by
        rw [Hst.out]
        have e2 : Lib.byteCells (acc ++ (putS z).data.toList) = Lib.byteCells acc ++ Lib.strCells (putS z) := by simp [Lib.byteCells, Lib.strCells]
        rw [e2]
        exact .inr hI2
      have hbel2 := hbel.trans hb2
      clear hI hI2 hb2 hbel
      go_wp2
      go_roundw
      case rel => exact ⟨k + 1, by omega, by go_num, hI3, hbel2⟩
      case measure => simp [intOf]; omega
    · have hkn : k = n := by omega
      subst hkn
      have hall : zs.take k = zs := List.take_of_length_le (by rw [Hlen.out]; exact Nat.le_refl _)
      rw [hall] at hI
      clear hall
      go_wp2_with fail
      refine (Tryz.Builder_String_any_k w.heap.size w.heap.size (sgBytes zs) _ hI hbel.size).mono ?_
      rintro e w2 ⟨rfl, _, hb2, _⟩
      go_wp2
      go_ret
      exact ⟨rfl, hbel.trans hb2⟩

end Go.Proofs.YtbmmghkieolpkaaGreatDoor.Sg

namespace Go.Proofs.YtbmmghkieolpkaaGreatDoor.Sg
open Go.ChangeShapes Go.WideShapes Go.ChangeAt Go.RowKit

/-- A text with its signs written anew. -/
def cleanS (s : ByteArray) : ByteArray := textS (signsL s)

set_option maxHeartbeats 1000000 in
theorem specClean (s : ByteArray) (w : World) (hs : s.size ≤ 17592186044416) :
    Calls Tryz.prog 112 #[.string s] w fun e w' => e = .returned (.string (cleanS s)) ∧ Below w.heap.size w w' := by
  have hn := signsL_length s
  go_enter Tryz.func112, Tryz.ntmps112
  go_wp2_with fail
  refine (specSigns s _ hs).mono ?_
  rintro e w1 ⟨a, cap, rfl, o1, b1⟩
  go_wp2_with fail
  refine (specSignText (signsL s) a cap _ o1.ints (by omega)).mono ?_
  rintro e w2 ⟨rfl, b2⟩
  go_wp2_with fail
  go_ret
  exact ⟨rfl, b1.trans (b2.mono b1.size)⟩

set_option maxHeartbeats 1000000 in
theorem implClean (s : ByteArray) (w : World) (hs : s.size ≤ 17592186044416) (hT : Lib.Utf8Tabs 2 3 w) :
    Calls Tryz.prog 173 #[.string s] w fun e w' => e = .returned (.string (cleanS s)) ∧ Below w.heap.size w w' := by
  have hn := signsL_length s
  have HT : Hid (Lib.Utf8Tabs 2 3 w) := hT
  clear hT
  go_enter Tryz.func173, Tryz.ntmps173
  go_wp2_with fail
  refine (implSigns s _ hs HT.out).mono ?_
  rintro e w1 ⟨a, cap, rfl, o1, b1⟩
  go_wp2_with fail
  refine (implSignText (signsL s) a cap _ o1.ints (by omega)).mono ?_
  rintro e w2 ⟨rfl, b2⟩
  go_wp2_with fail
  go_ret
  exact ⟨rfl, b1.trans (b2.mono b1.size)⟩

/-- A text is clean. -/
def cleanB (s : ByteArray) : Bool := (cleanS s).toList == s.toList

set_option maxHeartbeats 1000000 in
theorem specCleanOk (s : ByteArray) (w : World) (hs : s.size ≤ 17592186044416) :
    Calls Tryz.prog 96 #[.string s] w fun e w' => e = .returned (.bool (cleanB s)) ∧ Below w.heap.size w w' := by
  go_enter Tryz.func96, Tryz.ntmps96
  go_wp2_with fail
  refine (specClean s _ hs).mono ?_
  rintro e w1 ⟨rfl, b1⟩
  go_wp2_with fail
  go_ret
  exact ⟨rfl, b1⟩

set_option maxHeartbeats 1000000 in
theorem implCleanOk (s : ByteArray) (w : World) (hs : s.size ≤ 17592186044416) (hT : Lib.Utf8Tabs 2 3 w) :
    Calls Tryz.prog 151 #[.string s] w fun e w' => e = .returned (.bool (cleanB s)) ∧ Below w.heap.size w w' := by
  have HT : Hid (Lib.Utf8Tabs 2 3 w) := hT
  clear hT
  go_enter Tryz.func151, Tryz.ntmps151
  go_wp2_with fail
  refine (implClean s _ hs HT.out).mono ?_
  rintro e w1 ⟨rfl, b1⟩
  go_wp2_with fail
  go_ret
  exact ⟨rfl, b1⟩

end Go.Proofs.YtbmmghkieolpkaaGreatDoor.Sg

namespace Go.Proofs.YtbmmghkieolpkaaGreatDoor.Sg

/-- What is read of a number that was written. -/
def fix (z : Int) : Int := if okB z = true then z else 65533

theorem bN_list (l : List UInt8) (i : Nat) : bN ⟨l.toArray⟩ i = (l.getD i 0).toNat := by
  unfold bN
  show (l.toArray[i]!).toNat = _
  rw [getElem!_def]
  simp only [List.getElem?_toArray, List.getD_eq_getElem?_getD]
  cases l[i]? <;> rfl

theorem size_list (l : List UInt8) : (⟨l.toArray⟩ : ByteArray).size = l.length := by
  show l.toArray.size = l.length
  simp

theorem bN_mid (pre b post : List UInt8) (j : Nat) (h : j < b.length) : bN ⟨(pre ++ (b ++ post)).toArray⟩ (pre.length + j) = (b.getD j 0).toNat := by
  rw [bN_list]
  congr 1
  simp only [List.getD_eq_getElem?_getD]
  rw [List.getElem?_append_right (by omega), show pre.length + j - pre.length = j by omega, List.getElem?_append_left h]

theorem u8_of (x : Int) (_h0 : 0 ≤ x) (h1 : x < 256) : (UInt8.ofNat x.toNat).toNat = x.toNat := by
  simp
  omega

theorem putS_list (z : Int) : (putS z).data.toList = (Lib.encodeRuneZ z).map fun n => UInt8.ofNat n.toNat := by
  simp [putS, strOfNums]

/-- A sign's bytes, wherever they stand, are read as the sign. -/
theorem getS_put (z : Int) (hz : okB z = true) (pre post : List UInt8) :
    getS ⟨(pre ++ ((putS z).data.toList ++ post)).toArray⟩ pre.length = (z.toNat, (putS z).size) := by
  have hb := okB_of hz
  have hlen : (putS z).data.toList.length = (putS z).size := Array.length_toList
  have hps := putS_size z
  have hin : pre.length < (⟨(pre ++ ((putS z).data.toList ++ post)).toArray⟩ : ByteArray).size := by
    rw [size_list]
    simp only [List.length_append]
    omega
  have hsz : (⟨(pre ++ ((putS z).data.toList ++ post)).toArray⟩ : ByteArray).size - pre.length = (putS z).size + post.length := by
    rw [size_list]
    simp only [List.length_append]
    omega
  have hB := fun j h => bN_mid pre (putS z).data.toList post j h
  rw [getS_decode _ _ hin, Lib.decode_at, hsz]
  generalize hs : (⟨(pre ++ ((putS z).data.toList ++ post)).toArray⟩ : ByteArray) = s at *
  have e0 := hB 0 (by omega)
  rw [Nat.add_zero] at e0
  have n1 := bN_lt s (pre.length + 1)
  have n2 := bN_lt s (pre.length + 2)
  have n3 := bN_lt s (pre.length + 3)
  show (if Lib.decodeN _ (bN s pre.length) (bN s (pre.length + 1)) (bN s (pre.length + 2)) (bN s (pre.length + 3)) = (65533, 1) then _ else Lib.decodeN _ (bN s pre.length) (bN s (pre.length + 1)) (bN s (pre.length + 2)) (bN s (pre.length + 3))) = _
  by_cases c1 : z ≤ 127
  · have hl := putS_list z
    rw [Lib.encodeRuneZ_one (by omega) c1] at hl
    rw [hl] at e0 hlen
    simp only [List.map_cons, List.map_nil, List.getD_cons_zero, List.length_cons, List.length_nil] at e0 hlen
    rw [u8_of z (by omega) (by omega)] at e0
    rw [e0, ← hlen]
    have hd : ∀ n b1 b2 b3, Lib.decodeN n z.toNat b1 b2 b3 = (z.toNat, 1) := fun n b1 b2 b3 => by
      unfold Lib.decodeN
      rw [if_pos (by omega)]
    rw [hd, if_neg (by simp; omega)]
  · by_cases c2 : z ≤ 2047
    · have hl := putS_list z
      rw [Lib.encodeRuneZ_two (by omega) c2] at hl
      have e1 := hB 1 (by rw [hl]; simp)
      rw [hl] at e0 e1 hlen
      simp only [List.map_cons, List.map_nil, List.getD_cons_zero, List.getD_cons_succ, List.length_cons, List.length_nil] at e0 e1 hlen
      rw [u8_of _ (by omega) (by omega)] at e0 e1
      rw [dec2 _ _ _ _ _ (by omega) (by omega) n1]
      have l0 : loN (bN s pre.length) = 128 := by unfold loN; rw [if_neg (by omega), if_neg (by omega)]
      have l1 : hiN (bN s pre.length) = 191 := by unfold hiN; rw [if_neg (by omega), if_neg (by omega)]
      rw [l0, l1]
      have hc : 1 < (putS z).size + post.length ∧ 128 ≤ bN s (pre.length + 1) ∧ bN s (pre.length + 1) ≤ 191 := by omega
      simp only [if_pos hc]
      rw [if_neg (by simp)]
      ext
      · simp only
        omega
      · simp only
        omega
    · by_cases c3 : z ≤ 65535
      · have hl := putS_list z
        rw [Lib.encodeRuneZ_three (by omega)] at hl
        have e1 := hB 1 (by rw [hl]; simp)
        have e2 := hB 2 (by rw [hl]; simp)
        rw [hl] at e0 e1 e2 hlen
        simp only [List.map_cons, List.map_nil, List.getD_cons_zero, List.getD_cons_succ, List.length_cons, List.length_nil] at e0 e1 e2 hlen
        rw [u8_of _ (by omega) (by omega)] at e0 e1 e2
        rw [dec3 _ _ _ _ _ (by omega) (by omega) n1 n2]
        have l : (bN s pre.length = 224 ∧ loN (bN s pre.length) = 160 ∧ hiN (bN s pre.length) = 191) ∨ (bN s pre.length = 237 ∧ loN (bN s pre.length) = 128 ∧ hiN (bN s pre.length) = 159) ∨ (bN s pre.length ≠ 224 ∧ bN s pre.length ≠ 237 ∧ loN (bN s pre.length) = 128 ∧ hiN (bN s pre.length) = 191) := by
          unfold loN hiN
          repeat' split
          all_goals omega
        have hc : (1 < (putS z).size + post.length ∧ loN (bN s pre.length) ≤ bN s (pre.length + 1) ∧ bN s (pre.length + 1) ≤ hiN (bN s pre.length)) ∧ (2 < (putS z).size + post.length ∧ 128 ≤ bN s (pre.length + 2) ∧ bN s (pre.length + 2) ≤ 191) := by omega
        simp only [if_pos hc]
        rw [if_neg (by simp)]
        ext
        · simp only
          omega
        · simp only
          omega
      · have hl := putS_list z
        rw [Lib.encodeRuneZ_four (by omega) (by omega)] at hl
        have e1 := hB 1 (by rw [hl]; simp)
        have e2 := hB 2 (by rw [hl]; simp)
        have e3 := hB 3 (by rw [hl]; simp)
        rw [hl] at e0 e1 e2 e3 hlen
        simp only [List.map_cons, List.map_nil, List.getD_cons_zero, List.getD_cons_succ, List.length_cons, List.length_nil] at e0 e1 e2 e3 hlen
        rw [u8_of _ (by omega) (by omega)] at e0 e1 e2 e3
        rw [dec4 _ _ _ _ _ (by omega) (by omega) n1 n2 n3]
        have l : (bN s pre.length = 240 ∧ loN (bN s pre.length) = 144 ∧ hiN (bN s pre.length) = 191) ∨ (bN s pre.length = 244 ∧ loN (bN s pre.length) = 128 ∧ hiN (bN s pre.length) = 143) ∨ (bN s pre.length ≠ 240 ∧ bN s pre.length ≠ 244 ∧ loN (bN s pre.length) = 128 ∧ hiN (bN s pre.length) = 191) := by
          unfold loN hiN
          repeat' split
          all_goals omega
        have hc : (1 < (putS z).size + post.length ∧ loN (bN s pre.length) ≤ bN s (pre.length + 1) ∧ bN s (pre.length + 1) ≤ hiN (bN s pre.length)) ∧ (2 < (putS z).size + post.length ∧ 128 ≤ bN s (pre.length + 2) ∧ bN s (pre.length + 2) ≤ 191) ∧ (3 < (putS z).size + post.length ∧ 128 ≤ bN s (pre.length + 3) ∧ bN s (pre.length + 3) ≤ 191) := by omega
        simp only [if_pos hc]
        rw [if_neg (by simp)]
        ext
        · simp only
          omega
        · simp only
          omega

theorem putS_fix (z : Int) : putS (fix z) = putS z := by
  unfold fix
  cases h : okB z
  · rw [if_neg (by simp)]
    exact (putS_bad h).symm
  · rw [if_pos rfl]

theorem fix_ok (z : Int) : okB (fix z) = true := by
  unfold fix
  cases h : okB z
  · rw [if_neg (by simp)]
    decide
  · rw [if_pos rfl]
    exact h

theorem sgBytes_fix (zs : List Int) : sgBytes (zs.map fix) = sgBytes zs := by
  unfold sgBytes
  rw [List.flatMap_map]
  congr 1
  funext z
  rw [putS_fix]

theorem signsAt_text (zs : List Int) : ∀ pre : List UInt8, signsAt ⟨(pre ++ sgBytes zs).toArray⟩ pre.length = zs.map fix := by
  induction zs with
  | nil =>
    intro pre
    rw [signsAt_end _ _ (by rw [size_list]; simp [sgBytes])]
    rfl
  | cons z zs ih =>
    intro pre
    have hcons : sgBytes (z :: zs) = (putS z).data.toList ++ sgBytes zs := by simp [sgBytes]
    have hps := putS_size z
    have hlen : (putS z).data.toList.length = (putS z).size := Array.length_toList
    have hg := getS_put (fix z) (fix_ok z) pre (sgBytes zs)
    rw [putS_fix] at hg
    rw [hcons]
    have hin : pre.length < (⟨(pre ++ ((putS z).data.toList ++ sgBytes zs)).toArray⟩ : ByteArray).size := by
      rw [size_list]
      simp only [List.length_append]
      omega
    rw [signsAt_step _ _ hin, hg]
    have ih2 := ih (pre ++ (putS z).data.toList)
    rw [List.append_assoc, List.length_append, hlen] at ih2
    rw [ih2]
    have h0 : 0 ≤ fix z := (okB_of (fix_ok z)).1
    simp only [List.map_cons]
    rw [Int.toNat_of_nonneg h0]

/-- Signs that are written are read as they were. -/
theorem signs_text (zs : List Int) : signsL (textS zs) = zs.map fix := signsAt_text zs []

theorem clean_text (zs : List Int) : cleanS (textS zs) = textS zs := by
  unfold cleanS
  rw [signs_text]
  unfold textS
  rw [sgBytes_fix]

theorem cleanB_text (zs : List Int) : cleanB (textS zs) = true := by
  unfold cleanB
  rw [clean_text]
  simp

theorem cleanB_clean (s : ByteArray) : cleanB (cleanS s) = true := cleanB_text _
theorem clean_clean (s : ByteArray) : cleanS (cleanS s) = cleanS s := clean_text _

end Go.Proofs.YtbmmghkieolpkaaGreatDoor.Sg

namespace Go.Proofs.YtbmmghkieolpkaaGreatDoor.Sg

/-- A number lies in a span. -/
def inP (n : Int) (p : Int × Int) : Bool := decide (p.1 ≤ n ∧ n ≤ p.2)
/-- A number lies in one of some spans. -/
def withinB (l : List (Int × Int)) (n : Int) : Bool := l.any (inP n)

def blankB (n : Int) : Bool := decide (n = 9 ∨ n = 10 ∨ n = 12 ∨ n = 13 ∨ n = 32)
def letterL : List (Int × Int) := [(65, 90), (97, 122)]
def letterB (n : Int) : Bool := withinB letterL n
def firstR : List (Int × Int) := [(192, 214), (216, 246), (248, 767), (880, 893), (895, 8191), (8204, 8205), (8304, 8591), (11264, 12271), (12289, 55295), (63744, 64975), (65008, 65533), (65536, 983039)]
def firstL : List (Int × Int) := (95, 95) :: firstR
def firstB (n : Int) : Bool := letterB n || withinB firstL n
def nextR : List (Int × Int) := [(48, 57), (768, 879), (8255, 8256)]
def nextL : List (Int × Int) := [(45, 46), (48, 57), (183, 183), (768, 879), (8255, 8256)]
def nextB (n : Int) : Bool := firstB n || withinB nextL n

/-- The span in which a number lies first; the one of two noughts where it lies in none. -/
def spanS : List (Int × Int) → Int → Int × Int
  | [], _ => (0, 0)
  | p :: l, n => if inP n p then p else spanS l n

theorem spanS_any (l : List (Int × Int)) (n : Int) (h : ∀ p ∈ l, p ≠ (0, 0)) : (!decide (spanS l n = (0, 0))) = withinB l n := by
  induction l with
  | nil => rfl
  | cons p l ih =>
    have ih' := ih fun q hq => h q (List.mem_cons_of_mem _ hq)
    have hp := h p List.mem_cons_self
    unfold spanS withinB
    rw [List.any_cons]
    cases hi : inP n p
    · simp only [Bool.false_or]
      exact ih'
    · simp [hp]

theorem spanS_drop (l : List (Int × Int)) (n : Int) (k : Nat) (hk : k < l.length) : spanS (l.drop k) n = if inP n (l.getD k (0, 0)) then l.getD k (0, 0) else spanS (l.drop (k + 1)) n := by
  rw [List.drop_eq_getElem_cons hk]
  unfold spanS
  simp [hk]
  cases l.drop (k + 1) <;> simp [spanS]

theorem within_drop (l : List (Int × Int)) (n : Int) (k : Nat) (hk : k < l.length) : withinB (l.drop k) n = (inP n (l.getD k (0, 0)) || withinB (l.drop (k + 1)) n) := by
  rw [List.drop_eq_getElem_cons hk]
  unfold withinB
  rw [List.any_cons]
  simp [hk]

theorem first_split (n : Int) : firstB n = (letterB n || decide (n = 95) || withinB firstR n) := by
  unfold firstB firstL
  rw [Bool.or_assoc]
  congr 1
  unfold withinB
  rw [List.any_cons]
  congr 1
  unfold inP
  simp only
  congr 1
  apply propext
  omega

theorem next_split (n : Int) : nextB n = (firstB n || decide (n = 45) || decide (n = 46) || decide (n = 183) || withinB nextR n) := by
  unfold nextB nextL withinB nextR inP
  simp only [List.any_cons, List.any_nil, Bool.or_false, Bool.or_assoc]
  congr 1
  rw [Bool.eq_iff_iff]
  simp only [Bool.or_eq_true, decide_eq_true_eq]
  omega

end Go.Proofs.YtbmmghkieolpkaaGreatDoor.Sg

namespace Go.Proofs.YtbmmghkieolpkaaGreatDoor.Sg
open Go.ChangeShapes Go.WideShapes Go.ChangeAt Go.RowKit

set_option maxHeartbeats 1000000 in
theorem l1In_kd (n lo hi : Int) (w : World) :
    Calls Tryz.prog 69 #[.int .i64 n, .int .i64 lo, .int .i64 hi] w fun e w' => e = .returned (.bool (inP n (lo, hi))) ∧ w' = w := by
  by_cases h1 : lo ≤ n
  · by_cases h2 : n ≤ hi
    · have ho : inP n (lo, hi) = true := decide_eq_true ⟨h1, h2⟩
      rw [ho]
      go_enter Tryz.func69, Tryz.ntmps69
      go_wp2
      go_ret
      exact ⟨rfl, rfl⟩
    · have ho : inP n (lo, hi) = false := decide_eq_false fun h => h2 h.2
      rw [ho]
      go_enter Tryz.func69, Tryz.ntmps69
      go_wp2
      go_ret
      exact ⟨rfl, rfl⟩
  · have ho : inP n (lo, hi) = false := decide_eq_false fun h => h1 h.1
    rw [ho]
    go_enter Tryz.func69, Tryz.ntmps69
    go_wp2
    go_ret
    exact ⟨rfl, rfl⟩

theorem same_below {B : Nat} {a w w' : World} (h : w' = w) (b : Below B a w) : Below B a w' := h ▸ b

theorem six (n : Int) : n = 9 ∨ n = 10 ∨ n = 12 ∨ n = 13 ∨ n = 32 ∨ (n ≠ 9 ∧ n ≠ 10 ∧ n ≠ 12 ∧ n ≠ 13 ∧ n ≠ 32) := by omega


end Go.Proofs.YtbmmghkieolpkaaGreatDoor.Sg

namespace Go.Proofs.YtbmmghkieolpkaaGreatDoor.Sg
open Go.ChangeShapes Go.WideShapes Go.ChangeAt Go.RowKit

def textB (n : Int) : Bool := decide (n = 9 ∨ n = 10 ∨ n = 13 ∨ (okB n = true ∧ 32 ≤ n ∧ n ≠ 65534 ∧ n ≠ 65535))

theorem sixT (n : Int) : n = 9 ∨ n = 10 ∨ n = 13 ∨ n = 65534 ∨ n = 65535 ∨ (n ≠ 9 ∧ n ≠ 10 ∧ n ≠ 13 ∧ n ≠ 65534 ∧ n ≠ 65535) := by omega

set_option maxHeartbeats 1000000 in
theorem implIsText (n : Int) (w : World) :
    Calls Tryz.prog 129 #[.int .i64 n] w fun e w' => e = .returned (.bool (textB n)) ∧ w' = w := by
  rcases sixT n with rfl | rfl | rfl | rfl | rfl | ⟨h1, h2, h3, h4, h5⟩
  iterate 5
    · go_enter Tryz.func129, Tryz.ntmps129
      go_wp2
      go_ret
      exact ⟨rfl, rfl⟩
  have g1 : (n == 9) = false := beq_false_of_ne h1
  have g2 : (n == 10) = false := beq_false_of_ne h2
  have g3 : (n == 13) = false := beq_false_of_ne h3
  have g4 : (n == 65534) = false := beq_false_of_ne h4
  have g5 : (n == 65535) = false := beq_false_of_ne h5
  by_cases h6 : (32 : Int) ≤ n
  · have ho : textB n = okB n := by
      unfold textB
      cases hk : okB n
      · exact decide_eq_false (by simp [h1, h2, h3])
      · exact decide_eq_true (.inr (.inr (.inr ⟨rfl, h6, h4, h5⟩)))
    rw [ho]
    clear h1 h2 h3 h4 h5 ho
    go_enter Tryz.func129, Tryz.ntmps129
    go_wp2_with fail
    refine (implSignOk n _).mono ?_
    rintro e w1 ⟨rfl, rfl⟩
    go_wp2
    go_ret
    exact ⟨rfl, rfl⟩
  · have ho : textB n = false := decide_eq_false (by simp [h1, h2, h3, h6])
    rw [ho]
    clear h1 h2 h3 h4 h5 ho
    go_enter Tryz.func129, Tryz.ntmps129
    go_wp2
    go_ret
    exact ⟨rfl, rfl⟩

set_option maxHeartbeats 1000000 in
theorem specIsText (n : Int) (w : World) :
    Calls Tryz.prog 94 #[.int .i64 n] w fun e w' => e = .returned (.bool (textB n)) ∧ w' = w := by
  by_cases h123 : n = 9 ∨ n = 10 ∨ n = 13
  · rcases h123 with rfl | rfl | rfl
    iterate 3
      · go_enter Tryz.func94, Tryz.ntmps94
        go_wp2
        go_ret
        exact ⟨rfl, rfl⟩
  have h1 : n ≠ 9 := fun h => h123 (.inl h)
  have h2 : n ≠ 10 := fun h => h123 (.inr (.inl h))
  have h3 : n ≠ 13 := fun h => h123 (.inr (.inr h))
  have g1 : (n == 9) = false := beq_false_of_ne h1
  have g2 : (n == 10) = false := beq_false_of_ne h2
  have g3 : (n == 13) = false := beq_false_of_ne h3
  clear h123
  cases hk : okB n
  · have ho : textB n = false := decide_eq_false (by simp [h1, h2, h3, hk])
    rw [ho]
    have Hk : Hid (okB n = false) := hk
    clear h1 h2 h3 ho hk
    go_enter Tryz.func94, Tryz.ntmps94
    go_wp2_with fail
    refine (specSignOk n _).mono ?_
    rintro e w1 ⟨rfl, rfl⟩
    rw [Hk.out]
    go_wp2
    go_ret
    exact ⟨rfl, rfl⟩
  · have ho : textB n = decide (32 ≤ n ∧ n ≠ 65534 ∧ n ≠ 65535) := by
      unfold textB
      congr 1
      simp [h1, h2, h3, hk]
    rw [ho]
    have Hk : Hid (okB n = true) := hk
    clear h1 h2 h3 ho hk
    by_cases h6 : (32 : Int) ≤ n
    · by_cases h4 : n = 65534
      · subst h4
        go_enter Tryz.func94, Tryz.ntmps94
        go_wp2_with fail
        refine (specSignOk _ _).mono ?_
        rintro e w1 ⟨rfl, rfl⟩
        rw [Hk.out]
        go_wp2
        go_ret
        exact ⟨rfl, rfl⟩
      · have g4 : (n == 65534) = false := beq_false_of_ne h4
        by_cases h5 : n = 65535
        · subst h5
          go_enter Tryz.func94, Tryz.ntmps94
          go_wp2_with fail
          refine (specSignOk _ _).mono ?_
          rintro e w1 ⟨rfl, rfl⟩
          rw [Hk.out]
          go_wp2
          go_ret
          exact ⟨rfl, rfl⟩
        · have g5 : (n == 65535) = false := beq_false_of_ne h5
          rw [show decide (32 ≤ n ∧ n ≠ 65534 ∧ n ≠ 65535) = true from decide_eq_true ⟨h6, h4, h5⟩]
          clear g4 g5
          have g4 : decide (n = 65534) = false := decide_eq_false h4
          have g5 : decide (n = 65535) = false := decide_eq_false h5
          have g6 : (n != 65534) = true := by simp [h4]
          have g7 : (n != 65535) = true := by simp [h5]
          go_enter Tryz.func94, Tryz.ntmps94
          go_wp2_with fail
          refine (specSignOk _ _).mono ?_
          rintro e w1 ⟨rfl, rfl⟩
          rw [Hk.out]
          go_wp2
          go_ret
          exact ⟨rfl, rfl⟩
    · rw [show decide (32 ≤ n ∧ n ≠ 65534 ∧ n ≠ 65535) = false from decide_eq_false fun h => h6 h.1]
      go_enter Tryz.func94, Tryz.ntmps94
      go_wp2_with fail
      refine (specSignOk _ _).mono ?_
      rintro e w1 ⟨rfl, rfl⟩
      rw [Hk.out]
      go_wp2
      go_ret
      exact ⟨rfl, rfl⟩

end Go.Proofs.YtbmmghkieolpkaaGreatDoor.Sg
