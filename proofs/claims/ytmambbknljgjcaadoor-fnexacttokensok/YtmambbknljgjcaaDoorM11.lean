/- Contracts of Signs, of the program and of the model: both give the signs of a text in memory of their own. The program's Signs gives the signs of a text in memory of its own. Contracts of Clean and CleanOk, of the program and of the model. -/
import Derived.Test.YtmambbknljgjcaaDoorSgSignsP
import Derived.Test.YtmambbknljgjcaaDoorM09
import Derived.Test.YtmambbknljgjcaaDoorM10
import Derived.Test.YtmambbknljgjcaaDoorSgInts
import Derived.Lib.OthersKept
import Derived.Laws.AppendOwn
import Derived.WalkSmall
import Derived.Test.YtmambbknljgjcaaDoorSgTextI
namespace Go.Proofs.YtmambbknljgjcaaDoor.Sg
open Go.ChangeShapes Go.WideShapes Go.ChangeAt Go.RowKit

def intCells (zs : List Int) : List Value := zs.map (Value.int .i64)

/-- A slice of ints in memory of the call's own, from block B on. -/
def Owned (w : World) (B : Nat) (a : Option Addr) (cap : Nat) (zs : List Int) : Prop :=
  (a = none ∧ zs = [] ∧ cap = 0) ∨ ∃ g cur, a = some ⟨g, 0, none⟩ ∧ B ≤ g ∧ w.heap[g]? = some (.cells cur 3 (0, 0)) ∧ zs.length ≤ cap ∧ cur.size = cap ∧ cur.toList.take zs.length = intCells zs

theorem Owned.of_row {w : World} {B : Nat} {v : Value} {zs : List Int} (h : w.ownsRow B 3 1 v zs.length (intCells zs)) : ∃ a cap, v = .slice a zs.length cap ∧ Owned w B a cap zs := by
  obtain ⟨h1, h2⟩ := h
  rcases h2 with ⟨rfl, h2⟩ | ⟨g, cap, cur, rfl, h3, h4, h5, h6, h7, h8⟩
  · have : zs = [] := List.eq_nil_of_length_eq_zero h2
    subst this
    exact ⟨none, 0, rfl, .inl ⟨rfl, rfl, rfl⟩⟩
  · exact ⟨_, _, rfl, .inr ⟨g, cur, rfl, h3, h4, h5, by simpa using h7, by simpa using h8⟩⟩

theorem Owned.ints {w : World} {B : Nat} {a : Option Addr} {cap : Nat} {zs : List Int} (h : Owned w B a cap zs) : Ints w a zs := by
  rcases h with ⟨_, h, _⟩ | ⟨g, cur, ha, hB, hb, hl, hc, ht⟩
  · exact .inl h
  · refine .inr ⟨g, 0, ha, (Array.getElem?_eq_some_iff.1 hb).1, fun i hi => ?_⟩
    have h9 : (cur.toList.take zs.length)[i]? = (intCells zs)[i]? := by rw [ht]
    rw [List.getElem?_take_of_lt hi] at h9
    have hc : cur[i]? = some (.int .i64 (zs.getD i 0)) := by simpa [intCells, hi] using h9
    rw [Nat.zero_add]
    simp [World.cell?, hb, hc]

theorem Owned.below {w w' : World} {B : Nat} {a : Option Addr} {cap : Nat} {zs : List Int} (h : Owned w B a cap zs) {B' : Nat} (hB : w.heap.size ≤ B') (hb : Below B' w w') : Owned w' B a cap zs := by
  rcases h with h | ⟨g, cur, ha, hB, hg, h⟩
  · exact .inl h
  · have hlt : g < w.heap.size := (Array.getElem?_eq_some_iff.1 hg).1
    exact .inr ⟨g, cur, ha, hB, (hb.block g (by omega)).trans hg, h⟩

theorem own_grown1 {w w2 : World} {B : Nat} {e : TypeId} {v : Value} {n : Nat} {xs : List Value} {B0 : Nat} {w0 : World} (hown : w.ownsRow B e 1 v n xs) (hb : Below B0 w0 w) (hB : B0 ≤ B) (hg : w.grownBy w2 v.ownBlock) (hsz : B0 ≤ w.heap.size) : Below B0 w0 w2 :=
  hb.grown hg hsz (by
    intro r hr
    obtain ⟨_, h⟩ := hown
    rcases h with ⟨h, _⟩ | ⟨g, _, _, h, hg, _⟩
    · rw [h] at hr
      simp [Value.ownBlock] at hr
    · rw [h] at hr
      simp [Value.ownBlock] at hr
      omega)

theorem iter_kept {w w2 : World} {B k : Nat} {e : TypeId} {v : Value} {n : Nat} {xs : List Value} {o : Obj} (hown : w.ownsRow B e 1 v n xs) (hk : k < B) (hg : w.grownBy w2 v.ownBlock) (hit : w.heap[k]? = some o) : w2.heap[k]? = some o := by
  have hlt : k < w.heap.size := (Array.getElem?_eq_some_iff.1 hit).1
  refine (hg.block k hlt ?_).trans hit
  intro hr
  obtain ⟨_, h⟩ := hown
  rcases h with ⟨h, _⟩ | ⟨g, _, _, h, hg, _⟩
  · rw [h] at hr
    simp [Value.ownBlock] at hr
  · rw [h] at hr
    simp [Value.ownBlock] at hr
    omega

theorem one_cell (w : World) (z : Int) (t : TypeId) : ∀ j u, ([Value.int .i64 z])[j]? = some u → (w.alloc (.cells #[.int .i64 z] t)).cell? ((⟨w.heap.size, 0, none⟩ : Addr).add j) = some u := by
  intro j u hj
  match j, hj with
  | 0, hj => simp at hj; subst hj; simp [Addr.add]

theorem one_one (z : Int) : ∀ u ∈ [Value.int .i64 z], u.oneCell' = true := by
  intro u hu
  simp at hu
  subst hu
  rfl

set_option maxHeartbeats 1000000 in
theorem specSigns (s : ByteArray) (w : World) (hs : s.size ≤ 17592186044416) :
    Calls Tryd.prog 88 #[.string s] w fun e w' => ∃ a cap, e = .returned (.slice a (signsL s).length cap) ∧ Owned w' w.heap.size a cap (signsL s) ∧ Below w.heap.size w w' := by
  obtain ⟨i0, hi0, hz0, hz1, hz2⟩ := info_parts info_int
  have Hi : Hid (Tryd.prog.info? 3 = some i0) := hi0
  have Hz0 : Hid (i0.zero = some (.int .i64 0)) := hz0
  have Hz1 : Hid (i0.size = 1) := hz1
  have Hz2 : Hid (i0.bytes = 8) := hz2
  clear hi0 hz0 hz1 hz2
  go_enter Tryd.func88, Tryd.ntmps88
  go_wp2
  go_loopw [3, 4] (fun v i wr => ∃ (pos : Nat) (acc : List Int), pos ≤ s.size ∧ acc.length ≤ pos ∧ i = .int .i64 pos ∧ wr.ownsRow w.heap.size 3 1 v acc.length (intCells acc) ∧ Below w.heap.size w wr ∧ Hid (acc ++ signsAt s pos = signsL s)) (fun _ i _ => s.size - (intOf i).toNat)
  case atStart =>
    refine ⟨0, [], Nat.zero_le _, Nat.le_refl _, rfl, ⟨rfl, .inr ⟨w.heap.size, 0, #[], rfl, Nat.le_refl _, ?_, Nat.le_refl _, Nat.zero_le _, rfl, rfl⟩⟩, (Below.refl _ _).alloc (Nat.le_refl _) _, rfl⟩
    show (w.heap.push _)[w.heap.size]? = _
    simp
  case round =>
    obtain ⟨pos, acc, hpos, hal, rfl, hown, hbel, Hacc⟩ := hrel
    by_cases hlt : pos < s.size
    · have hgm := getS_many s pos hlt
      have hgl := getS_le s pos hlt
      have hst := signsAt_step s pos hlt
      go_wp2_with fail
      refine (specGet_in s pos _ hlt (by omega)).mono ?_
      rintro e w1 ⟨rfl, rfl⟩
      generalize hG : getS s pos = G at *
      clear hG
      obtain ⟨z, m⟩ := G
      simp only at hgm hgl hst
      have Hst : Hid (signsAt s pos = (z : Int) :: signsAt s (pos + m)) := hst
      clear hst
      go_wp2_with (at_builtin; refine wpList_append_own _ rfl (.tmp 18) (.tmp 20) 92 rfl w.heap.size 3 i0 (.int .i64 0) 1 8 Tryd.underlying92 Hi.out Hz0.out Hz1.out Hz2.out rfl (by decide) _ acc.length (intCells acc) rfl (hown.alloc _) ⟨_, 0, none⟩ 1 1 [.int .i64 (z : Int)] rfl rfl (one_cell _ _ _) (one_one _) ?c3 ?c4 ?c5 ?_)
      case c3 => unfold maxLen; omega
      case c4 => omega
      case c5 => have := hbel.size; first | omega | (simp; omega)
      intro v' w2 hown' hgrow _
      have hbel2 : Below w.heap.size w w2 := own_grown1 (hown.alloc _) (hbel.alloc hbel.size _) (Nat.le_refl _) hgrow (by have := hbel.size; simp; omega)
      have hown2 : w2.ownsRow w.heap.size 3 1 v' (acc ++ [(z : Int)]).length (intCells (acc ++ [(z : Int)])) := by
        rw [List.length_append]
        have e2 : intCells (acc ++ [(z : Int)]) = intCells acc ++ [.int .i64 (z : Int)] := by simp [intCells]
        rw [e2]
        exact hown'
      have Hacc2 : Hid ((acc ++ [(z : Int)]) ++ signsAt s (pos + m) = signsL s) := by
        show _ = _
        rw [← Hacc.out, Hst.out]
        simp
      clear hown' hgrow hown hbel Hst Hacc
      go_wp2
      go_roundw
      case rel => exact ⟨pos + m, acc ++ [(z : Int)], by omega, by simp; omega, by go_num, hown2, hbel2, Hacc2⟩
      case measure => simp [intOf]; omega
    · have hall : acc = signsL s := by
        rw [← Hacc.out, signsAt_end s pos hlt, List.append_nil]
      subst hall
      clear Hacc
      obtain ⟨a, cap, rfl, ho⟩ := Owned.of_row hown
      clear hown
      go_wp2
      go_ret
      exact ⟨a, cap, rfl, ho, hbel⟩

end Go.Proofs.YtmambbknljgjcaaDoor.Sg

namespace Go.Proofs.YtmambbknljgjcaaDoor.Sg
open Go.ChangeShapes Go.WideShapes Go.ChangeAt Go.RowKit

theorem Owned.lower {w : World} {B B' : Nat} {a : Option Addr} {cap : Nat} {zs : List Int} (h : Owned w B a cap zs) (hB : B' ≤ B) : Owned w B' a cap zs := by
  rcases h with h | ⟨g, cur, ha, hg, h⟩
  · exact .inl h
  · exact .inr ⟨g, cur, ha, by omega, h⟩

theorem decode_fit (s : ByteArray) (i : Nat) (h : i < s.size) : i + (Utf8.decode s i).2 ≤ s.size := by
  have hm := getS_many s i h
  by_cases hd : (Utf8.decode s i).1 = 65533
  · have := (getS_bad s i h hd).2.1
    omega
  · rw [← getS_good s i h hd]
    omega

set_option maxHeartbeats 2000000 in
theorem implSigns (s : ByteArray) (w : World) (hs : s.size ≤ 17592186044416) (hT : Lib.Utf8Tabs 1 2 w) :
    Calls Tryd.prog 90 #[.string s] w fun e w' => ∃ a cap, e = .returned (.slice a (signsL s).length cap) ∧ Owned w' w.heap.size a cap (signsL s) ∧ Below w.heap.size w w' := by
  obtain ⟨i0, hi0, hz0, hz1, hz2⟩ := info_parts info_int
  have Hi : Hid (Tryd.prog.info? 3 = some i0) := hi0
  have Hz0 : Hid (i0.zero = some (.int .i64 0)) := hz0
  have Hz1 : Hid (i0.size = 1) := hz1
  have Hz2 : Hid (i0.bytes = 8) := hz2
  have HT : Hid (Lib.Utf8Tabs 1 2 w) := hT
  clear hi0 hz0 hz1 hz2 hT
  go_enter Tryd.func90, Tryd.ntmps90
  go_wp2
  go_loopw [3, 4] (fun v nv wr => ∃ (pos nx : Nat) (acc : List Int), pos ≤ s.size ∧ acc.length ≤ pos ∧ nx ≤ s.size ∧ nv = .int .i64 nx ∧ wr.ownsRow (w.heap.size + 1) 3 1 v acc.length (intCells acc) ∧
    wr.heap[w.heap.size]? = some (.stringIter s pos) ∧ Below w.heap.size w wr ∧ Hid (acc ++ signsAt s (max pos nx) = signsL s) ∧ Hid (∀ j, pos ≤ j → j < nx → 128 ≤ bN s j ∧ bN s j ≤ 191)) (fun _ _ wr => s.size - wr.iterPos w.heap.size)
  case atStart =>
    refine ⟨0, 0, [], Nat.zero_le _, Nat.le_refl _, Nat.zero_le _, rfl, World.ownsRow_nil _ _ _ _, ?_, (Below.refl _ w).alloc (Nat.le_refl _) _, rfl, fun j _ h => by omega⟩
    have := World.iter_heap w s 0
    simpa using this
  case round =>
    obtain ⟨pos, nx, acc, hpos, hal, hnx, rfl, hown, hit, hbel, Hacc, Hsp⟩ := hrel
    have hsz : w.heap.size < wr.heap.size := (Array.getElem?_eq_some_iff.1 hit).1
    by_cases hp : pos < s.size
    · have hnext : ∀ ty, (Instr.next (.pointer (some ⟨w.heap.size, 0, none⟩)) true ty).run Tryd.prog wr = _ := fun ty => Lib.run_next_any_at wr w.heap.size s pos ty hit hp
      have hwd := decode_pos s pos
      have hd1 := decode_le s pos
      have hfit := decode_fit s pos hp
      have hit2 := Lib.iterAt_heap wr w.heap.size s pos (pos + (Utf8.decode s pos).2) hit
      have hown2 := ownsRow_iterAt hown (k := w.heap.size) (by omega) s (pos + (Utf8.decode s pos).2)
      have hbel2 := Lib.below_iterAt hbel (k := w.heap.size) (Nat.le_refl _) s (pos + (Utf8.decode s pos).2)
      have hgood := getS_good s pos hp
      have hbad := getS_bad s pos hp
      have hgm := getS_many s pos hp
      have hst := signsAt_step s pos hp
      have hbeh := decode_behind s pos
      generalize hD : Utf8.decode s pos = D at *
      obtain ⟨r, m⟩ := D
      simp only at hwd hd1 hfit hit2 hown2 hbel2 hbad
      have Hgood : Hid (r ≠ 65533 → getS s pos = (r, m)) := hgood
      have Hbad : Hid (r = 65533 → (getS s pos).1 = 65533 ∧ m ≤ (getS s pos).2 ∧ ∀ j, pos + m ≤ j → j < pos + (getS s pos).2 → 128 ≤ bN s j ∧ bN s j ≤ 191) := hbad
      have Hgm : Hid (1 ≤ (getS s pos).2 ∧ pos + (getS s pos).2 ≤ s.size) := hgm
      have Hst : Hid (signsAt s pos = ((getS s pos).1 : Int) :: signsAt s (pos + (getS s pos).2)) := hst
      have Hbeh : Hid (128 ≤ bN s pos → bN s pos ≤ 191 → (r, m) = (65533, 1)) := hbeh
      clear hgood hbad hgm hst hbeh hD hown
      generalize hW : wr.iterAt w.heap.size s (pos + m) = W at *
      have hszW : w.heap.size < W.heap.size := (Array.getElem?_eq_some_iff.1 hit2).1
      clear hW
      by_cases hskip : pos < nx
      · have hm1 : (r, m) = (65533, 1) := Hbeh.out (Hsp.out pos (Nat.le_refl _) hskip).1 (Hsp.out pos (Nat.le_refl _) hskip).2
        have hm : m = 1 := congrArg Prod.snd hm1
        subst hm
        clear hm1
        have Hacc2 : Hid (acc ++ signsAt s (max (pos + 1) nx) = signsL s) := by
          have h := Hacc.out
          rw [show max pos nx = nx by omega] at h
          show _ = _
          rw [show max (pos + 1) nx = nx by omega]
          exact h
        have Hsp2 : Hid (∀ j, pos + 1 ≤ j → j < nx → 128 ≤ bN s j ∧ bN s j ≤ 191) := fun j h1 h2 => Hsp.out j (by omega) h2
        clear Hacc Hsp Hgood Hbad Hgm Hst Hbeh
        go_wp2
        go_roundw
        case rel => exact ⟨pos + 1, nx, acc, by omega, by omega, hnx, rfl, hown2, hit2, hbel2, Hacc2, Hsp2⟩
        case measure =>
          simp only [World.iterPos, hit2, hit]
          omega
      · have hA := Hacc.out
        rw [show max pos nx = pos by omega, Hst.out] at hA
        by_cases hr : r = 65533
        · subst hr
          obtain ⟨hb1, hb2, hb3⟩ := Hbad.out rfl
          obtain ⟨hg1, hg2⟩ := Hgm.out
          rw [hb1] at hA
          generalize hK : (getS s pos).2 = K at *
          have HK : Hid ((getS s pos).2 = K) := hK
          have Hacc2 : Hid ((acc ++ [(65533 : Int)]) ++ signsAt s (max (pos + m) (pos + K)) = signsL s) := by
            show _ = _
            rw [show max (pos + m) (pos + K) = pos + K by omega, ← hA]
            simp
          have Hsp2 : Hid (∀ j, pos + m ≤ j → j < pos + K → 128 ≤ bN s j ∧ bN s j ≤ 191) := hb3
          have HT2 : Hid (Lib.Utf8Tabs 1 2 W) := Utf8Tabs_below HT.out hbel2
          clear Hacc Hsp Hgood Hbad Hgm Hst Hbeh hA hb1 hb3 hK
          go_wp2_with fail
          refine (implGet_in s pos _ hp (by omega) HT2.out).mono ?_
          rintro e w1 ⟨rfl, hb1⟩
          rw [HK.out]
          have hown3 := owns_below hown2 (Nat.le_refl _) hb1
          have hit3 : w1.heap[w.heap.size]? = some (.stringIter s (pos + m)) := (hb1.block w.heap.size hszW).trans hit2
          have hbel3 : Below w.heap.size w w1 := hbel2.trans (hb1.mono (by omega))
          have hsz3 : w.heap.size < w1.heap.size := Nat.lt_of_lt_of_le hszW hb1.size
          clear hown2 hit2 hbel2 hb1 hnext
          go_wp2_with (at_builtin; refine wpList_append_own _ rfl (.tmp 29) (.tmp 32) 92 rfl (w.heap.size + 1) 3 i0 (.int .i64 0) 1 8 Tryd.underlying92 Hi.out Hz0.out Hz1.out Hz2.out rfl (by decide) _ acc.length (intCells acc) rfl (hown3.alloc _) ⟨_, 0, none⟩ 1 1 [.int .i64 65533] rfl rfl (one_cell _ _ _) (one_one _) ?c3 ?c4 ?c5 ?_)
          case c3 => unfold maxLen; omega
          case c4 => omega
          case c5 => first | omega | (simp; omega)
          intro v' w2 hown' hgrow _
          have hbel4 : Below w.heap.size w w2 := own_grown1 (hown3.alloc _) (hbel3.alloc hbel3.size _) (Nat.le_succ _) hgrow (by simp; omega)
          have hit4 : w2.heap[w.heap.size]? = some (.stringIter s (pos + m)) := iter_kept (hown3.alloc _) (Nat.lt_succ_self _) hgrow (by rw [Below.heap_alloc _ _ _ hsz3]; exact hit3)
          have hown4 : w2.ownsRow (w.heap.size + 1) 3 1 v' (acc ++ [(65533 : Int)]).length (intCells (acc ++ [(65533 : Int)])) := by
            rw [List.length_append]
            have e2 : intCells (acc ++ [(65533 : Int)]) = intCells acc ++ [.int .i64 65533] := by simp [intCells]
            rw [e2]
            exact hown'
          clear hown' hgrow hown3 hbel3 hit3 HT2
          go_wp2
          go_roundw
          case rel => exact ⟨pos + m, pos + K, acc ++ [(65533 : Int)], by omega, by simp; omega, by omega, by go_num, hown4, hit4, hbel4, Hacc2, Hsp2⟩
          case measure =>
            simp only [World.iterPos, hit4, hit]
            omega
        · have hg := Hgood.out hr
          rw [hg] at hA
          simp only at hA
          have Hacc2 : Hid ((acc ++ [(r : Int)]) ++ signsAt s (max (pos + m) nx) = signsL s) := by
            show _ = _
            rw [show max (pos + m) nx = pos + m by omega, ← hA]
            simp
          have Hsp2 : Hid (∀ j, pos + m ≤ j → j < nx → 128 ≤ bN s j ∧ bN s j ≤ 191) := fun j h1 h2 => by omega
          have hr2 : ((r : Int) == 65533) = false := by rw [beq_eq_false_iff_ne]; omega
          have hrl : (r : Int) ≤ 1114111 := by omega
          clear Hacc Hsp Hgood Hbad Hgm Hst Hbeh hA hg hr
          go_wp2_with (at_builtin; refine wpList_append_own _ rfl (.tmp 29) (.tmp 32) 92 rfl (w.heap.size + 1) 3 i0 (.int .i64 0) 1 8 Tryd.underlying92 Hi.out Hz0.out Hz1.out Hz2.out rfl (by decide) _ acc.length (intCells acc) rfl (hown2.alloc _) ⟨_, 0, none⟩ 1 1 [.int .i64 (r : Int)] rfl rfl (one_cell _ _ _) (one_one _) ?c3 ?c4 ?c5 ?_)
          case c3 => unfold maxLen; omega
          case c4 => omega
          case c5 => first | omega | (simp; omega)
          intro v' w2 hown' hgrow _
          have hbel4 : Below w.heap.size w w2 := own_grown1 (hown2.alloc _) (hbel2.alloc hbel2.size _) (Nat.le_succ _) hgrow (by simp; omega)
          have hit4 : w2.heap[w.heap.size]? = some (.stringIter s (pos + m)) := iter_kept (hown2.alloc _) (Nat.lt_succ_self _) hgrow (by rw [Below.heap_alloc _ _ _ hszW]; exact hit2)
          have hown4 : w2.ownsRow (w.heap.size + 1) 3 1 v' (acc ++ [(r : Int)]).length (intCells (acc ++ [(r : Int)])) := by
            rw [List.length_append]
            have e2 : intCells (acc ++ [(r : Int)]) = intCells acc ++ [.int .i64 (r : Int)] := by simp [intCells]
            rw [e2]
            exact hown'
          clear hown' hgrow hown2 hbel2 hit2 hnext
          go_wp2
          go_roundw
          case rel => exact ⟨pos + m, nx, acc ++ [(r : Int)], by omega, by simp; omega, hnx, rfl, hown4, hit4, hbel4, Hacc2, Hsp2⟩
          case measure =>
            simp only [World.iterPos, hit4, hit]
            omega
    · have hnext : ∀ ty, (Instr.next (.pointer (some ⟨w.heap.size, 0, none⟩)) true ty).run Tryd.prog wr = _ := fun ty => Lib.run_next_end_at wr w.heap.size s pos ty hit hp
      have hall : acc = signsL s := by
        rw [← Hacc.out, signsAt_end s _ (by omega), List.append_nil]
      subst hall
      clear Hacc Hsp
      obtain ⟨a, cap, rfl, ho⟩ := Owned.of_row hown
      clear hown
      go_wp2
      go_ret
      exact ⟨a, cap, rfl, ho.lower (Nat.le_succ _), hbel⟩

end Go.Proofs.YtmambbknljgjcaaDoor.Sg

namespace Go.Proofs.YtmambbknljgjcaaDoor.Sg
open Go.ChangeShapes Go.WideShapes Go.ChangeAt Go.RowKit

/-- A text with its signs written anew. -/
def cleanS (s : ByteArray) : ByteArray := textS (signsL s)

set_option maxHeartbeats 1000000 in
theorem specClean (s : ByteArray) (w : World) (hs : s.size ≤ 17592186044416) :
    Calls Tryd.prog 75 #[.string s] w fun e w' => e = .returned (.string (cleanS s)) ∧ Below w.heap.size w w' := by
  have hn := signsL_length s
  go_enter Tryd.func75, Tryd.ntmps75
  go_wp2_with fail
  refine (specSigns s _ hs).mono ?_
  rintro e w1 ⟨a, cap, rfl, o1, b1⟩
  go_wp2_with fail
  refine (specSignText (signsL s) a cap _ o1.ints (by omega)).mono ?_
  rintro e w2 ⟨rfl, b2⟩
  go_wp2_with fail
  go_ret
  exact ⟨rfl, b1.trans (b2.mono b1.size)⟩

set_option maxHeartbeats 1000000 in
theorem implClean (s : ByteArray) (w : World) (hs : s.size ≤ 17592186044416) (hT : Lib.Utf8Tabs 1 2 w) :
    Calls Tryd.prog 77 #[.string s] w fun e w' => e = .returned (.string (cleanS s)) ∧ Below w.heap.size w w' := by
  have hn := signsL_length s
  have HT : Hid (Lib.Utf8Tabs 1 2 w) := hT
  clear hT
  go_enter Tryd.func77, Tryd.ntmps77
  go_wp2_with fail
  refine (implSigns s _ hs HT.out).mono ?_
  rintro e w1 ⟨a, cap, rfl, o1, b1⟩
  go_wp2_with fail
  refine (implSignText (signsL s) a cap _ o1.ints (by omega)).mono ?_
  rintro e w2 ⟨rfl, b2⟩
  go_wp2_with fail
  go_ret
  exact ⟨rfl, b1.trans (b2.mono b1.size)⟩

/-- A text is clean. -/
def cleanB (s : ByteArray) : Bool := (cleanS s).toList == s.toList

set_option maxHeartbeats 1000000 in
theorem specCleanOk (s : ByteArray) (w : World) (hs : s.size ≤ 17592186044416) :
    Calls Tryd.prog 57 #[.string s] w fun e w' => e = .returned (.bool (cleanB s)) ∧ Below w.heap.size w w' := by
  go_enter Tryd.func57, Tryd.ntmps57
  go_wp2_with fail
  refine (specClean s _ hs).mono ?_
  rintro e w1 ⟨rfl, b1⟩
  go_wp2_with fail
  go_ret
  exact ⟨rfl, b1⟩

set_option maxHeartbeats 1000000 in
theorem implCleanOk (s : ByteArray) (w : World) (hs : s.size ≤ 17592186044416) (hT : Lib.Utf8Tabs 1 2 w) :
    Calls Tryd.prog 62 #[.string s] w fun e w' => e = .returned (.bool (cleanB s)) ∧ Below w.heap.size w w' := by
  have HT : Hid (Lib.Utf8Tabs 1 2 w) := hT
  clear hT
  go_enter Tryd.func62, Tryd.ntmps62
  go_wp2_with fail
  refine (implClean s _ hs HT.out).mono ?_
  rintro e w1 ⟨rfl, b1⟩
  go_wp2_with fail
  go_ret
  exact ⟨rfl, b1⟩

end Go.Proofs.YtmambbknljgjcaaDoor.Sg
