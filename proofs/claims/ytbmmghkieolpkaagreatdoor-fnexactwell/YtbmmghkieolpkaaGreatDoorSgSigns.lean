/- Contracts of Signs, of the program and of the model: both give the signs of a text in memory of their own. -/
import Derived.Test.YtbmmghkieolpkaaGreatDoorMW205
import Derived.Test.YtbmmghkieolpkaaGreatDoorSgGetS
import Derived.Test.YtbmmghkieolpkaaGreatDoorSgGetJ
import Derived.Test.YtbmmghkieolpkaaGreatDoorSgInts
import Derived.Lib.OthersKept
import Derived.Laws.AppendOwn
namespace Go.Proofs.YtbmmghkieolpkaaGreatDoor.Sg
open Go.ChangeShapes Go.WideShapes Go.ChangeAt Go.RowKit

def intCells (zs : List Int) : List Value := zs.map (Value.int .i64)

/-- A slice of ints in memory of the call's own, from block B on. -/
def Owned (w : World) (B : Nat) (a : Option Addr) (cap : Nat) (zs : List Int) : Prop :=
  (a = none ∧ zs = [] ∧ cap = 0) ∨ ∃ g cur, a = some ⟨g, 0, none⟩ ∧ B ≤ g ∧ w.heap[g]? = some (.cells cur 3 (0, 0)) ∧ zs.length ≤ cap ∧ cur.size = cap ∧ cur.toList.take zs.length = intCells zs

theorem Owned.of_row {w : World} {B : Nat} {v : Value} {zs : List Int} (h : w.ownsRow B 3 1 v zs.length (intCells zs)) : ∃ a cap, v = .slice a zs.length cap ∧ Owned w B a cap zs := by
  obtain ⟨h1, h2⟩ := h
  rcases h2 with ⟨rfl, h2⟩ | ⟨g, cap, cur, rfl, h3, h4, h5, h6, h7, h8⟩
  · have : zs = [] := List.eq_nil_of_length_eq_zero h2
    subst this
    exact ⟨none, 0, rfl, .inl ⟨rfl, rfl, rfl⟩⟩
  · exact ⟨_, _, rfl, .inr ⟨g, cur, rfl, h3, h4, h5, by simpa using h7, by simpa using h8⟩⟩

theorem Owned.ints {w : World} {B : Nat} {a : Option Addr} {cap : Nat} {zs : List Int} (h : Owned w B a cap zs) : Ints w a zs := by
  rcases h with ⟨_, h, _⟩ | ⟨g, cur, ha, hB, hb, hl, hc, ht⟩
  · exact .inl h
  · refine .inr ⟨g, 0, ha, (Array.getElem?_eq_some_iff.1 hb).1, fun i hi => ?_⟩
    have h9 : (cur.toList.take zs.length)[i]? = (intCells zs)[i]? := by rw [ht]
    rw [List.getElem?_take_of_lt hi] at h9
    have hc : cur[i]? = some (.int .i64 (zs.getD i 0)) := by simpa [intCells, hi] using h9
    rw [Nat.zero_add]
    simp [World.cell?, hb, hc]

theorem own_grown1 {w w2 : World} {B : Nat} {e : TypeId} {v : Value} {n : Nat} {xs : List Value} {B0 : Nat} {w0 : World} (hown : w.ownsRow B e 1 v n xs) (hb : Below B0 w0 w) (hB : B0 ≤ B) (hg : w.grownBy w2 v.ownBlock) (hsz : B0 ≤ w.heap.size) : Below B0 w0 w2 :=
  hb.grown hg hsz (by
    intro r hr
    obtain ⟨_, h⟩ := hown
    rcases h with ⟨h, _⟩ | ⟨g, _, _, h, hg, _⟩
    · rw [h] at hr
      simp [Value.ownBlock] at hr
    · rw [h] at hr
      simp [Value.ownBlock] at hr
      omega)

theorem iter_kept {w w2 : World} {B k : Nat} {e : TypeId} {v : Value} {n : Nat} {xs : List Value} {o : Obj} (hown : w.ownsRow B e 1 v n xs) (hk : k < B) (hg : w.grownBy w2 v.ownBlock) (hit : w.heap[k]? = some o) : w2.heap[k]? = some o := by
  have hlt : k < w.heap.size := (Array.getElem?_eq_some_iff.1 hit).1
  refine (hg.block k hlt ?_).trans hit
  intro hr
  obtain ⟨_, h⟩ := hown
  rcases h with ⟨h, _⟩ | ⟨g, _, _, h, hg, _⟩
  · rw [h] at hr
    simp [Value.ownBlock] at hr
  · rw [h] at hr
    simp [Value.ownBlock] at hr
    omega

theorem one_cell (w : World) (z : Int) (t : TypeId) : ∀ j u, ([Value.int .i64 z])[j]? = some u → (w.alloc (.cells #[.int .i64 z] t)).cell? ((⟨w.heap.size, 0, none⟩ : Addr).add j) = some u := by
  intro j u hj
  match j, hj with
  | 0, hj => simp at hj; subst hj; simp [Addr.add]

theorem one_one (z : Int) : ∀ u ∈ [Value.int .i64 z], u.oneCell' = true := by
  intro u hu
  simp at hu
  subst hu
  rfl

set_option maxHeartbeats 1000000 in
theorem specSigns (s : ByteArray) (w : World) (hs : s.size ≤ 17592186044416) :
    Calls Tryz.prog 95 #[.string s] w fun e w' => ∃ a cap, e = .returned (.slice a (signsL s).length cap) ∧ Owned w' w.heap.size a cap (signsL s) ∧ Below w.heap.size w w' := by
  obtain ⟨i0, hi0, hz0, hz1, hz2⟩ := info_parts info_int
  have Hi : Hid (Tryz.prog.info? 3 = some i0) := hi0
  have Hz0 : Hid (i0.zero = some (.int .i64 0)) := hz0
  have Hz1 : Hid (i0.size = 1) := hz1
  have Hz2 : Hid (i0.bytes = 8) := hz2
  clear hi0 hz0 hz1 hz2
  go_enter Tryz.func95, Tryz.ntmps95
  go_wp2
  go_loopw [3, 4] (fun v i wr => ∃ (pos : Nat) (acc : List Int), pos ≤ s.size ∧ acc.length ≤ pos ∧ i = .int .i64 pos ∧ wr.ownsRow w.heap.size 3 1 v acc.length (intCells acc) ∧ Below w.heap.size w wr ∧ Hid (acc ++ signsAt s pos = signsL s)) (fun _ i _ => s.size - (intOf i).toNat)
  case atStart =>
    refine ⟨0, [], Nat.zero_le _, Nat.le_refl _, rfl, ⟨rfl, .inr ⟨w.heap.size, 0, #[], rfl, Nat.le_refl _, ?_, Nat.le_refl _, Nat.zero_le _, rfl, rfl⟩⟩, (Below.refl _ _).alloc (Nat.le_refl _) _, rfl⟩
    show (w.heap.push _)[w.heap.size]? = _
    simp
  case round =>
    obtain ⟨pos, acc, hpos, hal, rfl, hown, hbel, Hacc⟩ := hrel
    by_cases hlt : pos < s.size
    · have hgm := getS_many s pos hlt
      have hgl := getS_le s pos hlt
      have hst := signsAt_step s pos hlt
      go_wp2_with fail
      refine (specGet_in s pos _ hlt (by omega)).mono ?_
      rintro e w1 ⟨rfl, rfl⟩
      generalize hG : getS s pos = G at *
      clear hG
      obtain ⟨z, m⟩ := G
      simp only at hgm hgl hst
      have Hst : Hid (signsAt s pos = (z : Int) :: signsAt s (pos + m)) := hst
      clear hst
      go_wp2_with (at_builtin; refine wpList_append_own _ rfl (.tmp 18) (.tmp 20) 112 rfl w.heap.size 3 i0 (.int .i64 0) 1 8 Tryz.underlying112 Hi.out Hz0.out Hz1.out Hz2.out rfl (by decide) _ acc.length (intCells acc) rfl (hown.alloc _) ⟨_, 0, none⟩ 1 1 [.int .i64 (z : Int)] rfl rfl (one_cell _ _ _) (one_one _) ?c3 ?c4 ?c5 ?_)
      case c3 => unfold maxLen; omega
      case c4 => omega
      case c5 => have := hbel.size; first | omega | (simp; omega)
      intro v' w2 hown' hgrow _
      have hbel2 : Below w.heap.size w w2 := own_grown1 (hown.alloc _) (hbel.alloc hbel.size _) (Nat.le_refl _) hgrow (by have := hbel.size; simp; omega)
      have hown2 : w2.ownsRow w.heap.size 3 1 v' (acc ++ [(z : Int)]).length (intCells (acc ++ [(z : Int)])) := by
        rw [List.length_append]
        have e2 : intCells (acc ++ [(z : Int)]) = intCells acc ++ [.int .i64 (z : Int)] := by simp [intCells]
        rw [e2]
        exact hown'
      have Hacc2 : Hid ((acc ++ [(z : Int)]) ++ signsAt s (pos + m) = signsL s) := by
        show _ = _
        rw [← Hacc.out, Hst.out]
        simp
      clear hown' hgrow hown hbel Hst Hacc
      go_wp2
      go_roundw
      case rel => exact ⟨pos + m, acc ++ [(z : Int)], by omega, by simp; omega, by go_num, hown2, hbel2, Hacc2⟩
      case measure => simp [intOf]; omega
    · have hall : acc = signsL s := by
        rw [← Hacc.out, signsAt_end s pos hlt, List.append_nil]
      subst hall
      clear Hacc
      obtain ⟨a, cap, rfl, ho⟩ := Owned.of_row hown
      clear hown
      go_wp2
      go_ret
      exact ⟨a, cap, rfl, ho, hbel⟩

end Go.Proofs.YtbmmghkieolpkaaGreatDoor.Sg
