/- Contracts of the laws' slices of texts: compared, marked, held. -/
import Derived.Test.YtlnegnikedinaaaGMark
import Derived.Deep.Cut
import Derived.Deep.CutRange
import Derived.Deep.RegionHeld3
import Derived.BigQuiet
import Derived.Deep.QuietTactic
namespace Go.Proofs.Ytlnegnikedinaaa.Sg
open Go.ChangeShapes Go.WideShapes Go.ChangeAt Go.RowKit

def strCs (l : List ByteArray) : List Value := l.map Value.string
/-- A slice of texts holds just l. -/
def StrsAt (w : World) (a : Option Addr) (l : List ByteArray) : Prop :=
  l = [] ∨ ∃ b, a = some ⟨b, 0, none⟩ ∧ b < w.heap.size ∧ ∀ k, k < l.length → w.cell? ⟨b, k, none⟩ = some (.string (l.getD k ByteArray.empty))
theorem StrsAt.below {w w' : World} {a : Option Addr} {l : List ByteArray} (h : StrsAt w a l) (hb : Below w.heap.size w w') : StrsAt w' a l := by
  rcases h with h | ⟨b, h1, h2, h3⟩
  · exact .inl h
  · exact .inr ⟨b, h1, Nat.lt_of_lt_of_le h2 hb.size, fun k hk => (hb.cell h2).trans (h3 k hk)⟩
theorem strs_of_own {w : World} {base n : Nat} {e : TypeId} {v : Value} {l : List ByteArray} (h : w.ownsRow base e 1 v n (strCs l)) : ∃ a cap, v = .slice a l.length cap ∧ StrsAt w a l := by
  obtain ⟨h1, h2⟩ := h
  unfold strCs at h1
  rw [List.length_map] at h1
  have hn : l.length = n := by omega
  subst hn
  rcases h2 with ⟨rfl, h0⟩ | ⟨g, cap, cur, rfl, h3, h4, h5, h6, h7, h8⟩
  · have : l = [] := List.eq_nil_of_length_eq_zero h0
    subst this
    exact ⟨none, 0, rfl, .inl rfl⟩
  · refine ⟨_, _, rfl, .inr ⟨g, rfl, (Array.getElem?_eq_some_iff.1 h4).1, fun k hk => ?_⟩⟩
    have a1 : (strCs l)[k]? = some (.string (l.getD k ByteArray.empty)) := by simp [strCs, List.getD, hk]
    rw [← h8, List.getElem?_take_of_lt (by omega)] at a1
    have c1 : cur[k]? = some (.string (l.getD k ByteArray.empty)) := by simpa using a1
    simp [World.cell?, h4, c1]

set_option maxHeartbeats 2000000 in
theorem eqStringS_same (l : List ByteArray) (a b : Option Addr) (n ca cb : Nat) (w : World) (ha : StrsAt w a l) (hb : StrsAt w b l) (hl : l.length = n) (hn : n ≤ 17592186044416) :
    Calls Try.prog 22 #[.slice a n ca, .slice b n cb] w fun e w' => e = .returned (.bool true) ∧ Below w.heap.size w w' := by
  have Hl : Hid (l.length = n) := hl
  have Ha : Hid (StrsAt w a l) := ha
  have Hb : Hid (StrsAt w b l) := hb
  have g0 : ((n : Int) != (n : Int)) = false := by simp
  clear hl ha hb
  go_enter Try.func22, Try.ntmps22
  go_wp2
  go_loopw [5] (fun v wr => ∃ k : Nat, k ≤ n ∧ v = .int .i64 (k : Int) ∧ Below w.heap.size w wr) (fun v _ => n - (intOf v).toNat)
  case atStart => exact ⟨0, Nat.zero_le _, rfl, Below.refl _ _⟩
  case round =>
    obtain ⟨k, hk, rfl, hbel⟩ := hrel
    by_cases hlt : k < n
    · have hkl : k < l.length := by rw [Hl.out]; exact hlt
      rcases Ha.out with h | ⟨ba, rfl, hba, hca⟩
      · rw [h] at hkl
        exact absurd hkl (Nat.not_lt_zero _)
      rcases Hb.out with h | ⟨bb, rfl, hbb, hcb⟩
      · rw [h] at hkl
        exact absurd hkl (Nat.not_lt_zero _)
      have c1' := (hbel.cell (p := ⟨ba, k, none⟩) hba).trans (hca k hkl)
      have d1' := (hbel.cell (p := ⟨bb, k, none⟩) hbb).trans (hcb k hkl)
      clear hca hcb hkl
      generalize l.getD k ByteArray.empty = x at *
      have k0 : (0 : Int) ≤ (k : Int) := by omega
      have k1 : (k : Int) < (n : Int) := by omega
      have gx : (x.toList == x.toList) = true := by simp
      clear Ha Hb
      go_wp2_with fail
      go_quiet (fail)
      go_wp2_with fail
      go_roundw
      case rel => exact ⟨k + 1, by omega, by go_num, drew_kd hbel _⟩
      case measure => simp [intOf]; omega
    · have g1 : decide ((k : Int) < (n : Int)) = false := decide_eq_false (by omega)
      go_wp2
      go_ret
      exact ⟨rfl, hbel⟩

/-- n texts marked from k on. -/
def markT (k n : Nat) : List ByteArray := (List.range n).map fun i => markB (k + i)
theorem markT_length (k n : Nat) : (markT k n).length = n := by simp [markT]
theorem markT_at (k n j : Nat) (h : j < n) : (markT k n).getD j ByteArray.empty = markB (k + j) := by simp [markT, h]
theorem own_of_rowT {w : World} {B g cap n k : Nat} {e : TypeId} {f : Nat → Value} (hB : B ≤ g) (hn : n ≤ cap) (hm : cap ≤ maxLen) (h : w.rowIs g e cap f) (hf : ∀ j, j < n → f j = .string (markB (k + j))) :
    w.ownsRow B e 1 (.slice (some ⟨g, 0, none⟩) n cap) n (strCs (markT k n)) := by
  obtain ⟨c, hb, hc, hv⟩ := h
  refine ⟨by simp [strCs, markT_length], .inr ⟨g, cap, c, rfl, hB, hb, hn, hm, by omega, ?_⟩⟩
  rw [Nat.mul_one]
  apply List.ext_getElem?
  intro j
  by_cases hj : j < n
  · rw [List.getElem?_take_of_lt hj, Array.getElem?_toList, hv j (by omega), hf j hj]
    simp [strCs, markT, hj]
  · rw [List.getElem?_eq_none (by simp; omega), List.getElem?_eq_none (by simp [strCs, markT_length]; omega)]

set_option maxHeartbeats 4000000 in
theorem markStringS_any (l : List ByteArray) (v : Value) (k B : Nat) (w : World) (ho : w.ownsRow B 9 1 v l.length (strCs l)) (hk : k ≤ 1099511627776) (hn : l.length ≤ 1099511627776) (hBw : B ≤ w.heap.size) :
    Calls Try.prog 25 #[v, .int .i64 (k : Int)] w fun e w' => e = .returned (.int .i64 ((k + l.length : Nat) : Int)) ∧ w'.ownsRow B 9 1 v l.length (strCs (markT k l.length)) ∧ Below B w w' := by
  obtain ⟨hlc, ho⟩ := ho
  rcases ho with ⟨rfl, h0⟩ | ⟨g, cap, cur, rfl, hB, hg, hl, hm, hc, ht⟩
  · rw [h0]
    go_enter Try.func25, Try.ntmps25
    go_wp2
    refine wp_loop_rounds 1 ?_
    rw [rounds_succ]
    go_wp2
    go_ret
    exact ⟨rfl, ⟨rfl, .inl ⟨rfl, rfl⟩⟩, Below.refl _ _⟩
  clear hlc ht
  generalize hlen : l.length = n at *
  clear hlen
  have Hm : Hid (cap ≤ maxLen) := hm
  clear hm
  rw [Nat.mul_one] at hc
  have hrow0 : w.rowIs g 9 cap (fun i => (cur[i]?).getD (.int .i64 0)) := by
    refine ⟨cur, hg, hc, fun i hi => ?_⟩
    have hlt : i < cur.size := by omega
    simp [hlt]
  clear hg
  go_enter Try.func25, Try.ntmps25
  go_wp2
  go_loopw [1, 5] (fun kv iv wr => ∃ i : Nat, i ≤ n ∧ iv = .int .i64 (i : Int) ∧ kv = .int .i64 ((k + i : Nat) : Int) ∧ Hid (wr.rowIs g 9 cap (fun j => if j < i then .string (markB (k + j)) else (cur[j]?).getD (.int .i64 0))) ∧ Below B w wr) (fun _ iv _ => n - (intOf iv).toNat)
  case atStart =>
    refine ⟨0, Nat.zero_le _, rfl, rfl, ?_, Below.refl _ _⟩
    show w.rowIs _ _ _ _
    simpa using hrow0
  case round =>
    obtain ⟨i, hi, rfl, rfl, Hrow, hbel⟩ := hrel
    clear hrow0
    by_cases hlt : i < n
    · have Hk1 := fun w : World => markText_any (k + i) w (by omega)
      have hsz := hbel.size
      have k0 : (0 : Int) ≤ (i : Int) := by omega
      have k1 : (i : Int) < (n : Int) := by omega
      go_wp2_with fail
      refine (Hk1 _).mono ?_
      rintro e w1 ⟨rfl, b1⟩
      have hr1 := rowIs_below Hrow.out b1
      have c1 := hr1.cell (i := i) (by omega)
      have f1 := hr1.frozen i
      generalize hold : (if i < i then Value.string (markB (k + i)) else (cur[i]?).getD (.int .i64 0)) = old at c1
      clear hold
      have hr2 := hr1.set i (.string (markB (k + i)))
      have Hr2 : Hid (World.rowIs _ g 9 cap _) := hr2
      have b1' : Below B w w1 := hbel.trans (b1.mono (by omega))
      have b2' : Below B w (w1.setCell ⟨g, i, none⟩ (.string (markB (k + i)))) := b1'.setCell hB _
      clear hr1 hr2 Hk1 b1 b1'
      go_wp2_with fail
      go_roundw
      case rel =>
        refine ⟨i + 1, by omega, by go_num, by go_num, ?_, b2'⟩
        refine Hr2.out.congr fun j hj => ?_
        by_cases e1 : j = i
        · subst e1
          rw [if_pos rfl, if_pos (by omega)]
        · by_cases e2 : j < i
          · rw [if_neg e1, if_pos e2, if_pos (by omega)]
          · rw [if_neg e1, if_neg e2, if_neg (by omega)]
      case measure => simp [intOf]; omega
    · have hin : i = n := by omega
      subst hin
      go_wp2
      go_ret
      exact ⟨rfl, own_of_rowT hB hl Hm.out Hrow.out (fun j hj => by rw [if_pos (by omega)]), hbel⟩

set_option maxHeartbeats 4000000 in
theorem heldStringS_any (n k : Nat) (a : Option Addr) (cap : Nat) (w : World) (ha : StrsAt w a (markT k n)) (hk : k ≤ 1099511627776) (hn : n ≤ 1099511627776) :
    Calls Try.prog 26 #[.slice a n cap, .int .i64 (k : Int)] w fun e w' => e = .returned (.int .i64 ((k + n : Nat) : Int)) ∧ Below w.heap.size w w' := by
  have Ha : Hid (StrsAt w a (markT k n)) := ha
  clear ha
  go_enter Try.func26, Try.ntmps26
  go_wp2
  go_loopw [1, 5] (fun kv iv wr => ∃ i : Nat, i ≤ n ∧ iv = .int .i64 (i : Int) ∧ kv = .int .i64 ((k + i : Nat) : Int) ∧ Below w.heap.size w wr) (fun _ iv _ => n - (intOf iv).toNat)
  case atStart => exact ⟨0, Nat.zero_le _, rfl, rfl, Below.refl _ _⟩
  case round =>
    obtain ⟨i, hi, rfl, rfl, hbel⟩ := hrel
    by_cases hlt : i < n
    · rcases Ha.out with h | ⟨b, rfl, hb, hc⟩
      · have := markT_length k n
        rw [h] at this
        simp at this
        omega
      have c1 := hc i (by rw [markT_length]; exact hlt)
      rw [markT_at k n i hlt] at c1
      have d1 : wr.cell? ⟨b, i, none⟩ = some (.string (markB (k + i))) := (hbel.cell (by exact hb)).trans c1
      have Hk1 := fun w : World => markText_any (k + i) w (by omega)
      clear hc c1 Ha
      generalize markB (k + i) = x at *
      have gx : (x.toList == x.toList) = true := by simp
      have k0 : (0 : Int) ≤ (i : Int) := by omega
      have k1 : (i : Int) < (n : Int) := by omega
      have HB : Hid (∀ wx : World, Below wr.heap.size wr wx → Below w.heap.size w wx) := fun wx h => hbel.trans (h.mono hbel.size)
      go_upto_region 4 with fail
      go_cut [18] from 6 to 20 (fun r wx => r = .bool false ∧ Below wr.heap.size wr wx)
      case first =>
        go_region_held3 (fun w' => w'.cell? ⟨b, i, none⟩ = some (.string x)) (first | go_keep | exact keep_cell hb' (by assumption)) (first | (go_at_call 45; refine (Hk1 _).mono ?_; rintro e w' ⟨rfl, hb'⟩))
        go_wp2_with fail
        go_meet
        case rel => exact ⟨rfl, ((Below.refl _ _).drew).trans hb'⟩
      case rest =>
        obtain ⟨rfl, hbx⟩ := hcut
        have hbel2 := HB.out _ hbx
        go_wp2_with fail
        go_roundw
        case rel => exact ⟨i + 1, by omega, by go_num, by go_num, hbel2⟩
        case measure => simp [intOf]; omega
    · have hin : i = n := by omega
      subst hin
      go_wp2
      go_ret
      exact ⟨rfl, hbel⟩

end Go.Proofs.Ytlnegnikedinaaa.Sg
