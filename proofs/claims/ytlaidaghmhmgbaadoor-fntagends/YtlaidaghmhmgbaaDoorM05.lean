/- Contracts of the laws' marks of texts, and of attributes compared. Contracts of the laws' marks of attributes: a slice that the call owns is marked, and the marks are found. The law of Attrs, of what the program's Attrs hands back. -/
import Derived.Test.YtlaidaghmhmgbaaDoorSgPut
import Derived.Test.YtlaidaghmhmgbaaDoorTkAttrPQ
import Derived.Deep.Cut
import Derived.Deep.CutRange
import Derived.Deep.RegionHeld3
import Derived.Test.YtlaidaghmhmgbaaDoorTkAttrsQ
namespace Go.Proofs.YtlaidaghmhmgbaaDoor.Sg
open Go.ChangeShapes Go.WideShapes Go.ChangeAt Go.RowKit

/-- The digits of a number ahead of a text. -/
def digS (k : Nat) (out : ByteArray) : ByteArray := if 0 < k then digS (k / 10) (strOfNums [48 + ((k % 10 : Nat) : Int)] ++ out) else out
  termination_by k
  decreasing_by omega
/-- The text that marks a number. -/
def markB (k : Nat) : ByteArray := if 0 < k then ⟨#[109]⟩ ++ digS k ⟨#[]⟩ else ⟨#[109, 48]⟩

theorem digS_yes {k : Nat} {out : ByteArray} (h : 0 < k) : digS k out = digS (k / 10) (strOfNums [48 + ((k % 10 : Nat) : Int)] ++ out) := by
  rw [digS, if_pos h]
theorem digS_no {k : Nat} {out : ByteArray} (h : ¬ 0 < k) : digS k out = out := by
  rw [digS, if_neg h]

theorem ret_text {a b : ByteArray} (h : a = b) : Ending.returned (.string a) = .returned (.string b) := by rw [h]

set_option maxHeartbeats 2000000 in
theorem markText_any (k0 : Nat) (w : World) (hk0 : k0 ≤ 1152921504606846976) :
    Calls Tryd.prog 65 #[.int .i64 (k0 : Int)] w fun e w' => e = .returned (.string (markB k0)) ∧ Below w.heap.size w w' := by
  by_cases h0 : 0 < k0
  · have Hm : Hid (markB k0 = ⟨#[109]⟩ ++ digS k0 ⟨#[]⟩) := if_pos h0
    have g0 : ¬ (k0 : Int) ≤ 0 := by omega
    go_enter Tryd.func65, Tryd.ntmps65
    go_wp2
    go_loopw [0, 3] (fun kv ov wr => ∃ (k : Nat) (out : ByteArray), k ≤ k0 ∧ out.size + k ≤ k0 ∧ kv = .int .i64 (k : Int) ∧ ov = .string out ∧ Hid (digS k0 ⟨#[]⟩ = digS k out) ∧ Below w.heap.size w wr) (fun kv _ _ => (intOf kv).toNat)
    case atStart => exact ⟨k0, ⟨#[]⟩, Nat.le_refl _, Nat.le_of_eq (by show 0 + k0 = k0; omega), rfl, rfl, rfl, Below.refl _ _⟩
    case round =>
      obtain ⟨k, out, hk, hks, rfl, rfl, Hsp, hbel⟩ := hrel
      by_cases hlt : 0 < k
      · have Hn : Hid (digS k0 ⟨#[]⟩ = digS (k / 10) (strOfNums [48 + ((k % 10 : Nat) : Int)] ++ out)) := Hsp.out.trans (digS_yes hlt)
        have g1 : (0 : Int) < (k : Int) := by omega
        obtain ⟨d, hd⟩ : ∃ d : Nat, k % 10 = d := ⟨_, rfl⟩
        obtain ⟨q, hq⟩ : ∃ q : Nat, k / 10 = q := ⟨_, rfl⟩
        have e1 : (k : Int) % 10 = (d : Int) := by omega
        have e2 : (k : Int) / 10 = (q : Int) := by omega
        have hd10 : d < 10 := by omega
        have hqk : q + 1 ≤ k := by omega
        rw [hd, hq] at Hn
        have c1 := conv1 (48 + (d : Int)) wr
        have hs1 : (strOfNums [48 + (d : Int)]).size = 1 := rfl
        generalize strOfNums [48 + (d : Int)] = t at *
        have hst : (t ++ out).size = t.size + out.size := by simp [ByteArray.size_append]
        clear Hsp hd hq
        go_wp2
        go_roundw
        case rel => exact ⟨q, t ++ out, by omega, by rw [hst, hs1]; omega, rfl, rfl, Hn, hbel.alloc hbel.size _⟩
        case measure => simp [intOf]; omega
      · have Hn : Hid (digS k0 ⟨#[]⟩ = out) := Hsp.out.trans (digS_no hlt)
        have g1 : ¬ (0 : Int) < (k : Int) := by omega
        have g2 : decide ((0 : Int) < (k : Int)) = false := decide_eq_false g1
        clear Hsp
        go_wp2
        go_ret
        exact ⟨ret_text (by rw [Hm.out, Hn.out]), hbel⟩
  · have Hm : Hid (markB k0 = ⟨#[109, 48]⟩) := if_neg h0
    have g0 : (k0 : Int) ≤ 0 := by omega
    go_enter Tryd.func65, Tryd.ntmps65
    go_wp2
    go_ret
    exact ⟨ret_text (by rw [Hm.out]), Below.refl _ _⟩

theorem keep_cell {w w' : World} (hb : Below w.heap.size w w') {b i : Nat} {v : Value} (h : w.cell? ⟨b, i, none⟩ = some v) : w'.cell? ⟨b, i, none⟩ = some v := by
  have hlt : b < w.heap.size := by
    unfold World.cell? at h
    simp only at h
    cases hh : w.heap[b]? with
    | none => rw [hh] at h; cases h
    | some o => exact (Array.getElem?_eq_some_iff.1 hh).1
  exact (hb.cell hlt).trans h

set_option maxHeartbeats 2000000 in
theorem eqAttr_same (x y : ByteArray) (w : World) :
    Calls Tryd.prog 64 #[.agg #[.string x, .string y], .agg #[.string x, .string y]] w fun e w' => e = .returned (.bool true) ∧ Below w.heap.size w w' := by
  have g1 : (x.toList == x.toList) = true := by simp
  have g2 : (y.toList == y.toList) = true := by simp
  go_enter Tryd.func64, Tryd.ntmps64
  go_wp2
  go_ret
  exact ⟨rfl, ((Below.refl _ _).alloc (Nat.le_refl _) _).alloc (by simp) _⟩

set_option maxHeartbeats 4000000 in
theorem eqAttrS_same (l : List AttrB) (a b : Option Addr) (n ca cb : Nat) (w : World) (ha : AttrsAt w a l) (hb : AttrsAt w b l) (hl : l.length = n) (hn : n ≤ 17592186044416) :
    Calls Tryd.prog 25 #[.slice a n ca, .slice b n cb] w fun e w' => e = .returned (.bool true) ∧ Below w.heap.size w w' := by
  have Hl : Hid (l.length = n) := hl
  have Ha : Hid (AttrsAt w a l) := ha
  have Hb : Hid (AttrsAt w b l) := hb
  have g0 : ((n : Int) != (n : Int)) = false := by simp
  clear hl ha hb
  go_enter Tryd.func25, Tryd.ntmps25
  go_wp2
  go_loopw [5] (fun v wr => ∃ k : Nat, k ≤ n ∧ v = .int .i64 (k : Int) ∧ Below w.heap.size w wr) (fun v _ => n - (intOf v).toNat)
  case atStart => exact ⟨0, Nat.zero_le _, rfl, Below.refl _ _⟩
  case round =>
    obtain ⟨k, hk, rfl, hbel⟩ := hrel
    by_cases hlt : k < n
    · have hkl : k < l.length := by rw [Hl.out]; exact hlt
      rcases Ha.out with h | ⟨ba, rfl, hba, hca⟩
      · rw [h] at hkl
        exact absurd hkl (Nat.not_lt_zero _)
      rcases Hb.out with h | ⟨bb, rfl, hbb, hcb⟩
      · rw [h] at hkl
        exact absurd hkl (Nat.not_lt_zero _)
      obtain ⟨c1, c2⟩ := hca k hkl
      obtain ⟨d1, d2⟩ := hcb k hkl
      clear hca hcb hkl
      generalize l.getD k (ByteArray.empty, ByteArray.empty) = p at *
      obtain ⟨x, y⟩ := p
      have c1' : wr.cell? ⟨ba, k * 2, none⟩ = some (.string x) := (hbel.cell (by exact hba)).trans c1
      have c2' : wr.cell? ⟨ba, k * 2 + 1, none⟩ = some (.string y) := (hbel.cell (by exact hba)).trans c2
      have d1' : wr.cell? ⟨bb, k * 2, none⟩ = some (.string x) := (hbel.cell (by exact hbb)).trans d1
      have d2' : wr.cell? ⟨bb, k * 2 + 1, none⟩ = some (.string y) := (hbel.cell (by exact hbb)).trans d2
      have k0 : (0 : Int) ≤ (k : Int) := by omega
      have k1 : (k : Int) < (n : Int) := by omega
      have HB : Hid (∀ wx : World, Below wr.heap.size wr wx → Below w.heap.size w wx) := fun wx h => hbel.trans (h.mono hbel.size)
      clear c1 c2 d1 d2 Ha Hb
      go_upto_region 6 with fail
      go_cut [26] from 11 to 26 (fun r wx => r = .bool false ∧ Below wr.heap.size wr wx)
      case first =>
        go_region_held3 (fun w' => w'.cell? ⟨ba, k * 2, none⟩ = some (.string x) ∧ w'.cell? ⟨ba, k * 2 + 1, none⟩ = some (.string y) ∧ w'.cell? ⟨bb, k * 2, none⟩ = some (.string x) ∧ w'.cell? ⟨bb, k * 2 + 1, none⟩ = some (.string y)) (first | go_keep | (go_split_ands; exact ⟨keep_cell hb' (by assumption), keep_cell hb' (by assumption), keep_cell hb' (by assumption), keep_cell hb' (by assumption)⟩)) (first | (go_at_call 64; refine (eqAttr_same x y _).mono ?_; rintro e w' ⟨rfl, hb'⟩))
        go_wp2_with fail
        go_meet
        case rel => exact ⟨rfl, ((Below.refl _ _).drew).trans hb'⟩
      case rest =>
        obtain ⟨rfl, hbx⟩ := hcut
        have hbel2 := HB.out _ hbx
        go_wp2_with fail
        go_roundw
        case rel => exact ⟨k + 1, by omega, by go_num, hbel2⟩
        case measure => simp [intOf]; omega
    · have g1 : decide ((k : Int) < (n : Int)) = false := decide_eq_false (by omega)
      go_wp2
      go_ret
      exact ⟨rfl, hbel⟩

theorem rowIs_below {w w' : World} {g n : Nat} {t : TypeId} {f : Nat → Value} (h : w.rowIs g t n f) (hb : Below w.heap.size w w') : w'.rowIs g t n f := by
  obtain ⟨c, h1, h2, h3⟩ := h
  exact ⟨c, (hb.block g (Array.getElem?_eq_some_iff.1 h1).1).trans h1, h2, h3⟩

/-- n attributes marked from k on. -/
def markL (k n : Nat) : List AttrB := (List.range n).map fun i => (markB (k + 2 * i), markB (k + 2 * i + 1))
theorem markL_length (k n : Nat) : (markL k n).length = n := by simp [markL]
theorem markL_cells (k n j : Nat) (h : j < n * 2) : (attrCells (markL k n))[j]? = some (.string (markB (k + j))) := by
  have hl : j / 2 < (markL k n).length := by rw [markL_length]; omega
  obtain ⟨h1, h2⟩ := attrCells_at (markL k n) (j / 2) hl
  have e : (markL k n).getD (j / 2) (ByteArray.empty, ByteArray.empty) = (markB (k + 2 * (j / 2)), markB (k + 2 * (j / 2) + 1)) := by
    rw [markL_length] at hl
    simp [markL, hl]
  rw [e] at h1 h2
  rcases Nat.mod_two_eq_zero_or_one j with hm | hm
  · have ej : j / 2 * 2 = j := by omega
    rw [ej] at h1
    rw [h1]
    show some (Value.string (markB (k + 2 * (j / 2)))) = _
    rw [show k + 2 * (j / 2) = k + j by omega]
  · have ej : j / 2 * 2 + 1 = j := by omega
    rw [ej] at h2
    rw [h2]
    show some (Value.string (markB (k + 2 * (j / 2) + 1))) = _
    rw [show k + 2 * (j / 2) + 1 = k + j by omega]

theorem own_of_rowIs {w : World} {B g cap n k : Nat} {e : TypeId} {f : Nat → Value} (hB : B ≤ g) (hn : n ≤ cap) (hm : cap ≤ maxLen) (h : w.rowIs g e (cap * 2) f) (hf : ∀ j, j < n * 2 → f j = .string (markB (k + j))) :
    w.ownsRow B e 2 (.slice (some ⟨g, 0, none⟩) n cap) n (attrCells (markL k n)) := by
  obtain ⟨c, hb, hc, hv⟩ := h
  refine ⟨by rw [attrCells_length, markL_length], .inr ⟨g, cap, c, rfl, hB, hb, hn, hm, hc, ?_⟩⟩
  apply List.ext_getElem?
  intro j
  by_cases hj : j < n * 2
  · rw [List.getElem?_take_of_lt hj, Array.getElem?_toList, hv j (by omega), hf j hj, markL_cells k n j hj]
  · rw [List.getElem?_eq_none (by simp; omega), List.getElem?_eq_none (by rw [attrCells_length, markL_length]; omega)]

end Go.Proofs.YtlaidaghmhmgbaaDoor.Sg

namespace Go.Proofs.YtlaidaghmhmgbaaDoor.Sg
open Go.ChangeShapes Go.WideShapes Go.ChangeAt Go.RowKit

set_option maxHeartbeats 4000000 in
theorem markAttrS_any (l : List AttrB) (v : Value) (k B : Nat) (w : World) (ho : w.ownsRow B 37 2 v l.length (attrCells l)) (hk : k ≤ 1099511627776) (hn : l.length ≤ 1099511627776) (hBw : B ≤ w.heap.size) :
    Calls Tryd.prog 26 #[v, .int .i64 (k : Int)] w fun e w' => e = .returned (.int .i64 ((k + 2 * l.length : Nat) : Int)) ∧ w'.ownsRow B 37 2 v l.length (attrCells (markL k l.length)) ∧ Below B w w' := by
  obtain ⟨hlc, ho⟩ := ho
  rcases ho with ⟨rfl, h0⟩ | ⟨g, cap, cur, rfl, hB, hg, hl, hm, hc, ht⟩
  · rw [h0]
    go_enter Tryd.func26, Tryd.ntmps26
    go_wp2
    refine wp_loop_rounds 1 ?_
    rw [rounds_succ]
    go_wp2
    go_ret
    exact ⟨rfl, ⟨rfl, .inl ⟨rfl, rfl⟩⟩, Below.refl _ _⟩
  clear hlc ht
  generalize hlen : l.length = n at *
  clear hlen
  have Hm : Hid (cap ≤ maxLen) := hm
  clear hm
  have hrow0 : w.rowIs g 37 (cap * 2) (fun i => (cur[i]?).getD (.int .i64 0)) := by
    refine ⟨cur, hg, hc, fun i hi => ?_⟩
    have hlt : i < cur.size := by omega
    simp [hlt]
  clear hg
  go_enter Tryd.func26, Tryd.ntmps26
  go_wp2
  go_loopw [1, 5] (fun kv iv wr => ∃ i : Nat, i ≤ n ∧ iv = .int .i64 (i : Int) ∧ kv = .int .i64 ((k + 2 * i : Nat) : Int) ∧ Hid (wr.rowIs g 37 (cap * 2) (fun j => if j < 2 * i then .string (markB (k + j)) else (cur[j]?).getD (.int .i64 0))) ∧ Below B w wr) (fun _ iv _ => n - (intOf iv).toNat)
  case atStart =>
    refine ⟨0, Nat.zero_le _, rfl, rfl, ?_, Below.refl _ _⟩
    show w.rowIs _ _ _ _
    simpa using hrow0
  case round =>
    obtain ⟨i, hi, rfl, rfl, Hrow, hbel⟩ := hrel
    clear hrow0
    by_cases hlt : i < n
    · have Hk1 := fun w : World => markText_any (k + 2 * i) w (by omega)
      have Hk2 : Hid (∀ w : World, Calls Tryd.prog 65 #[.int .i64 (((k + 2 * i : Nat) : Int) + 1)] w fun e w' => e = .returned (.string (markB (k + 2 * i + 1))) ∧ Below w.heap.size w w') := fun w => markText_any (k + 2 * i + 1) w (by omega)
      have hsz := hbel.size
      go_wp2_with fail
      refine (Hk1 _).mono ?_
      rintro e w1 ⟨rfl, b1⟩
      have hr1 := rowIs_below Hrow.out b1
      have c1 := hr1.cell (i := i * 2) (by omega)
      have f1 := hr1.frozen (i * 2)
      generalize hold : (if i * 2 < 2 * i then Value.string (markB (k + i * 2)) else (cur[i * 2]?).getD (.int .i64 0)) = old at c1
      clear hold
      have hr2 := hr1.set (i * 2) (.string (markB (k + 2 * i)))
      have Hr2 : Hid (World.rowIs _ g 37 (cap * 2) _) := hr2
      have b1' : Below B w w1 := hbel.trans (b1.mono (by omega))
      have b2' : Below B w (w1.setCell ⟨g, i * 2, none⟩ (.string (markB (k + 2 * i)))) := b1'.setCell hB _
      clear hr1 hr2 Hk1 b1
      go_wp2_with fail
      refine (Hk2.out _).mono ?_
      rintro e w3 ⟨rfl, b3⟩
      have hr3 := rowIs_below Hr2.out b3
      have c3 := hr3.cell (i := i * 2 + 1) (by omega)
      have f3 := hr3.frozen (i * 2 + 1)
      generalize hold : (if i * 2 + 1 = i * 2 then Value.string (markB (k + 2 * i)) else if i * 2 + 1 < 2 * i then Value.string (markB (k + (i * 2 + 1))) else (cur[i * 2 + 1]?).getD (.int .i64 0)) = old2 at c3
      clear hold
      have hr4 := hr3.set (i * 2 + 1) (.string (markB (k + 2 * i + 1)))
      have Hr4 : Hid (World.rowIs _ g 37 (cap * 2) _) := hr4
      have b4' : Below B w (w3.setCell ⟨g, i * 2 + 1, none⟩ (.string (markB (k + 2 * i + 1)))) := (b2'.trans (b3.mono (by have := b2'.size; omega))).setCell hB _
      clear hr3 hr4 Hr2 Hk2 b3 b1' b2'
      go_wp2_with fail
      go_roundw
      case rel =>
        refine ⟨i + 1, by omega, by go_num, by go_num, ?_, b4'⟩
        refine Hr4.out.congr fun j hj => ?_
        by_cases e1 : j = i * 2 + 1
        · subst e1
          rw [if_pos rfl, if_pos (by omega)]
          congr 2
          omega
        · by_cases e0 : j = i * 2
          · subst e0
            rw [if_neg (by omega), if_pos rfl, if_pos (by omega)]
            congr 2
            omega
          · by_cases e2 : j < 2 * i
            · rw [if_neg e1, if_neg e0, if_pos e2, if_pos (by omega)]
            · rw [if_neg e1, if_neg e0, if_neg e2, if_neg (by omega)]
      case measure => simp [intOf]; omega
    · have hin : i = n := by omega
      subst hin
      go_wp2
      go_ret
      exact ⟨rfl, own_of_rowIs hB hl Hm.out Hrow.out (fun j hj => by rw [if_pos (by omega)]), hbel⟩

set_option maxHeartbeats 4000000 in
theorem heldAttrS_any (n k : Nat) (a : Option Addr) (cap : Nat) (w : World) (ha : AttrsAt w a (markL k n)) (hk : k ≤ 1099511627776) (hn : n ≤ 1099511627776) :
    Calls Tryd.prog 27 #[.slice a n cap, .int .i64 (k : Int)] w fun e w' => e = .returned (.int .i64 ((k + 2 * n : Nat) : Int)) ∧ Below w.heap.size w w' := by
  have Ha : Hid (AttrsAt w a (markL k n)) := ha
  clear ha
  go_enter Tryd.func27, Tryd.ntmps27
  go_wp2
  go_loopw [1, 5] (fun kv iv wr => ∃ i : Nat, i ≤ n ∧ iv = .int .i64 (i : Int) ∧ kv = .int .i64 ((k + 2 * i : Nat) : Int) ∧ Below w.heap.size w wr) (fun _ iv _ => n - (intOf iv).toNat)
  case atStart => exact ⟨0, Nat.zero_le _, rfl, rfl, Below.refl _ _⟩
  case round =>
    obtain ⟨i, hi, rfl, rfl, hbel⟩ := hrel
    by_cases hlt : i < n
    · rcases Ha.out with h | ⟨b, rfl, hb, hc⟩
      · have := markL_length k n
        rw [h] at this
        simp at this
        omega
      obtain ⟨c1, c2⟩ := hc i (by rw [markL_length]; exact hlt)
      have e : (markL k n).getD i (ByteArray.empty, ByteArray.empty) = (markB (k + 2 * i), markB (k + 2 * i + 1)) := by simp [markL, hlt]
      rw [e] at c1 c2
      have d1 : wr.cell? ⟨b, i * 2, none⟩ = some (.string (markB (k + 2 * i))) := (hbel.cell (by exact hb)).trans c1
      have d2 : wr.cell? ⟨b, i * 2 + 1, none⟩ = some (.string (markB (k + 2 * i + 1))) := (hbel.cell (by exact hb)).trans c2
      have Hk1 := fun w : World => markText_any (k + 2 * i) w (by omega)
      have Hk2 : Hid (∀ w : World, Calls Tryd.prog 65 #[.int .i64 (((k + 2 * i : Nat) : Int) + 1)] w fun e w' => e = .returned (.string (markB (k + 2 * i + 1))) ∧ Below w.heap.size w w') := fun w => markText_any (k + 2 * i + 1) w (by omega)
      clear hc c1 c2 e Ha
      generalize markB (k + 2 * i) = x at *
      generalize markB (k + 2 * i + 1) = y at *
      have gx : (x.toList == x.toList) = true := by simp
      have gy : (y.toList == y.toList) = true := by simp
      have k0 : (0 : Int) ≤ (i : Int) := by omega
      have k1 : (i : Int) < (n : Int) := by omega
      have HB : Hid (∀ wx : World, Below wr.heap.size wr wx → Below w.heap.size w wx) := fun wx h => hbel.trans (h.mono hbel.size)
      go_upto_region 4 with fail
      go_cut [19] from 6 to 31 (fun r wx => r = .bool false ∧ Below wr.heap.size wr wx)
      case first =>
        go_region_held3 (fun w' => w'.cell? ⟨b, i * 2, none⟩ = some (.string x) ∧ w'.cell? ⟨b, i * 2 + 1, none⟩ = some (.string y)) (first | go_keep | (go_split_ands; exact ⟨keep_cell hb' (by assumption), keep_cell hb' (by assumption)⟩)) (first | (go_at_call 65; refine (Hk1 _).mono ?_; rintro e w' ⟨rfl, hb'⟩))
        go_wp2_with fail
        go_meet
        case rel => exact ⟨rfl, ((Below.refl _ _).drew).trans hb'⟩
      case rest =>
        obtain ⟨rfl, hbx⟩ := hcut
        have d2' : wc.cell? ⟨b, i * 2 + 1, none⟩ = some (.string y) := keep_cell hbx d2
        have HB2 : Hid (∀ wx : World, Below wc.heap.size wc wx → Below w.heap.size w wx) := fun wx h => HB.out _ (hbx.trans (h.mono hbx.size))
        clear d1 d2 hbx HB Hk1
        go_upto_region 7 with fail
        go_cut [29] from 6 to 31 (fun r wx => r = .bool false ∧ Below wc.heap.size wc wx)
        case first =>
          go_region_held3 (fun w' => w'.cell? ⟨b, i * 2 + 1, none⟩ = some (.string y)) (first | go_keep | exact keep_cell hb' (by assumption)) (first | (go_at_call 65; refine (Hk2.out _).mono ?_; rintro e w' ⟨rfl, hb'⟩))
          go_wp2_with fail
          go_meet
          case rel => exact ⟨rfl, ((Below.refl _ _).drew).trans hb'⟩
        case rest =>
          obtain ⟨rfl, hby⟩ := hcut
          have hbel2 := HB2.out _ hby
          go_wp2_with fail
          go_roundw
          case rel => exact ⟨i + 1, by omega, by go_num, by go_num, hbel2⟩
          case measure => simp [intOf]; omega
    · have hin : i = n := by omega
      subst hin
      go_wp2
      go_ret
      exact ⟨rfl, hbel⟩

end Go.Proofs.YtlaidaghmhmgbaaDoor.Sg

namespace Go.Proofs.YtlaidaghmhmgbaaDoor.Sg
open Go.ChangeShapes Go.WideShapes Go.ChangeAt Go.RowKit

theorem attrsE_length (s : ByteArray) : ∀ (d k : Nat) (out : List AttrB) (self : Bool), s.size - k ≤ d → out.length ≤ k → k ≤ s.size → (attrsE s k out self).1.length ≤ s.size := by
  intro d
  induction d with
  | zero =>
    intro k out self hd ho hk
    rw [attrsE_end (by omega)]
    show out.length ≤ _
    omega
  | succ d ih =>
    intro k out self hd ho hk
    by_cases h : k < s.size
    · by_cases h2 : runE skipU s k < s.size
      · rw [attrsE_goes h rfl h2]
        have h3 := attrAt_le (s := s) (k := k) rfl h2
        have h4 := runE_le (p := skipU) hk
        refine ih _ _ _ (by omega) ?_ h3.2
        split
        · omega
        · rw [List.length_append]
          show out.length + 1 ≤ _
          omega
      · rw [attrsE_last h rfl h2]
        show out.length ≤ _
        omega
    · rw [attrsE_end h]
      show out.length ≤ _
      omega

set_option maxRecDepth 20000 in
set_option maxHeartbeats 4000000 in
theorem attrsLaw (T : World → Prop) (hTb : ∀ w w' : World, T w → Below w.heap.size w w' → T w') (s : ByteArray)
    (hI : s.size ≤ 1048576 → ∀ w, T w → Calls Tryd.prog 11 #[.string s] w fun e w' => AttrsBack w w.heap.size (attrsE s 0 [] false) e w')
    (w : World) (hs : s.size ≤ maxLen) (hT : T w) :
    Calls Tryd.prog 6 #[.string s] w fun e w' => e = .returned (.bool true) ∧ Below w.heap.size w w' := by
  unfold maxLen at hs
  by_cases hbig : (1048576 : Int) < (s.size : Int)
  · go_enter Tryd.func6, Tryd.ntmps6
    go_wp2_with fail
    go_ret
    exact ⟨rfl, Below.refl _ _⟩
  have hn := attrsE_length s s.size 0 [] false (by omega) (Nat.le_refl _) (Nat.zero_le _)
  have HT : Hid (T w) := hT
  have HTb : Hid (∀ w w' : World, T w → Below w.heap.size w w' → T w') := hTb
  have Hspec : Hid (∀ w, Calls Tryd.prog 12 #[.string s] w fun e w' => AttrsBack w w.heap.size (attrsE s 0 [] false) e w') := fun w => specAttrs s w (by omega)
  have Himpl : Hid (∀ w, T w → Calls Tryd.prog 11 #[.string s] w fun e w' => AttrsBack w w.heap.size (attrsE s 0 [] false) e w') := hI (by omega)
  clear hI hT hTb
  generalize attrsE s 0 [] false = r at *
  obtain ⟨l, self⟩ := r
  have hn' : l.length ≤ s.size := hn
  clear hn
  have hself : (self != self) = false := by simp
  go_enter Tryd.func6, Tryd.ntmps6
  go_wp2_with fail
  refine (Hspec.out _).mono ?_
  rintro e w1 ⟨v1, rfl, o1, b1⟩
  have T1 : T w1 := HTb.out _ _ HT.out b1
  go_wp2_with fail
  refine (Himpl.out _ T1).mono ?_
  rintro e w2 ⟨v2, rfl, o2, b2⟩
  have o12 := owns_below o1 (Nat.le_refl _) b2
  have b02 : Below w.heap.size w w2 := b1.trans (b2.mono b1.size)
  obtain ⟨a1, c1, rfl, A1⟩ := attrs_of_own o12
  obtain ⟨a2, c2, rfl, A2⟩ := attrs_of_own o2
  clear T1
  go_wp2_with fail
  refine (eqAttrS_same l a2 a1 l.length c2 c1 _ A2 A1 rfl (by omega)).mono ?_
  rintro e w3 ⟨rfl, b3⟩
  have o23 := owns_below o2 (Nat.le_refl _) b3
  have b03 : Below w.heap.size w w3 := b02.trans (b3.mono b02.size)
  have b13 : Below w1.heap.size w1 w3 := b2.trans (b3.mono b2.size)
  clear o12 o2 b3 b02 b2 A1 A2
  go_wp2_with fail
  refine (markAttrS_any l _ 1 w1.heap.size _ o23 (by omega) (by omega) b13.size).mono ?_
  rintro e w4 ⟨rfl, o24, b4⟩
  have b04 : Below w.heap.size w w4 := b03.trans (b4.mono b1.size)
  have o14 := owns_below o1 (Nat.le_refl _) (b13.trans b4)
  clear o23 b4 b13 b03 o1
  have T4 : T w4 := HTb.out _ _ HT.out b04
  have hq1 : ¬ (1 + 2 * (l.length : Int)) < 0 := by omega
  have hq1' : decide ((1 + 2 * (l.length : Int)) < 0) = false := decide_eq_false hq1
  have hq2 : ((1 + 2 * (l.length : Int)) != (1 + 2 * (l.length : Int))) = false := by simp
  obtain ⟨a2', c2', e2', A24⟩ := attrs_of_own (l := markL 1 l.length) o24
  rw [markL_length] at e2'
  cases e2'
  go_wp2_with fail
  refine (heldAttrS_any l.length 1 a2 c2 _ A24 (by omega) (by omega)).mono ?_
  rintro e w5 ⟨rfl, b5⟩
  have T5 : T w5 := HTb.out _ _ T4 b5
  have b05 : Below w.heap.size w w5 := b04.trans (b5.mono b04.size)
  have o15 := owns_below o14 (Nat.le_refl _) b5
  have o25 := owns_below o24 (Nat.le_refl _) b5
  clear o14 o24 b5 b04 A24 T4
  go_wp2_with fail
  refine (Himpl.out _ T5).mono ?_
  rintro e w6 ⟨v6, rfl, o6, b6⟩
  have o16 := owns_below o15 (Nat.le_refl _) b6
  have o26 := owns_below o25 (Nat.le_refl _) b6
  have b06 : Below w.heap.size w w6 := b05.trans (b6.mono b05.size)
  obtain ⟨a6, c6, rfl, A6⟩ := attrs_of_own o6
  obtain ⟨a1', c1', e1', A16⟩ := attrs_of_own o16
  cases e1'
  clear o15 o25 b05 b6 T5
  go_wp2_with fail
  refine (eqAttrS_same l a6 a1 l.length c6 c1 _ A6 A16 rfl (by omega)).mono ?_
  rintro e w7 ⟨rfl, b7⟩
  have o27 := owns_below o26 (Nat.le_refl _) b7
  have b07 : Below w.heap.size w w7 := b06.trans (b7.mono b06.size)
  obtain ⟨a2', c2', e2', A27⟩ := attrs_of_own (l := markL 1 l.length) o27
  rw [markL_length] at e2'
  cases e2'
  clear o6 o16 o26 b7 b06 A6 A16
  go_wp2_with fail
  refine (heldAttrS_any l.length 1 a2 c2 _ A27 (by omega) (by omega)).mono ?_
  rintro e w8 ⟨rfl, b8⟩
  have b08 := b07.trans (b8.mono b07.size)
  clear b8 b07 o27 A27
  go_wp2_with fail
  go_ret
  exact ⟨rfl, b08⟩

end Go.Proofs.YtlaidaghmhmgbaaDoor.Sg
