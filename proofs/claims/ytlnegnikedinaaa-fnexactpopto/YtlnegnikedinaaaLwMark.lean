/- Contracts of the laws' marks of attributes: a slice that the call owns is marked, and the marks are found. -/
import Derived.Test.YtlnegnikedinaaaLwText
namespace Go.Proofs.Ytlnegnikedinaaa.Sg
open Go.ChangeShapes Go.WideShapes Go.ChangeAt Go.RowKit

set_option maxHeartbeats 4000000 in
theorem markAttrS_grown (l : List AttrB) (v : Value) (k B : Nat) (w : World) (ho : w.ownsRow B 84 2 v l.length (attrCells l)) (hk : k ≤ 1099511627776) (hn : l.length ≤ 1099511627776) :
    Calls Try.prog 46 #[v, .int .i64 (k : Int)] w fun e w' => e = .returned (.int .i64 ((k + 2 * l.length : Nat) : Int)) ∧ w'.ownsRow B 84 2 v l.length (attrCells (markL k l.length)) ∧ w.grownBy w' v.ownBlock := by
  obtain ⟨hlc, ho⟩ := ho
  rcases ho with ⟨rfl, h0⟩ | ⟨g, cap, cur, rfl, hB, hg, hl, hm, hc, ht⟩
  · rw [h0]
    go_enter Try.func46, Try.ntmps46
    go_wp2
    refine wp_loop_rounds 1 ?_
    rw [rounds_succ]
    go_wp2
    go_ret
    exact ⟨rfl, ⟨rfl, .inl ⟨rfl, rfl⟩⟩, grown_refl _ _⟩
  clear hlc ht
  generalize hlen : l.length = n at *
  clear hlen
  have Hm : Hid (cap ≤ maxLen) := hm
  clear hm
  have hrow0 : w.rowIs g 84 (cap * 2) (fun i => (cur[i]?).getD (.int .i64 0)) := by
    refine ⟨cur, hg, hc, fun i hi => ?_⟩
    have hlt : i < cur.size := by omega
    simp [hlt]
  clear hg
  go_enter Try.func46, Try.ntmps46
  go_wp2
  go_loopw [1, 5] (fun kv iv wr => ∃ i : Nat, i ≤ n ∧ iv = .int .i64 (i : Int) ∧ kv = .int .i64 ((k + 2 * i : Nat) : Int) ∧ Hid (wr.rowIs g 84 (cap * 2) (fun j => if j < 2 * i then .string (markB (k + j)) else (cur[j]?).getD (.int .i64 0))) ∧ w.grownBy wr (some g)) (fun _ iv _ => n - (intOf iv).toNat)
  case atStart =>
    refine ⟨0, Nat.zero_le _, rfl, rfl, ?_, grown_refl _ _⟩
    show w.rowIs _ _ _ _
    simpa using hrow0
  case round =>
    obtain ⟨i, hi, rfl, rfl, Hrow, hbel⟩ := hrel
    clear hrow0
    by_cases hlt : i < n
    · have Hk1 := fun w : World => markText_any (k + 2 * i) w (by omega)
      have Hk2 : Hid (∀ w : World, Calls Try.prog 45 #[.int .i64 (((k + 2 * i : Nat) : Int) + 1)] w fun e w' => e = .returned (.string (markB (k + 2 * i + 1))) ∧ Below w.heap.size w w') := fun w => markText_any (k + 2 * i + 1) w (by omega)
      have hsz := hbel.size
      go_wp2_with fail
      refine (Hk1 _).mono ?_
      rintro e w1 ⟨rfl, b1⟩
      have hr1 := rowIs_below Hrow.out b1
      have c1 := hr1.cell (i := i * 2) (by omega)
      have f1 := hr1.frozen (i * 2)
      generalize hold : (if i * 2 < 2 * i then Value.string (markB (k + i * 2)) else (cur[i * 2]?).getD (.int .i64 0)) = old at c1
      clear hold
      have hr2 := hr1.set (i * 2) (.string (markB (k + 2 * i)))
      have Hr2 : Hid (World.rowIs _ g 84 (cap * 2) _) := hr2
      have b1' : w.grownBy w1 (some g) := grown_trans hbel (grown_of_below b1 _)
      have b2' : w.grownBy (w1.setCell ⟨g, i * 2, none⟩ (.string (markB (k + 2 * i)))) (some g) := grown_trans b1' (grown_set _ _ _ _)
      clear hr1 hr2 Hk1 b1
      go_wp2_with fail
      refine (Hk2.out _).mono ?_
      rintro e w3 ⟨rfl, b3⟩
      have hr3 := rowIs_below Hr2.out b3
      have c3 := hr3.cell (i := i * 2 + 1) (by omega)
      have f3 := hr3.frozen (i * 2 + 1)
      generalize hold : (if i * 2 + 1 = i * 2 then Value.string (markB (k + 2 * i)) else if i * 2 + 1 < 2 * i then Value.string (markB (k + (i * 2 + 1))) else (cur[i * 2 + 1]?).getD (.int .i64 0)) = old2 at c3
      clear hold
      have hr4 := hr3.set (i * 2 + 1) (.string (markB (k + 2 * i + 1)))
      have Hr4 : Hid (World.rowIs _ g 84 (cap * 2) _) := hr4
      have b4' : w.grownBy (w3.setCell ⟨g, i * 2 + 1, none⟩ (.string (markB (k + 2 * i + 1)))) (some g) := grown_trans (grown_trans b2' (grown_of_below b3 _)) (grown_set _ _ _ _)
      clear hr3 hr4 Hr2 Hk2 b3 b1' b2'
      go_wp2_with fail
      go_roundw
      case rel =>
        refine ⟨i + 1, by omega, by go_num, by go_num, ?_, b4'⟩
        refine Hr4.out.congr fun j hj => ?_
        by_cases e1 : j = i * 2 + 1
        · subst e1
          rw [if_pos rfl, if_pos (by omega)]
          congr 2
          omega
        · by_cases e0 : j = i * 2
          · subst e0
            rw [if_neg (by omega), if_pos rfl, if_pos (by omega)]
            congr 2
            omega
          · by_cases e2 : j < 2 * i
            · rw [if_neg e1, if_neg e0, if_pos e2, if_pos (by omega)]
            · rw [if_neg e1, if_neg e0, if_neg e2, if_neg (by omega)]
      case measure => simp [intOf]; omega
    · have hin : i = n := by omega
      subst hin
      go_wp2
      go_ret
      exact ⟨rfl, own_of_rowIs hB hl Hm.out Hrow.out (fun j hj => by rw [if_pos (by omega)]), hbel⟩

theorem markAttrS_any (l : List AttrB) (v : Value) (k B : Nat) (w : World) (ho : w.ownsRow B 84 2 v l.length (attrCells l)) (hk : k ≤ 1099511627776) (hn : l.length ≤ 1099511627776) (hBw : B ≤ w.heap.size) :
    Calls Try.prog 46 #[v, .int .i64 (k : Int)] w fun e w' => e = .returned (.int .i64 ((k + 2 * l.length : Nat) : Int)) ∧ w'.ownsRow B 84 2 v l.length (attrCells (markL k l.length)) ∧ Below B w w' :=
  (markAttrS_grown l v k B w ho hk hn).mono fun _ _ h => ⟨h.1, h.2.1, grown_below ho (Below.refl _ _) (Nat.le_refl _) h.2.2 hBw⟩

set_option maxHeartbeats 4000000 in
theorem heldAttrS_any (n k : Nat) (a : Option Addr) (cap : Nat) (w : World) (ha : AttrsAt w a (markL k n)) (hk : k ≤ 1099511627776) (hn : n ≤ 1099511627776) :
    Calls Try.prog 47 #[.slice a n cap, .int .i64 (k : Int)] w fun e w' => e = .returned (.int .i64 ((k + 2 * n : Nat) : Int)) ∧ Below w.heap.size w w' := by
  have Ha : Hid (AttrsAt w a (markL k n)) := ha
  clear ha
  go_enter Try.func47, Try.ntmps47
  go_wp2
  go_loopw [1, 5] (fun kv iv wr => ∃ i : Nat, i ≤ n ∧ iv = .int .i64 (i : Int) ∧ kv = .int .i64 ((k + 2 * i : Nat) : Int) ∧ Below w.heap.size w wr) (fun _ iv _ => n - (intOf iv).toNat)
  case atStart => exact ⟨0, Nat.zero_le _, rfl, rfl, Below.refl _ _⟩
  case round =>
    obtain ⟨i, hi, rfl, rfl, hbel⟩ := hrel
    by_cases hlt : i < n
    · rcases Ha.out with h | ⟨b, rfl, hb, hc⟩
      · have := markL_length k n
        rw [h] at this
        simp at this
        omega
      obtain ⟨c1, c2⟩ := hc i (by rw [markL_length]; exact hlt)
      have e : (markL k n).getD i (ByteArray.empty, ByteArray.empty) = (markB (k + 2 * i), markB (k + 2 * i + 1)) := by simp [markL, hlt]
      rw [e] at c1 c2
      have d1 : wr.cell? ⟨b, i * 2, none⟩ = some (.string (markB (k + 2 * i))) := (hbel.cell (by exact hb)).trans c1
      have d2 : wr.cell? ⟨b, i * 2 + 1, none⟩ = some (.string (markB (k + 2 * i + 1))) := (hbel.cell (by exact hb)).trans c2
      have Hk1 := fun w : World => markText_any (k + 2 * i) w (by omega)
      have Hk2 : Hid (∀ w : World, Calls Try.prog 45 #[.int .i64 (((k + 2 * i : Nat) : Int) + 1)] w fun e w' => e = .returned (.string (markB (k + 2 * i + 1))) ∧ Below w.heap.size w w') := fun w => markText_any (k + 2 * i + 1) w (by omega)
      clear hc c1 c2 e Ha
      generalize markB (k + 2 * i) = x at *
      generalize markB (k + 2 * i + 1) = y at *
      have gx : (x.toList == x.toList) = true := by simp
      have gy : (y.toList == y.toList) = true := by simp
      have k0 : (0 : Int) ≤ (i : Int) := by omega
      have k1 : (i : Int) < (n : Int) := by omega
      have HB : Hid (∀ wx : World, Below wr.heap.size wr wx → Below w.heap.size w wx) := fun wx h => hbel.trans (h.mono hbel.size)
      go_upto_region 4 with fail
      go_cut [19] from 6 to 31 (fun r wx => r = .bool false ∧ Below wr.heap.size wr wx)
      case first =>
        go_region_held3 (fun w' => w'.cell? ⟨b, i * 2, none⟩ = some (.string x) ∧ w'.cell? ⟨b, i * 2 + 1, none⟩ = some (.string y)) (first | go_keep | (go_split_ands; exact ⟨keep_cell hb' (by assumption), keep_cell hb' (by assumption)⟩)) (first | (go_at_call 45; refine (Hk1 _).mono ?_; rintro e w' ⟨rfl, hb'⟩))
        go_wp2_with fail
        go_meet
        case rel => exact ⟨rfl, ((Below.refl _ _).drew).trans hb'⟩
      case rest =>
        obtain ⟨rfl, hbx⟩ := hcut
        have d2' : wc.cell? ⟨b, i * 2 + 1, none⟩ = some (.string y) := keep_cell hbx d2
        have HB2 : Hid (∀ wx : World, Below wc.heap.size wc wx → Below w.heap.size w wx) := fun wx h => HB.out _ (hbx.trans (h.mono hbx.size))
        clear d1 d2 hbx HB Hk1
        go_upto_region 7 with fail
        go_cut [29] from 6 to 31 (fun r wx => r = .bool false ∧ Below wc.heap.size wc wx)
        case first =>
          go_region_held3 (fun w' => w'.cell? ⟨b, i * 2 + 1, none⟩ = some (.string y)) (first | go_keep | exact keep_cell hb' (by assumption)) (first | (go_at_call 45; refine (Hk2.out _).mono ?_; rintro e w' ⟨rfl, hb'⟩))
          go_wp2_with fail
          go_meet
          case rel => exact ⟨rfl, ((Below.refl _ _).drew).trans hb'⟩
        case rest =>
          obtain ⟨rfl, hby⟩ := hcut
          have hbel2 := HB2.out _ hby
          go_wp2_with fail
          go_roundw
          case rel => exact ⟨i + 1, by omega, by go_num, by go_num, hbel2⟩
          case measure => simp [intOf]; omega
    · have hin : i = n := by omega
      subst hin
      go_wp2
      go_ret
      exact ⟨rfl, hbel⟩

end Go.Proofs.Ytlnegnikedinaaa.Sg
