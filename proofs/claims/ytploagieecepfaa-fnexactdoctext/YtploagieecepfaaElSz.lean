/- Contracts of the laws' szEl, szElS. -/
import Derived.Test.YtploagieecepfaaElCame
namespace Go.Proofs.Ytploagieecepfaa.Sg
open Go.ChangeShapes Go.WideShapes Go.ChangeAt Go.RowKit

theorem elsW_drop : ∀ (es : List ElB) (k : Nat) (h : k < es.length), elsW (es.drop k) = elW (es[k]'h) + elsW (es.drop (k + 1))
  | [], k, h => absurd h (by simp)
  | e :: es, 0, _ => by simp [elsW]
  | e :: es, k + 1, h => by
    have := elsW_drop es k (by simpa using h)
    simpa using this
def SzEl (e : ElB) : Prop := ∀ (v : Value) (left : Int) (w : World), ElV SlAttrsIn anyB w v e → ElHeld e → 0 ≤ left → left ≤ 1048576 → Calls Try.prog 12 #[v, .int .i64 left] w fun r w' => r = .returned (.int .i64 (leftZ left (elW e))) ∧ Below w.heap.size w w'
def SzElS (es : List ElB) : Prop := ∀ (a : Option Addr) (n cap : Nat) (left : Int) (w : World), KidsIn SlAttrsIn anyB w a es → es.length = n → es.length ≤ 9223372036854775807 → ElsHeld es → 0 ≤ left → left ≤ 1048576 → Calls Try.prog 5 #[.slice a n cap, .int .i64 left] w fun r w' => r = .returned (.int .i64 (leftZ left (es.length + elsW es))) ∧ Below w.heap.size w w'

set_option maxHeartbeats 4000000 in
theorem szEl_of (kd sp : Int) (nm : ByteArray) (ats : List AttrB) (tx : ByteArray) (ks : List ElB) (hB : SzElS ks) : SzEl (.mk kd sp nm ats tx ks) := by
  intro v left w hv hh hl1 hl2
  obtain ⟨av, ka, kc, rfl, ⟨a, cap, rfl, hA⟩, hk⟩ := hv
  unfold ElHeld at hh
  obtain ⟨h1, h2, h3, h4, h5⟩ := hh
  have HA : Hid (∀ W, Below w.heap.size w W → ∀ cur : Int, 0 ≤ cur → cur ≤ 1048576 → Calls Try.prog 23 #[.slice a ats.length cap, .int .i64 cur] W fun e w' => e = .returned (.int .i64 (leftZ cur (attrsW ats))) ∧ Below W.heap.size W w') := fun W hW cur c0 c1 => szAttrS_any ats a ats.length cap cur W (hA.keep hW) rfl h2 c0 c1
  have HK : Hid (∀ W, Below w.heap.size w W → ∀ cur : Int, 0 ≤ cur → cur ≤ 1048576 → Calls Try.prog 5 #[.slice ka ks.length kc, .int .i64 cur] W fun e w' => e = .returned (.int .i64 (leftZ cur (ks.length + elsW ks))) ∧ Below W.heap.size W w') := fun W hW cur c0 c1 => hB ka ks.length kc cur W (hk.keep lies_in hW) rfl h4 h5 c0 c1
  have Hn : Hid (leftZ left (elW (.mk kd sp nm ats tx ks)) = leftZ left (nm.size + (attrsW ats + (tx.size + (ks.length + elsW ks))))) := rfl
  generalize leftZ left (elW (.mk kd sp nm ats tx ks)) = R at *
  clear hA h2 hk
  have q1 : IntKind.i64.wrap (left - (nm.size : Int)) = left - (nm.size : Int) := IntWalk.i64_in _ (by omega)
  by_cases g1 : left - (nm.size : Int) < 0
  · have Hn2 : Hid (R = -1) := by
      show _ = _
      rw [Hn.out]
      exact leftZ_no (by unfold leftZ; rw [if_neg (by omega)]; omega) hl1
    clear Hn HA HK
    go_enter Try.func12, Try.ntmps12
    go_wp2
    go_ret
    exact ⟨ret_left Hn2.out.symm, (Below.refl _ _).alloc (Nat.le_refl _) _⟩
  have g1' : decide (left - (nm.size : Int) < 0) = false := decide_eq_false g1
  have Hn2 : Hid (R = leftZ (left - (nm.size : Int)) (attrsW ats + (tx.size + (ks.length + elsW ks)))) := by
    show _ = _
    have e : leftZ left nm.size = left - (nm.size : Int) := by unfold leftZ; rw [if_pos (by omega)]
    rw [Hn.out, (leftZ_yes (by rw [e]; exact g1) hl1).1, e]
  clear Hn
  obtain ⟨c, hc⟩ : ∃ c : Int, left - (nm.size : Int) = c := ⟨_, rfl⟩
  have hc0 : 0 ≤ c := by omega
  have hc1 : c ≤ 1048576 := by omega
  rw [hc] at Hn2
  obtain ⟨z, hz⟩ : ∃ z, leftZ c (attrsW ats) = z := ⟨_, rfl⟩
  have HAc : Hid (∀ W, Below w.heap.size w W → Calls Try.prog 23 #[.slice a ats.length cap, .int .i64 (left - (nm.size : Int))] W fun e w' => e = .returned (.int .i64 z) ∧ Below W.heap.size W w') := fun W hW => by
    have h := HA.out W hW c hc0 hc1
    rw [hz] at h
    rw [hc]
    exact h
  clear HA hc
  go_enter Try.func12, Try.ntmps12
  go_wp2_with fail
  refine (HAc.out _ ((Below.refl _ _).alloc (Nat.le_refl _) _)).mono ?_
  rintro e w1 ⟨rfl, b1⟩
  have d4 : w1.cell? ⟨w.heap.size, 4, none⟩ = some (.string tx) := (b1.cell (by simp)).trans (by simp)
  have d6 : w1.cell? ⟨w.heap.size, 5, none⟩ = some (.slice ka ks.length kc) := (b1.cell (by simp)).trans (by simp)
  have b2 : Below w.heap.size w w1 := ((Below.refl _ _).alloc (Nat.le_refl _) _).trans (b1.mono (by simp))
  clear b1 HAc
  by_cases gz : z < 0
  · have Hf : Hid (R = -1) := Hn2.out.trans (leftZ_no (by rw [hz]; exact gz) hc0)
    clear Hn2 hz HK
    go_wp2_with fail
    go_ret
    exact ⟨ret_left Hf.out.symm, b2⟩
  · have hy := leftZ_yes (b := tx.size + (ks.length + elsW ks)) (by rw [hz]; exact gz) hc0
    rw [hz] at hy
    have hzc := hy.2
    have gz' : decide (z < 0) = false := decide_eq_false gz
    have Hf : Hid (R = leftZ z (tx.size + (ks.length + elsW ks))) := Hn2.out.trans hy.1
    have q3 : IntKind.i64.wrap (z - (tx.size : Int)) = z - (tx.size : Int) := IntWalk.i64_in _ (by omega)
    clear Hn2 hz hy
    by_cases g4 : z - (tx.size : Int) < 0
    · have Hf2 : Hid (R = -1) := by
        show _ = _
        rw [Hf.out]
        exact leftZ_no (by unfold leftZ; rw [if_neg (by omega)]; omega) (by omega)
      clear Hf HK
      go_wp2_with fail
      go_ret
      exact ⟨ret_left Hf2.out.symm, b2⟩
    · have g4' : decide (z - (tx.size : Int) < 0) = false := decide_eq_false g4
      have e4 : leftZ z tx.size = z - (tx.size : Int) := by unfold leftZ; rw [if_pos (by omega)]
      have Hf2 : Hid (R = leftZ (z - (tx.size : Int)) (ks.length + elsW ks)) := by
        show _ = _
        rw [Hf.out, (leftZ_yes (by rw [e4]; exact g4) (by omega)).1, e4]
      clear Hf e4
      have HKc := HK.out w1 b2 (z - (tx.size : Int)) (by omega) (by omega)
      obtain ⟨y, hy⟩ : ∃ y, leftZ (z - (tx.size : Int)) (ks.length + elsW ks) = y := ⟨_, rfl⟩
      rw [hy] at HKc Hf2
      have Hy : Hid (y = -1 ∨ 0 ≤ y) := by
        show _ ∨ _
        rw [← hy]
        unfold leftZ
        split
        · right; omega
        · left; rfl
      clear hy HK
      go_wp2_with fail
      refine HKc.mono ?_
      rintro e w2 ⟨rfl, b3⟩
      have b4 : Below w.heap.size w w2 := b2.trans (b3.mono b2.size)
      clear HKc b3 b2 d4 d6
      rcases Hy.out with rfl | hy0
      · go_wp2_with fail
        go_ret
        exact ⟨ret_left Hf2.out.symm, b4⟩
      · have gy : decide (y < 0) = false := decide_eq_false (by omega)
        go_wp2_with fail
        go_ret
        exact ⟨ret_left Hf2.out.symm, b4⟩

set_option maxHeartbeats 2000000 in
theorem szElS_of (l : List ElB) (hA : ∀ e ∈ l, SzEl e) : SzElS l := by
  intro a n cap left w ha hl hlen hh hl1 hl2
  have Ha : Hid (KidsIn SlAttrsIn anyB w a l) := ha
  have Hl : Hid (l.length = n) := hl
  have Hh : Hid (ElsHeld l) := hh
  have hn : n ≤ 9223372036854775807 := by rw [← hl]; exact hlen
  have Hn : Hid (leftZ left (l.length + elsW l) = leftZ left (n + elsW l)) := by
    show _ = _
    rw [hl]
  have q1 : IntKind.i64.wrap (left - (n : Int)) = left - (n : Int) := IntWalk.i64_in _ (by omega)
  clear ha hl hh
  by_cases g1 : left - (n : Int) < 0
  · have Hn2 : Hid (leftZ left (l.length + elsW l) = -1) := by
      show _ = _
      rw [Hn.out]
      exact leftZ_no (by unfold leftZ; rw [if_neg (by omega)]; omega) hl1
    clear Hn
    go_enter Try.func5, Try.ntmps5
    go_wp2
    go_ret
    exact ⟨ret_left Hn2.out.symm, Below.refl _ _⟩
  have g1' : decide (left - (n : Int) < 0) = false := decide_eq_false g1
  have Hn2 : Hid (leftZ left (l.length + elsW l) = leftZ (left - (n : Int)) (elsW (l.drop 0))) := by
    show _ = _
    have e : leftZ left n = left - (n : Int) := by unfold leftZ; rw [if_pos (by omega)]
    rw [Hn.out, (leftZ_yes (by rw [e]; exact g1) hl1).1, e]
    rfl
  clear Hn
  go_enter Try.func5, Try.ntmps5
  go_wp2
  go_loopw [1, 5] (fun lv iv wr => ∃ (k : Nat) (cur : Int), k ≤ n ∧ iv = .int .i64 (k : Int) ∧ lv = .int .i64 cur ∧ 0 ≤ cur ∧ cur ≤ 1048576 ∧ Hid (leftZ left (l.length + elsW l) = leftZ cur (elsW (l.drop k))) ∧ Below w.heap.size w wr) (fun _ iv _ => n - (intOf iv).toNat)
  case atStart => exact ⟨0, left - (n : Int), Nat.zero_le _, rfl, rfl, by omega, by omega, Hn2, Below.refl _ _⟩
  case round =>
    obtain ⟨k, cur, hk, rfl, rfl, hc0, hc1, Hsp, hbel⟩ := hrel
    by_cases hlt : k < n
    · have hkl : k < l.length := by rw [Hl.out]; exact hlt
      rcases Ha.out.keep lies_in hbel with h | ⟨b, off, rfl, _, hc⟩
      · rw [h] at hkl
        exact absurd hkl (Nat.not_lt_zero _)
      obtain ⟨v0, v1, v2, v3, v4, v5, c0, c1, c2, c3, c4, c5, hV⟩ := (hc.get k hkl).cells
      have hsum := elsW_drop l k hkl
      have hp := Hh.out.get k hkl
      have hA1 := hA _ (List.getElem_mem hkl)
      clear hc
      generalize l[k]'hkl = p at *
      clear hkl
      have Hs := hA1 _ cur wr hV hp hc0 hc1
      rw [hsum] at Hsp
      clear hsum hp hV hA1
      obtain ⟨z, hz⟩ : ∃ z, leftZ cur (elW p) = z := ⟨_, rfl⟩
      rw [hz] at Hs
      have k0 : (0 : Int) ≤ (k : Int) := by omega
      have k1 : (k : Int) < (n : Int) := by omega
      by_cases gz : z < 0
      · have Hf : Hid (leftZ left (l.length + elsW l) = -1) := Hsp.out.trans (leftZ_no (by rw [hz]; exact gz) hc0)
        clear Hsp hz
        go_wp2_with fail
        refine Hs.mono ?_
        rintro e w1 ⟨rfl, b1⟩
        have b2 := hbel.trans (b1.mono hbel.size)
        clear b1
        go_wp2_with fail
        go_ret
        exact ⟨ret_left Hf.out.symm, b2⟩
      · have hy := leftZ_yes (b := (elsW (l.drop (k + 1)))) (by rw [hz]; exact gz) hc0
        rw [hz] at hy
        have Hf : Hid (leftZ left (l.length + elsW l) = leftZ z (elsW (l.drop (k + 1)))) := Hsp.out.trans hy.1
        have hzc := hy.2
        have gz' : decide (z < 0) = false := decide_eq_false gz
        clear Hsp hz hy
        go_wp2_with fail
        refine Hs.mono ?_
        rintro e w1 ⟨rfl, b1⟩
        have b2 := hbel.trans (b1.mono hbel.size)
        clear b1
        go_wp2_with fail
        go_roundw
        case rel => exact ⟨k + 1, z, by omega, by go_num, rfl, by omega, by omega, Hf, b2⟩
        case measure => simp [intOf]; omega
    · have Hf : Hid (leftZ left (l.length + elsW l) = cur) := by
        show _ = _
        rw [Hsp.out, List.drop_eq_nil_of_le (by have := Hl.out; omega)]
        exact leftZ_zero hc0
      have g2 : decide ((k : Int) < (n : Int)) = false := decide_eq_false (by omega)
      clear Hsp
      go_wp2
      go_ret
      exact ⟨ret_left Hf.out.symm, hbel⟩

mutual
theorem szEl_any : ∀ e : ElB, SzEl e
  | .mk kd sp nm ats tx ks => szEl_of kd sp nm ats tx ks (szElS_of ks (szEl_all ks))
theorem szEl_all : ∀ es : List ElB, ∀ e ∈ es, SzEl e
  | [], _, h => nomatch h
  | x :: xs, e, h => (List.mem_cons.1 h).elim (fun he => he ▸ szEl_any x) (fun hm => szEl_all xs e hm)
end
theorem szElS_any (es : List ElB) : SzElS es := szElS_of es fun e _ => szEl_any e

end Go.Proofs.Ytploagieecepfaa.Sg
