/- Contracts of the model's l5Line, l5Name, l5Attrs. Contract of the model's l5Attrs. Contract of the model's l5Token. Contract of the model's l5Held. Contract of the model's TokensOk. -/
import Derived.Test.YtmambbknljgjcaaDoorM08
import Derived.Test.YtmambbknljgjcaaDoorM05
import Derived.Test.YtmambbknljgjcaaDoorScStM
import Derived.Test.YtmambbknljgjcaaDoorKdModel
import Derived.Deep.CutRange
import Derived.Deep.RegionHeld3
import Derived.Test.YtmambbknljgjcaaDoorTkHas
import Derived.Lib.QuietBelow
import Derived.BigQuiet
import Derived.Test.YtmambbknljgjcaaDoorTnCap
import Derived.Test.YtmambbknljgjcaaDoorSpTag
import Derived.Test.YtmambbknljgjcaaDoorM13
namespace Go.Proofs.YtmambbknljgjcaaDoor.Sg
open Go.ChangeShapes Go.WideShapes Go.ChangeAt Go.RowKit

theorem below_chain {a b c : World} (h : Below a.heap.size a b) (k : Below b.heap.size b c) : Below a.heap.size a c := h.trans (k.mono h.size)
theorem below_same {a b : World} (h : b = a) : Below a.heap.size a b := by rw [h]; exact Below.refl _ _
theorem ret_b {a b : Bool} (h : a = b) : Ending.returned (.bool a) = .returned (.bool b) := by rw [h]

set_option maxHeartbeats 1000000 in
theorem specLine (s : ByteArray) (w : World) (hs : s.size ≤ 17592186044416) :
    Calls Tryd.prog 36 #[.string s] w fun e w' => e = .returned (.bool (lineB s)) ∧ Below w.heap.size w w' := by
  have Hc := specCleanOk s w hs
  have Hf := fun W => specFind s 0 13 W (Nat.zero_le _) hs
  have Hn : Hid (lineB s = (cleanB s && (findE s 0 13).isNone)) := rfl
  cases hc : cleanB s
  · rw [hc] at Hc Hn
    go_enter Tryd.func36, Tryd.ntmps36
    go_wp2_with fail
    refine Hc.mono ?_
    rintro e w1 ⟨rfl, b1⟩
    clear Hc Hf
    go_wp2_with fail
    go_ret
    exact ⟨ret_b (by rw [Hn.out]; rfl), b1⟩
  · rw [hc] at Hc Hn
    cases hf : findE s 0 13 with
    | none =>
      rw [hf] at Hf Hn
      simp only [findV] at Hf
      go_enter Tryd.func36, Tryd.ntmps36
      go_wp2_with fail
      refine Hc.mono ?_
      rintro e w1 ⟨rfl, b1⟩
      go_wp2_with fail
      refine (Hf _).mono ?_
      rintro e w2 ⟨rfl, rfl⟩
      clear Hc Hf
      go_wp2_with fail
      go_ret
      exact ⟨ret_b (by rw [Hn.out]; rfl), b1⟩
    | some m =>
      rw [hf] at Hf Hn
      simp only [findV] at Hf
      have g : decide ((m : Int) < 0) = false := decide_eq_false (by omega)
      go_enter Tryd.func36, Tryd.ntmps36
      go_wp2_with fail
      refine Hc.mono ?_
      rintro e w1 ⟨rfl, b1⟩
      go_wp2_with fail
      refine (Hf _).mono ?_
      rintro e w2 ⟨rfl, rfl⟩
      clear Hc Hf
      go_wp2_with fail
      go_ret
      exact ⟨ret_b (by rw [Hn.out]; rfl), b1⟩

theorem find_two (b : UInt8) : findE ⟨#[47, 62]⟩ 0 b = if b.toNat = 47 then some 0 else if b.toNat = 62 then some 1 else none := by
  have h := byte_all (fun b => findE ⟨#[47, 62]⟩ 0 b = if b.toNat = 47 then some 0 else if b.toNat = 62 then some 1 else none) (by decide +kernel) b
  exact h
theorem tag_yes {b : UInt8} (h : tagU b = true) : blankU b = false ∧ findE ⟨#[47, 62]⟩ 0 b = none := by
  unfold tagU at h
  rw [Bool.and_eq_true, Bool.and_eq_true] at h
  obtain ⟨h1, h2, h3⟩ := h
  refine ⟨by simpa using h1, ?_⟩
  rw [find_two, if_neg (by simpa using h2), if_neg (by simpa using h3)]
theorem tag_no {b : UInt8} (h : tagU b = false) (hb : blankU b = false) : ∃ m : Nat, findE ⟨#[47, 62]⟩ 0 b = some m := by
  rw [find_two]
  by_cases h1 : b.toNat = 47
  · exact ⟨0, if_pos h1⟩
  · by_cases h2 : b.toNat = 62
    · exact ⟨1, by rw [if_neg h1, if_pos h2]⟩
    · unfold tagU at h
      rw [hb, decide_eq_false h1, decide_eq_false h2] at h
      cases h

set_option maxRecDepth 20000 in
set_option maxHeartbeats 2000000 in
theorem specName (s : ByteArray) (w : World) (hs : s.size ≤ 17592186044416) :
    Calls Tryd.prog 37 #[.string s, .string ⟨#[47, 62]⟩] w fun e w' => e = .returned (.bool (nameOkB s)) ∧ Below w.heap.size w w' := by
  have Hn : Hid (nameOkB s = (!emptyB s && (cleanB s && ((smallS s).toList == s.toList && s.data.toList.all tagU)))) := rfl
  have Hc := fun W => specCleanOk s W hs
  have Hm := fun W => specSmall s W (by omega)
  have He : Hid (emptyB s = (s.toList == [])) := rfl
  have e0 : (⟨#[]⟩ : ByteArray).toList = [] := ByteArray.toList_mk _
  generalize cleanB s = cb at *
  generalize smallS s = S at *
  go_enter Tryd.func37, Tryd.ntmps37
  go_wp2
  go_loopw [5] (fun i wr => ∃ k : Nat, k ≤ s.size ∧ i = .int .i64 k ∧ Hid (∀ j (hj : j < s.size), j < k → tagU (s[j]'hj) = true) ∧ wr = w) (fun i _ => s.size - (intOf i).toNat)
  case atStart => exact ⟨0, Nat.zero_le _, rfl, fun _ _ h => by omega, rfl⟩
  case round =>
    obtain ⟨k, hk, rfl, Hall, rfl⟩ := hrel
    by_cases hlt : k < s.size
    · have Hb := fun W => specBlankU (s[k]'hlt) W
      have Hf := fun W => specFind ⟨#[47, 62]⟩ 0 (s[k]'hlt) W (Nat.zero_le _) (by decide)
      clear Hc Hm
      cases ht : tagU (s[k]'hlt)
      · have Hno : Hid (nameOkB s = false) := by
          show _ = _
          rw [Hn.out, not_all hlt ht]
          cases emptyB s <;> cases cb <;> cases (S.toList == s.toList) <;> rfl
        clear Hn Hall
        cases hb : blankU (s[k]'hlt)
        · obtain ⟨m, hm⟩ := tag_no ht hb
          rw [hb] at Hb
          rw [hm] at Hf
          simp only [findV] at Hf
          have g : decide ((m : Int) ≥ 0) = true := decide_eq_true (by omega)
          have g' : decide ((0 : Int) ≤ (m : Int)) = true := decide_eq_true (by omega)
          go_wp2_with fail
          refine (Hb _).mono ?_
          rintro e w1 ⟨rfl, rfl⟩
          go_wp2_with fail
          refine (Hf _).mono ?_
          rintro e w2 ⟨rfl, rfl⟩
          go_wp2_with fail
          go_ret
          exact ⟨ret_b Hno.out.symm, Below.refl _ _⟩
        · rw [hb] at Hb
          go_wp2_with fail
          refine (Hb _).mono ?_
          rintro e w1 ⟨rfl, rfl⟩
          go_wp2_with fail
          go_ret
          exact ⟨ret_b Hno.out.symm, Below.refl _ _⟩
      · obtain ⟨hb, hm⟩ := tag_yes ht
        rw [hb] at Hb
        rw [hm] at Hf
        simp only [findV] at Hf
        have Ha : Hid (∀ j (hj : j < s.size), j < k + 1 → tagU (s[j]'hj) = true) := fun j hj h => by
          by_cases he : j = k
          · subst he
            exact ht
          · exact Hall.out j hj (by omega)
        clear Hall
        go_wp2_with fail
        refine (Hb _).mono ?_
        rintro e w1 ⟨rfl, rfl⟩
        go_wp2_with fail
        refine (Hf _).mono ?_
        rintro e w2 ⟨rfl, rfl⟩
        go_wp2_with fail
        go_roundw
        case rel => exact ⟨k + 1, by omega, by go_num, Ha, by first | trivial | rfl⟩
        case measure => simp [intOf]; omega
    · have hall : s.data.toList.all tagU = true := all_of fun j hj => Hall.out j hj (by omega)
      rw [hall, Bool.and_true, He.out] at Hn
      have g0 : decide ((k : Int) < (s.size : Int)) = false := decide_eq_false (by omega)
      clear Hall hall
      cases he : s.toList == []
      · rw [he] at Hn
        cases hc : cb
        · rw [hc] at Hc Hn
          go_wp2_with fail
          refine (Hc _).mono ?_
          rintro e w1 ⟨rfl, b1⟩
          clear Hc Hm
          go_wp2_with fail
          go_ret
          exact ⟨ret_b (by rw [Hn.out]; rfl), b1⟩
        · rw [hc] at Hc Hn
          go_wp2_with fail
          refine (Hc _).mono ?_
          rintro e w1 ⟨rfl, b1⟩
          clear Hc
          go_wp2_with fail
          refine (Hm _).mono ?_
          rintro e w2 ⟨rfl, b2⟩
          clear Hm
          go_wp2_with fail
          go_ret
          exact ⟨ret_b (by rw [Hn.out]; rfl), below_chain b1 b2⟩
      · rw [he] at Hn
        clear Hc Hm
        go_wp2_with fail
        go_ret
        exact ⟨ret_b (by rw [Hn.out]; rfl), Below.refl _ _⟩

end Go.Proofs.YtmambbknljgjcaaDoor.Sg

namespace Go.Proofs.YtmambbknljgjcaaDoor.Sg
open Go.ChangeShapes Go.WideShapes Go.ChangeAt Go.RowKit

theorem AttrsAt.take {w : World} {a : Option Addr} {l : List AttrB} (h : AttrsAt w a l) (k : Nat) : AttrsAt w a (l.take k) := by
  rcases h with h | ⟨b, h1, h2, h3⟩
  · left
    rw [h]
    simp
  · refine .inr ⟨b, h1, h2, fun j hj => ?_⟩
    have hjk : j < k ∧ j < l.length := by simpa [Nat.lt_min] using hj
    have e : (l.take k).getD j (ByteArray.empty, ByteArray.empty) = l.getD j (ByteArray.empty, ByteArray.empty) := by simp [List.getD, hjk.1]
    rw [e]
    exact h3 j hjk.2
theorem Calls.below {P : Program} {f : FuncId} {args : Array Value} {w : World} {v : Value} (h : Calls P f args w fun e w' => e = .returned v ∧ w' = w) : Calls P f args w fun e w' => e = .returned v ∧ Below w.heap.size w w' :=
  h.mono fun _ _ ⟨h1, h2⟩ => ⟨h1, below_same h2⟩

theorem empty_size {s : ByteArray} : emptyB s = decide (s.size = 0) := by
  unfold emptyB
  rw [ByteArray.toList_eq]
  by_cases h : s.size = 0
  · have : s.data.toList = [] := List.eq_nil_of_length_eq_zero (by rw [Array.length_toList]; exact h)
    rw [this, decide_eq_true h]
    rfl
  · rw [decide_eq_false h]
    apply Bool.eq_false_iff.2
    intro he
    apply h
    have := congrArg List.length (beq_iff_eq.1 he)
    rw [Array.length_toList] at this
    exact this
theorem name_size {x : ByteArray} (h : nameOkB x = true) : 1 ≤ x.size := by
  unfold nameOkB at h
  rw [empty_size] at h
  rcases Nat.eq_zero_or_pos x.size with h0 | h0
  · rw [decide_eq_true h0] at h
    cases h
  · exact h0

set_option maxRecDepth 20000 in
set_option maxHeartbeats 8000000 in
theorem specAttrsOk (l : List AttrB) (a : Option Addr) (n cap : Nat) (w : World) (ha : AttrsAt w a l) (hl : l.length = n) (hcap : n ≤ cap) (hw : attrsW l ≤ 1048576) :
    Calls Tryd.prog 39 #[.slice a n cap] w fun e w' => e = .returned (.bool (attrsB l)) ∧ Below w.heap.size w w' := by
  have HA : Hid (AttrsAt w a l) := ha
  have Hl : Hid (l.length = n) := hl
  have hn : n ≤ 1048576 := by unfold attrsW at hw; omega
  have HW : Hid (∀ p ∈ l, p.1.size + p.2.size ≤ 1048576) := fun p hp => Nat.le_trans (attrW_le hp) hw
  have HR : Hid (attrsB l = attrsOkB l l.length 0) := rfl
  generalize attrsB l = R at *
  clear ha hl hw
  go_enter Tryd.func39, Tryd.ntmps39
  go_wp2
  go_loopw [3] (fun i wr => ∃ k f : Nat, k ≤ n ∧ i = .int .i64 k ∧ Hid (l.length ≤ k + f) ∧ Hid (R = attrsOkB l f k) ∧ Below w.heap.size w wr) (fun i _ => n - (intOf i).toNat)
  case atStart => exact ⟨0, l.length, Nat.zero_le _, rfl, Nat.le_of_eq (Nat.zero_add _).symm, HR, Below.refl _ _⟩
  case round =>
    clear HR
    obtain ⟨k, f, hk, rfl, Hf, HR, hbel⟩ := hrel
    by_cases hlt : k < n
    · have hkl : k < l.length := by rw [Hl.out]; exact hlt
      have HAr : Hid (AttrsAt wr a l) := HA.out.below hbel
      obtain ⟨b, rfl, c0, c1⟩ := HAr.out.get k hkl
      have hp := HW.out _ (List.getElem_mem hkl)
      obtain ⟨g, rfl, hst⟩ := attrsOkB_step l f k hkl Hf.out
      generalize l[k]'hkl = p at *
      clear hkl
      obtain ⟨x, v⟩ := p
      simp only at c0 c1 hp
      have HN := fun W => specName x W (by omega)
      have HL := fun W => specLine v W (by omega)
      have HH : ∀ W, Below wr.heap.size wr W → Calls Tryd.prog 60 #[.slice (some ⟨b, 0, none⟩) k cap, .string x] W fun e w' => e = .returned (.bool (hasA (l.take k) x)) ∧ Below W.heap.size W w' := fun W hW => Calls.below (specHas (l.take k) x (some ⟨b, 0, none⟩) k cap W ((HAr.out.below hW).take k) (by rw [List.length_take, Hl.out]; omega) (by omega))
      have Hok : Hid (attrOkB l k (x, v) = (nameOkB x && ((findE x 1 61).isNone && (lineB v && !hasA (l.take k) x)))) := rfl
      generalize attrOkB l k (x, v) = okb at *
      generalize hasA (l.take k) x = hb at *
      generalize lineB v = lb at *
      have k0 : (0 : Int) ≤ (k : Int) := by omega
      have k1 : (k : Int) < (n : Int) := by omega
      have k2 : (k : Int) ≤ (cap : Int) := by omega
      have HB : Hid (∀ wx : World, Below wr.heap.size wr wx → Below w.heap.size w wx) := fun wx h => hbel.trans (h.mono hbel.size)
      clear HAr
      have z0 := cell_regrown c0
      have z1 := cell_regrown c1
      cases hN : nameOkB x
      · rw [hN] at HN Hok
        have Hno : Hid (R = false) := by
          show _ = _
          rw [HR.out, hst, Hok.out]
          rfl
        clear HL HH HR hst Hok
        have cN := fun d os => Calls.regrown_of (w := wr) (HN (Sort.grow (redrawn wr d) os))
        go_upto_region 4 with fail
        refine wp_region_quiet_below (by kernel_rfl) (by kernel_rfl) ?_
        repeat (go_big_quiet_step (first | exact cN _ _))
        refine wpQuiet_nil ?_
        intro _ hw'
        obtain ⟨⟨dq, osq⟩, hw''⟩ := hw'
        subst hw''
        (
          have bfin := HB.out _ (below_regrown wr dq osq)
          generalize Sort.grow (redrawn wr dq) osq = W at *
          go_wp2_with fail
          go_ret
          exact ⟨ret_b Hno.out.symm, bfin⟩)
      · rw [hN] at HN Hok
        have HF : ∀ W, Calls Tryd.prog 28 #[.string x, .int .i64 1, .int .u8 61] W fun e w' => e = .returned (.int .i64 (findV (findE x 1 61))) ∧ Below W.heap.size W w' := fun W => Calls.below (specFind x 1 61 W (name_size hN) (by omega))
        cases hF : findE x 1 61 with
        | some m =>
          rw [hF] at HF Hok
          simp only [findV] at HF
          have gm : decide ((m : Int) ≥ 0) = true := decide_eq_true (by omega)
          have gm' : decide ((0 : Int) ≤ (m : Int)) = true := decide_eq_true (by omega)
          have Hno : Hid (R = false) := by
            show _ = _
            rw [HR.out, hst, Hok.out]
            rfl
          clear HL HH HR hst Hok
          have cN := fun d os => Calls.regrown_of (w := wr) (HN (Sort.grow (redrawn wr d) os))
          have cF := fun d os => Calls.regrown_of (w := wr) (HF (Sort.grow (redrawn wr d) os))
          go_upto_region 4 with fail
          refine wp_region_quiet_below (by kernel_rfl) (by kernel_rfl) ?_
          repeat (go_big_quiet_step (first | exact cN _ _ | exact cF _ _))
          refine wpQuiet_nil ?_
          intro _ hw'
          obtain ⟨⟨dq, osq⟩, hw''⟩ := hw'
          subst hw''
          (
            have bfin := HB.out _ (below_regrown wr dq osq)
            generalize Sort.grow (redrawn wr dq) osq = W at *
            go_wp2_with fail
            go_ret
            exact ⟨ret_b Hno.out.symm, bfin⟩)
        | none =>
          rw [hF] at HF Hok
          simp only [findV] at HF
          cases hL : lb
          · rw [hL] at HL Hok
            have Hno : Hid (R = false) := by
              show _ = _
              rw [HR.out, hst, Hok.out]
              rfl
            clear HH HR hst Hok
            have cN := fun d os => Calls.regrown_of (w := wr) (HN (Sort.grow (redrawn wr d) os))
            have cF := fun d os => Calls.regrown_of (w := wr) (HF (Sort.grow (redrawn wr d) os))
            have cL := fun d os => Calls.regrown_of (w := wr) (HL (Sort.grow (redrawn wr d) os))
            go_upto_region 4 with fail
            refine wp_region_quiet_below (by kernel_rfl) (by kernel_rfl) ?_
            repeat (go_big_quiet_step (first | exact cN _ _ | exact cF _ _ | exact cL _ _))
            refine wpQuiet_nil ?_
            intro _ hw'
            obtain ⟨⟨dq, osq⟩, hw''⟩ := hw'
            subst hw''
            (
              have bfin := HB.out _ (below_regrown wr dq osq)
              generalize Sort.grow (redrawn wr dq) osq = W at *
              go_wp2_with fail
              go_ret
              exact ⟨ret_b Hno.out.symm, bfin⟩)
          · rw [hL] at HL Hok
            cases hH : hb
            · rw [hH] at HH Hok
              have HR2 : Hid (R = attrsOkB l g (k + 1)) := by
                show _ = _
                rw [HR.out, hst, Hok.out]
                rfl
              have Hf2 : Hid (l.length ≤ k + 1 + g) := by
                have := Hf.out
                show _ ≤ _
                omega
              clear HR hst Hok
              have cN := fun d os => Calls.regrown_of (w := wr) (HN (Sort.grow (redrawn wr d) os))
              have cF := fun d os => Calls.regrown_of (w := wr) (HF (Sort.grow (redrawn wr d) os))
              have cL := fun d os => Calls.regrown_of (w := wr) (HL (Sort.grow (redrawn wr d) os))
              have cH := fun d os => Calls.regrown_of (w := wr) (HH (Sort.grow (redrawn wr d) os) (below_regrown wr d os))
              go_upto_region 4 with fail
              refine wp_region_quiet_below (by kernel_rfl) (by kernel_rfl) ?_
              repeat (go_big_quiet_step (first | exact cN _ _ | exact cF _ _ | exact cL _ _ | exact cH _ _))
              refine wpQuiet_nil ?_
              intro _ hw'
              obtain ⟨⟨dq, osq⟩, hw''⟩ := hw'
              subst hw''
              (
                have bfin := HB.out _ (below_regrown wr dq osq)
                generalize Sort.grow (redrawn wr dq) osq = W at *
                go_wp2_with fail
                go_roundw
                case rel => exact ⟨k + 1, g, by omega, by go_num, Hf2, HR2, bfin⟩
                case measure => simp [intOf]; omega)
            · rw [hH] at HH Hok
              have Hno : Hid (R = false) := by
                show _ = _
                rw [HR.out, hst, Hok.out]
                rfl
              clear HR hst Hok
              have cN := fun d os => Calls.regrown_of (w := wr) (HN (Sort.grow (redrawn wr d) os))
              have cF := fun d os => Calls.regrown_of (w := wr) (HF (Sort.grow (redrawn wr d) os))
              have cL := fun d os => Calls.regrown_of (w := wr) (HL (Sort.grow (redrawn wr d) os))
              have cH := fun d os => Calls.regrown_of (w := wr) (HH (Sort.grow (redrawn wr d) os) (below_regrown wr d os))
              go_upto_region 4 with fail
              refine wp_region_quiet_below (by kernel_rfl) (by kernel_rfl) ?_
              repeat (go_big_quiet_step (first | exact cN _ _ | exact cF _ _ | exact cL _ _ | exact cH _ _))
              refine wpQuiet_nil ?_
              intro _ hw'
              obtain ⟨⟨dq, osq⟩, hw''⟩ := hw'
              subst hw''
              (
                have bfin := HB.out _ (below_regrown wr dq osq)
                generalize Sort.grow (redrawn wr dq) osq = W at *
                go_wp2_with fail
                go_ret
                exact ⟨ret_b Hno.out.symm, bfin⟩)
    · have hkn : k = n := by omega
      subst hkn
      have g2 : decide ((k : Int) < (k : Int)) = false := by simp
      have Hn : Hid (R = true) := by
        show _ = _
        rw [HR.out, attrsOkB_end l f k (by rw [Hl.out]; omega)]
      clear HR
      go_wp2_with fail
      go_ret
      exact ⟨ret_b Hn.out.symm, hbel⟩

end Go.Proofs.YtmambbknljgjcaaDoor.Sg

namespace Go.Proofs.YtmambbknljgjcaaDoor.Sg
open Go.ChangeShapes Go.WideShapes Go.ChangeAt Go.RowKit

theorem clean_empty : cleanB ⟨#[]⟩ = true := by decide +kernel
theorem line_empty {s : ByteArray} (h : emptyB s = true) : lineB s = true := by
  rw [empty_size] at h
  have h0 : s.size = 0 := of_decide_eq_true h
  have e : s = ⟨#[]⟩ := by
    apply ba_eq
    exact List.eq_nil_of_length_eq_zero (by rw [Array.length_toList]; exact h0)
  rw [e]
  unfold lineB
  rw [clean_empty]
  rfl
theorem wrap_byte (b : UInt8) : wrap64 ((b.toNat : Nat) : Int) = ((b.toNat : Nat) : Int) := by
  have := UInt8.toNat_lt b
  unfold wrap64
  omega
theorem attrs_empty : attrsB [] = true := rfl
theorem ok_2 (nm : ByteArray) (at' : List AttrB) (tx : ByteArray) (sf : Bool) : okT (2, nm, at', tx, sf) = (emptyB tx && ((nameOkB nm && letter0 nm) && attrsB at')) := rfl
theorem ok_3 (nm : ByteArray) (at' : List AttrB) (tx : ByteArray) (sf : Bool) : okT (3, nm, at', tx, sf) = (emptyB tx && (bareWord (3, nm, at', tx, sf) && (nameOkB nm && letter0 nm))) := rfl
theorem ok_1 (nm : ByteArray) (at' : List AttrB) (tx : ByteArray) (sf : Bool) : okT (1, nm, at', tx, sf) = (emptyB nm && (bareWord (1, nm, at', tx, sf) && (lineB tx && !emptyB tx))) := rfl
theorem ok_4 (nm : ByteArray) (at' : List AttrB) (tx : ByteArray) (sf : Bool) : okT (4, nm, at', tx, sf) = (emptyB nm && (bareWord (4, nm, at', tx, sf) && (lineB tx && noteB tx))) := rfl
theorem ok_5 (nm : ByteArray) (at' : List AttrB) (tx : ByteArray) (sf : Bool) : okT (5, nm, at', tx, sf) = (emptyB nm && (bareWord (5, nm, at', tx, sf) && (lineB tx && kindB tx))) := rfl
theorem ok_else {t : TokB} (h1 : t.1 ≠ 1) (h2 : t.1 ≠ 2) (h3 : t.1 ≠ 3) (h4 : t.1 ≠ 4) (h5 : t.1 ≠ 5) : okT t = false := by
  unfold okT
  rw [if_neg h1, if_neg h2, if_neg h3, if_neg h4, if_neg h5]
theorem ok_noline {t : TokB} (h : lineB t.2.2.2.1 = false) : okT t = false := by
  have he : emptyB t.2.2.2.1 = false := by
    cases hh : emptyB t.2.2.2.1
    · rfl
    · rw [line_empty hh] at h
      cases h
  unfold okT
  rw [h, he]
  repeat' split
  all_goals first | rfl | (cases emptyB t.2.1 <;> cases bareWord t <;> rfl)
theorem ok_notbare {t : TokB} (h2 : t.1 ≠ 2) (h : bareWord t = false) : okT t = false := by
  unfold okT
  rw [h, if_neg h2]
  repeat' split
  all_goals first | rfl | (cases emptyB t.2.1 <;> rfl) | (cases emptyB t.2.2.2.1 <;> rfl)
theorem letter0_get {s : ByteArray} (h : 0 < s.size) : letter0 s = letterB ((s[0]'h).toNat : Int) := by
  unfold letter0
  rw [decide_eq_true h, bN_eq s 0 h]
  rfl

set_option maxRecDepth 20000 in
set_option maxHeartbeats 8000000 in
theorem specToken (t : TokB) (sa : Option Addr) (sc : Nat) (w : World) (hA : AttrsAt w sa t.2.2.1) (hcap : t.2.2.1.length ≤ sc) (hw : tokW t ≤ 1048576) :
    Calls Tryd.prog 23 #[.agg #[.int .i64 t.1, .string t.2.1, .slice sa t.2.2.1.length sc, .string t.2.2.2.1, .bool t.2.2.2.2]] w fun e w' => e = .returned (.bool (okT t)) ∧ Below w.heap.size w w' := by
  obtain ⟨R, HR⟩ : ∃ R, Hid (okT t = R) := ⟨_, rfl⟩
  rw [HR.out]
  have HNL := ok_noline (t := t)
  have HNB := ok_notbare (t := t)
  have HEL := ok_else (t := t)
  obtain ⟨kd, nm, at', tx, sf⟩ := t
  have hnm : nm.size ≤ 1048576 := by unfold tokW at hw; simp only at hw; omega
  have htx : tx.size ≤ 1048576 := by unfold tokW at hw; simp only at hw; omega
  have haw : attrsW at' ≤ 1048576 := by unfold tokW at hw; simp only at hw; omega
  have hal : at'.length ≤ 1048576 := by unfold attrsW at haw; omega
  simp only at hA hcap HNL HNB HEL ⊢
  have bb : Below w.heap.size w (w.alloc (.cells #[.int .i64 kd, .string nm, .slice sa at'.length sc, .string tx, .bool sf] 36)) := (Below.refl _ _).alloc (Nat.le_refl _) _
  have hzz : (w.alloc (.cells #[.int .i64 kd, .string nm, .slice sa at'.length sc, .string tx, .bool sf] 36)).heap.size = w.heap.size + 1 := by simp
  have keep : Hid (∀ W, Below (w.alloc (.cells #[.int .i64 kd, .string nm, .slice sa at'.length sc, .string tx, .bool sf] 36)).heap.size (w.alloc (.cells #[.int .i64 kd, .string nm, .slice sa at'.length sc, .string tx, .bool sf] 36)) W → Below w.heap.size w W ∧ W.cell? ⟨w.heap.size, 0, none⟩ = some (.int .i64 kd) ∧ W.cell? ⟨w.heap.size, 1, none⟩ = some (.string nm) ∧ W.cell? ⟨w.heap.size, 2, none⟩ = some (.slice sa at'.length sc) ∧ W.cell? ⟨w.heap.size, 3, none⟩ = some (.string tx)) := fun W h => by
    refine ⟨bb.trans (h.mono bb.size), ?_, ?_, ?_, ?_⟩ <;> exact (h.cell (by rw [hzz]; exact Nat.lt_succ_self _)).trans (by simp)
  have HLn := specLine tx (w.alloc (.cells #[.int .i64 kd, .string nm, .slice sa at'.length sc, .string tx, .bool sf] 36)) (by omega)
  have HNm := fun W => specName nm W (by omega)
  have HAt : ∀ W, Below w.heap.size w W → Calls Tryd.prog 39 #[.slice sa at'.length sc] W fun e w' => e = .returned (.bool (attrsB at')) ∧ Below W.heap.size W w' := fun W h => specAttrsOk at' sa at'.length sc W (hA.below h) rfl hcap haw
  have e0 : (⟨#[]⟩ : ByteArray).toList = [] := ByteArray.toList_mk _
  have EB : ∀ s : ByteArray, emptyB s = (s.toList == []) := fun _ => rfl
  clear hA hcap hw
  by_cases h2 : kd = 2
  · subst h2
    clear HNB HEL
    cases hL : lineB tx
    · have Hn : Hid (R = false) := HR.out.symm.trans (HNL hL)
      rw [hL] at HLn
      clear HNm HAt HNL keep EB
      go_enter Tryd.func23, Tryd.ntmps23
      go_wp2_with fail
      refine HLn.mono ?_
      rintro e w1 ⟨rfl, b1⟩
      have bf := bb.trans (b1.mono bb.size)
      clear HLn b1
      go_wp2_with fail
      go_ret
      exact ⟨ret_b Hn.out.symm, bf⟩
    · rw [hL] at HLn
      cases he : tx.toList == []
      · have Hn : Hid (R = false) := by show _ = _; rw [← HR.out, ok_2, EB tx, he]; rfl
        clear HNm HAt EB
        go_enter Tryd.func23, Tryd.ntmps23
        go_wp2_with fail
        refine HLn.mono ?_
        rintro e w1 ⟨rfl, b1⟩
        obtain ⟨bf, d0, d1, d2, d3⟩ := keep.out _ b1
        clear HLn b1 keep
        go_wp2_with fail
        go_ret
        exact ⟨ret_b Hn.out.symm, bf⟩
      · have het : emptyB tx = true := by rw [EB tx]; exact he
        cases hN : nameOkB nm
        · have Hn : Hid (R = false) := by show _ = _; rw [← HR.out, ok_2, het, hN]; rfl
          rw [hN] at HNm
          clear HAt EB
          go_enter Tryd.func23, Tryd.ntmps23
          go_wp2_with fail
          refine HLn.mono ?_
          rintro e w1 ⟨rfl, b1⟩
          obtain ⟨bf, d0, d1, d2, d3⟩ := keep.out _ b1
          clear HLn b1 keep
          go_wp2_with fail
          refine (HNm _).mono ?_
          rintro e w2 ⟨rfl, b2⟩
          have bf2 := bf.trans (b2.mono bf.size)
          clear HNm b2 d0 d1 d2 d3
          go_wp2_with fail
          go_ret
          exact ⟨ret_b Hn.out.symm, bf2⟩
        · rw [hN] at HNm
          have hnp : 0 < nm.size := name_size hN
          have hnp' : (0 : Int) < (nm.size : Int) := by omega
          have hl0' := letter0_get hnp
          have hwr : wrap64 (((nm[0]'hnp).toNat : Nat) : Int) = (((nm[0]'hnp).toNat : Nat) : Int) := wrap_byte _
          have HLt := fun W => specIsLetter (((nm[0]'hnp).toNat : Nat) : Int) W
          cases hLt : letterB (((nm[0]'hnp).toNat : Nat) : Int)
          · have Hn : Hid (R = false) := by show _ = _; rw [← HR.out, ok_2, het, hN, hl0', hLt]; rfl
            rw [hLt] at HLt
            clear HAt EB
            go_enter Tryd.func23, Tryd.ntmps23
            go_wp2_with fail
            refine HLn.mono ?_
            rintro e w1 ⟨rfl, b1⟩
            obtain ⟨bf, d0, d1, d2, d3⟩ := keep.out _ b1
            clear HLn b1 keep
            go_wp2_with fail
            refine (HNm _).mono ?_
            rintro e w2 ⟨rfl, b2⟩
            have bf2 := bf.trans (b2.mono bf.size)
            have f1 := keep_cell b2 d1
            clear HNm b2 d0 d1 d2 d3
            go_wp2_with fail
            refine (HLt _).mono ?_
            rintro e w3 ⟨rfl, rfl⟩
            go_wp2_with fail
            go_ret
            exact ⟨ret_b Hn.out.symm, bf2⟩
          · have Hn : Hid (R = attrsB at') := by show _ = _; rw [← HR.out, ok_2, het, hN, hl0', hLt]; simp
            rw [hLt] at HLt
            generalize attrsB at' = ab at *
            clear EB
            go_enter Tryd.func23, Tryd.ntmps23
            go_wp2_with fail
            refine HLn.mono ?_
            rintro e w1 ⟨rfl, b1⟩
            obtain ⟨bf, d0, d1, d2, d3⟩ := keep.out _ b1
            clear HLn b1 keep
            go_wp2_with fail
            refine (HNm _).mono ?_
            rintro e w2 ⟨rfl, b2⟩
            have bf2 := bf.trans (b2.mono bf.size)
            have f1 := keep_cell b2 d1
            have f2 := keep_cell b2 d2
            clear HNm b2 d0 d1 d2 d3
            go_wp2_with fail
            refine (HLt _).mono ?_
            rintro e w3 ⟨rfl, rfl⟩
            go_wp2_with fail
            refine (HAt _ bf2).mono ?_
            rintro e w4 ⟨rfl, b4⟩
            have bf4 := bf2.trans (b4.mono bf2.size)
            clear HAt b4 f1 f2
            go_wp2_with fail
            go_ret
            exact ⟨ret_b Hn.out.symm, bf4⟩
  · have g2 : (kd != 2) = true := by simp [h2]
    have g2' : (kd == 2) = false := by simp [h2]
    by_cases hlen : 0 < at'.length
    · have gl : decide ((at'.length : Int) > 0) = true := decide_eq_true (by omega)
      have gl' : decide ((0 : Int) < (at'.length : Int)) = true := decide_eq_true (by omega)
      have Hn : Hid (R = false) := HR.out.symm.trans (HNB h2 (by unfold bareWord; rw [decide_eq_false (by simp only; omega)]; rfl))
      clear HNm HAt HNL HLn keep HNB HEL EB
      go_enter Tryd.func23, Tryd.ntmps23
      go_wp2_with fail
      go_ret
      exact ⟨ret_b Hn.out.symm, bb⟩
    · have Hl0 : Hid (at'.length = 0) := by show _ = _; omega
      have gl : decide ((at'.length : Int) > 0) = false := decide_eq_false (by omega)
      have gl' : decide ((0 : Int) < (at'.length : Int)) = false := decide_eq_false (by omega)
      cases sf
      · have hbw : bareWord (kd, nm, at', tx, false) = true := by unfold bareWord; rw [decide_eq_true Hl0.out]; rfl
        clear HNB
        cases hL : lineB tx
        · have Hn : Hid (R = false) := HR.out.symm.trans (HNL hL)
          rw [hL] at HLn
          clear HNm HAt HNL keep HEL EB
          go_enter Tryd.func23, Tryd.ntmps23
          go_wp2_with fail
          refine HLn.mono ?_
          rintro e w1 ⟨rfl, b1⟩
          have bf := bb.trans (b1.mono bb.size)
          clear HLn b1
          go_wp2_with fail
          go_ret
          exact ⟨ret_b Hn.out.symm, bf⟩
        · rw [hL] at HLn
          clear HNL
          by_cases h1 : kd = 1
          · subst h1
            cases he1 : nm.toList == []
            · have Hn : Hid (R = false) := by show _ = _; rw [← HR.out, ok_1, hbw, hL, EB nm, he1]; rfl
              clear HNm HAt EB
              go_enter Tryd.func23, Tryd.ntmps23
              go_wp2_with fail
              refine HLn.mono ?_
              rintro e w1 ⟨rfl, b1⟩
              obtain ⟨bf, d0, d1, d2, d3⟩ := keep.out _ b1
              clear HLn b1 keep
              go_wp2_with fail
              go_ret
              exact ⟨ret_b Hn.out.symm, bf⟩
            · cases he2 : tx.toList == []
              · have Hn : Hid (R = true) := by show _ = _; rw [← HR.out, ok_1, hbw, hL, EB nm, EB tx, he1, he2]; rfl
                clear HNm HAt EB
                go_enter Tryd.func23, Tryd.ntmps23
                go_wp2_with fail
                refine HLn.mono ?_
                rintro e w1 ⟨rfl, b1⟩
                obtain ⟨bf, d0, d1, d2, d3⟩ := keep.out _ b1
                clear HLn b1 keep
                go_wp2_with fail
                go_ret
                exact ⟨ret_b Hn.out.symm, bf⟩
              · have Hn : Hid (R = false) := by show _ = _; rw [← HR.out, ok_1, hbw, hL, EB nm, EB tx, he1, he2]; rfl
                clear HNm HAt EB
                go_enter Tryd.func23, Tryd.ntmps23
                go_wp2_with fail
                refine HLn.mono ?_
                rintro e w1 ⟨rfl, b1⟩
                obtain ⟨bf, d0, d1, d2, d3⟩ := keep.out _ b1
                clear HLn b1 keep
                go_wp2_with fail
                go_ret
                exact ⟨ret_b Hn.out.symm, bf⟩
          · have g1 : (kd == 1) = false := by simp [h1]
            by_cases h3 : kd = 3
            · subst h3
              have hatB : attrsB at' = true := by rw [List.eq_nil_of_length_eq_zero Hl0.out]; rfl
              cases he : tx.toList == []
              · have Hn : Hid (R = false) := by show _ = _; rw [← HR.out, ok_3, hbw, EB tx, he]; rfl
                clear HNm HAt EB
                go_enter Tryd.func23, Tryd.ntmps23
                go_wp2_with fail
                refine HLn.mono ?_
                rintro e w1 ⟨rfl, b1⟩
                obtain ⟨bf, d0, d1, d2, d3⟩ := keep.out _ b1
                clear HLn b1 keep
                go_wp2_with fail
                go_ret
                exact ⟨ret_b Hn.out.symm, bf⟩
              · have het : emptyB tx = true := by rw [EB tx]; exact he
                cases hN : nameOkB nm
                · have Hn : Hid (R = false) := by show _ = _; rw [← HR.out, ok_3, hbw, het, hN]; rfl
                  rw [hN] at HNm
                  clear HAt EB
                  go_enter Tryd.func23, Tryd.ntmps23
                  go_wp2_with fail
                  refine HLn.mono ?_
                  rintro e w1 ⟨rfl, b1⟩
                  obtain ⟨bf, d0, d1, d2, d3⟩ := keep.out _ b1
                  clear HLn b1 keep
                  go_wp2_with fail
                  refine (HNm _).mono ?_
                  rintro e w2 ⟨rfl, b2⟩
                  have bf2 := bf.trans (b2.mono bf.size)
                  clear HNm b2 d0 d1 d2 d3
                  go_wp2_with fail
                  go_ret
                  exact ⟨ret_b Hn.out.symm, bf2⟩
                · rw [hN] at HNm
                  have hnp : 0 < nm.size := name_size hN
                  have hnp' : (0 : Int) < (nm.size : Int) := by omega
                  have hl0' := letter0_get hnp
                  have hwr : wrap64 (((nm[0]'hnp).toNat : Nat) : Int) = (((nm[0]'hnp).toNat : Nat) : Int) := wrap_byte _
                  have HLt := fun W => specIsLetter (((nm[0]'hnp).toNat : Nat) : Int) W
                  cases hLt : letterB (((nm[0]'hnp).toNat : Nat) : Int)
                  · have Hn : Hid (R = false) := by show _ = _; rw [← HR.out, ok_3, hbw, het, hN, hl0', hLt]; rfl
                    rw [hLt] at HLt
                    clear HAt EB
                    go_enter Tryd.func23, Tryd.ntmps23
                    go_wp2_with fail
                    refine HLn.mono ?_
                    rintro e w1 ⟨rfl, b1⟩
                    obtain ⟨bf, d0, d1, d2, d3⟩ := keep.out _ b1
                    clear HLn b1 keep
                    go_wp2_with fail
                    refine (HNm _).mono ?_
                    rintro e w2 ⟨rfl, b2⟩
                    have bf2 := bf.trans (b2.mono bf.size)
                    have f1 := keep_cell b2 d1
                    clear HNm b2 d0 d1 d2 d3
                    go_wp2_with fail
                    refine (HLt _).mono ?_
                    rintro e w3 ⟨rfl, rfl⟩
                    go_wp2_with fail
                    go_ret
                    exact ⟨ret_b Hn.out.symm, bf2⟩
                  · have Hn : Hid (R = true) := by show _ = _; rw [← HR.out, ok_3, hbw, het, hN, hl0', hLt]; simp
                    rw [hLt] at HLt
                    rw [hatB] at HAt
                    clear EB
                    go_enter Tryd.func23, Tryd.ntmps23
                    go_wp2_with fail
                    refine HLn.mono ?_
                    rintro e w1 ⟨rfl, b1⟩
                    obtain ⟨bf, d0, d1, d2, d3⟩ := keep.out _ b1
                    clear HLn b1 keep
                    go_wp2_with fail
                    refine (HNm _).mono ?_
                    rintro e w2 ⟨rfl, b2⟩
                    have bf2 := bf.trans (b2.mono bf.size)
                    have f1 := keep_cell b2 d1
                    have f2 := keep_cell b2 d2
                    clear HNm b2 d0 d1 d2 d3
                    go_wp2_with fail
                    refine (HLt _).mono ?_
                    rintro e w3 ⟨rfl, rfl⟩
                    go_wp2_with fail
                    refine (HAt _ bf2).mono ?_
                    rintro e w4 ⟨rfl, b4⟩
                    have bf4 := bf2.trans (b4.mono bf2.size)
                    clear HAt b4 f1 f2
                    go_wp2_with fail
                    go_ret
                    exact ⟨ret_b Hn.out.symm, bf4⟩
            · have g3 : (kd == 3) = false := by simp [h3]
              by_cases h4 : kd = 4
              · subst h4
                have HSe := fun W => specSearch tx 0 ⟨#[45, 45, 62]⟩ W (by omega) (by omega) (by decide)
                have HS1 := fun W => specStands tx 0 ⟨#[62]⟩ W (by omega) (by omega) (by decide)
                have HS2 := fun W => specStands tx 0 ⟨#[45, 62]⟩ W (by omega) (by omega) (by decide)
                have NB : Hid (noteB tx = ((searchE tx 0 ⟨#[45, 45, 62]⟩).isNone && (!standsB tx 0 ⟨#[62]⟩ && !standsB tx 0 ⟨#[45, 62]⟩))) := rfl
                generalize standsB tx 0 ⟨#[62]⟩ = s1 at *
                generalize standsB tx 0 ⟨#[45, 62]⟩ = s2 at *
                cases he1 : nm.toList == []
                · have Hn : Hid (R = false) := by show _ = _; rw [← HR.out, ok_4, hbw, hL, EB nm, he1]; rfl
                  clear HNm HAt EB HSe HS1 HS2 NB
                  go_enter Tryd.func23, Tryd.ntmps23
                  go_wp2_with fail
                  refine HLn.mono ?_
                  rintro e w1 ⟨rfl, b1⟩
                  obtain ⟨bf, d0, d1, d2, d3⟩ := keep.out _ b1
                  clear HLn b1 keep
                  go_wp2_with fail
                  go_ret
                  exact ⟨ret_b Hn.out.symm, bf⟩
                · have hem : emptyB nm = true := by rw [EB nm]; exact he1
                  cases hse : searchE tx 0 ⟨#[45, 45, 62]⟩ with
                  | some m =>
                    rw [hse] at HSe NB
                    simp only [findV] at HSe
                    have gm : decide ((m : Int) < 0) = false := decide_eq_false (by omega)
                    have Hn : Hid (R = false) := by show _ = _; rw [← HR.out, ok_4, hbw, hL, hem, NB.out]; rfl
                    clear HNm HAt EB HS1 HS2 NB
                    go_enter Tryd.func23, Tryd.ntmps23
                    go_wp2_with fail
                    refine HLn.mono ?_
                    rintro e w1 ⟨rfl, b1⟩
                    obtain ⟨bf, d0, d1, d2, d3⟩ := keep.out _ b1
                    clear HLn b1 keep
                    go_wp2_with fail
                    refine (HSe _).mono ?_
                    rintro e w2 ⟨rfl, rfl⟩
                    go_wp2_with fail
                    go_ret
                    exact ⟨ret_b Hn.out.symm, bf⟩
                  | none =>
                    rw [hse] at HSe NB
                    simp only [findV] at HSe
                    cases hs1 : s1
                    · rw [hs1] at HS1 NB
                      have Hn : Hid (R = !s2) := by show _ = _; rw [← HR.out, ok_4, hbw, hL, hem, NB.out]; rfl
                      clear HNm HAt EB NB
                      go_enter Tryd.func23, Tryd.ntmps23
                      go_wp2_with fail
                      refine HLn.mono ?_
                      rintro e w1 ⟨rfl, b1⟩
                      obtain ⟨bf, d0, d1, d2, d3⟩ := keep.out _ b1
                      clear HLn b1 keep
                      go_wp2_with fail
                      refine (HSe _).mono ?_
                      rintro e w2 ⟨rfl, rfl⟩
                      go_wp2_with fail
                      refine (HS1 _).mono ?_
                      rintro e w3 ⟨rfl, rfl⟩
                      go_wp2_with fail
                      refine (HS2 _).mono ?_
                      rintro e w4 ⟨rfl, rfl⟩
                      go_wp2_with fail
                      go_ret
                      exact ⟨ret_b Hn.out.symm, bf⟩
                    · rw [hs1] at HS1 NB
                      have Hn : Hid (R = false) := by show _ = _; rw [← HR.out, ok_4, hbw, hL, hem, NB.out]; rfl
                      clear HNm HAt EB NB HS2
                      go_enter Tryd.func23, Tryd.ntmps23
                      go_wp2_with fail
                      refine HLn.mono ?_
                      rintro e w1 ⟨rfl, b1⟩
                      obtain ⟨bf, d0, d1, d2, d3⟩ := keep.out _ b1
                      clear HLn b1 keep
                      go_wp2_with fail
                      refine (HSe _).mono ?_
                      rintro e w2 ⟨rfl, rfl⟩
                      go_wp2_with fail
                      refine (HS1 _).mono ?_
                      rintro e w3 ⟨rfl, rfl⟩
                      go_wp2_with fail
                      go_ret
                      exact ⟨ret_b Hn.out.symm, bf⟩
              · have g4 : (kd == 4) = false := by simp [h4]
                by_cases h5 : kd = 5
                · subst h5
                  have HSm := fun W => specSmall tx W (by omega)
                  have HFi := fun W => Calls.below (specFind tx 0 62 W (Nat.zero_le _) (by omega))
                  have HBl := fun W => Calls.below (specBlanks tx 0 W (Nat.zero_le _) (by omega))
                  have KB : Hid (kindB tx = ((smallS tx).toList == tx.toList && ((findE tx 0 62).isNone && decide (runE blankU tx 0 = 0)))) := rfl
                  generalize runE blankU tx 0 = rr at *
                  generalize smallS tx = SM at *
                  cases he1 : nm.toList == []
                  · have Hn : Hid (R = false) := by show _ = _; rw [← HR.out, ok_5, hbw, hL, EB nm, he1]; rfl
                    clear HNm HAt EB HSm HFi HBl KB
                    go_enter Tryd.func23, Tryd.ntmps23
                    go_wp2_with fail
                    refine HLn.mono ?_
                    rintro e w1 ⟨rfl, b1⟩
                    obtain ⟨bf, d0, d1, d2, d3⟩ := keep.out _ b1
                    clear HLn b1 keep
                    have q1 := cell_regrown d1
                    have q3 := cell_regrown d3
                    go_upto_region 12 with fail
                    refine wp_region_quiet_below (by kernel_rfl) (by kernel_rfl) ?_
                    repeat (go_big_quiet_step (fail))
                    refine wpQuiet_nil ?_
                    intro _ hw'
                    obtain ⟨⟨dq, osq⟩, hw''⟩ := hw'
                    subst hw''
                    have bq := bf.trans ((below_regrown w1 dq osq).mono bf.size)
                    generalize Sort.grow (redrawn w1 dq) osq = W at *
                    clear q1 q3 d0 d1 d2 d3
                    go_wp2_with fail
                    go_ret
                    exact ⟨ret_b Hn.out.symm, bq⟩
                  · have hem : emptyB nm = true := by rw [EB nm]; exact he1
                    cases hsm : SM.toList == tx.toList
                    · rw [hsm] at KB
                      have Hn : Hid (R = false) := by show _ = _; rw [← HR.out, ok_5, hbw, hL, hem, KB.out]; rfl
                      clear HNm HAt EB HFi HBl KB
                      go_enter Tryd.func23, Tryd.ntmps23
                      go_wp2_with fail
                      refine HLn.mono ?_
                      rintro e w1 ⟨rfl, b1⟩
                      obtain ⟨bf, d0, d1, d2, d3⟩ := keep.out _ b1
                      clear HLn b1 keep
                      have cS := fun d os => Calls.regrown_of (w := w1) (HSm (Sort.grow (redrawn w1 d) os))
                      have q1 := cell_regrown d1
                      have q3 := cell_regrown d3
                      go_upto_region 12 with fail
                      refine wp_region_quiet_below (by kernel_rfl) (by kernel_rfl) ?_
                      repeat (go_big_quiet_step (first | exact cS _ _))
                      refine wpQuiet_nil ?_
                      intro _ hw'
                      obtain ⟨⟨dq, osq⟩, hw''⟩ := hw'
                      subst hw''
                      have bq := bf.trans ((below_regrown w1 dq osq).mono bf.size)
                      generalize Sort.grow (redrawn w1 dq) osq = W at *
                      clear q1 q3 d0 d1 d2 d3
                      go_wp2_with fail
                      go_ret
                      exact ⟨ret_b Hn.out.symm, bq⟩
                    · rw [hsm] at KB
                      cases hfi : findE tx 0 62 with
                      | some m =>
                        rw [hfi] at HFi KB
                        simp only [findV] at HFi
                        have gm : decide ((m : Int) < 0) = false := decide_eq_false (by omega)
                        have Hn : Hid (R = false) := by show _ = _; rw [← HR.out, ok_5, hbw, hL, hem, KB.out]; rfl
                        clear HNm HAt EB HBl KB
                        go_enter Tryd.func23, Tryd.ntmps23
                        go_wp2_with fail
                        refine HLn.mono ?_
                        rintro e w1 ⟨rfl, b1⟩
                        obtain ⟨bf, d0, d1, d2, d3⟩ := keep.out _ b1
                        clear HLn b1 keep
                        have cS := fun d os => Calls.regrown_of (w := w1) (HSm (Sort.grow (redrawn w1 d) os))
                        have cF := fun d os => Calls.regrown_of (w := w1) (HFi (Sort.grow (redrawn w1 d) os))
                        have q1 := cell_regrown d1
                        have q3 := cell_regrown d3
                        go_upto_region 12 with fail
                        refine wp_region_quiet_below (by kernel_rfl) (by kernel_rfl) ?_
                        repeat (go_big_quiet_step (first | exact cS _ _ | exact cF _ _))
                        refine wpQuiet_nil ?_
                        intro _ hw'
                        obtain ⟨⟨dq, osq⟩, hw''⟩ := hw'
                        subst hw''
                        have bq := bf.trans ((below_regrown w1 dq osq).mono bf.size)
                        generalize Sort.grow (redrawn w1 dq) osq = W at *
                        clear q1 q3 d0 d1 d2 d3
                        go_wp2_with fail
                        go_ret
                        exact ⟨ret_b Hn.out.symm, bq⟩
                      | none =>
                        rw [hfi] at HFi KB
                        simp only [findV] at HFi
                        have hrr : decide (rr = 0) = ((rr : Int) == 0) := by
                          by_cases h : rr = 0
                          · subst h; rfl
                          · have : ((rr : Int) == 0) = false := by simp [h]
                            rw [this, decide_eq_false h]
                        have Hn : Hid (R = ((rr : Int) == 0)) := by show _ = _; rw [← HR.out, ok_5, hbw, hL, hem, KB.out, hrr]; rfl
                        clear HNm HAt EB KB
                        go_enter Tryd.func23, Tryd.ntmps23
                        go_wp2_with fail
                        refine HLn.mono ?_
                        rintro e w1 ⟨rfl, b1⟩
                        obtain ⟨bf, d0, d1, d2, d3⟩ := keep.out _ b1
                        clear HLn b1 keep
                        have cS := fun d os => Calls.regrown_of (w := w1) (HSm (Sort.grow (redrawn w1 d) os))
                        have cF := fun d os => Calls.regrown_of (w := w1) (HFi (Sort.grow (redrawn w1 d) os))
                        have cB := fun d os => Calls.regrown_of (w := w1) (HBl (Sort.grow (redrawn w1 d) os))
                        have q1 := cell_regrown d1
                        have q3 := cell_regrown d3
                        go_upto_region 12 with fail
                        refine wp_region_quiet_below (by kernel_rfl) (by kernel_rfl) ?_
                        repeat (go_big_quiet_step (first | exact cS _ _ | exact cF _ _ | exact cB _ _))
                        refine wpQuiet_nil ?_
                        intro _ hw'
                        obtain ⟨⟨dq, osq⟩, hw''⟩ := hw'
                        subst hw''
                        have bq := bf.trans ((below_regrown w1 dq osq).mono bf.size)
                        generalize Sort.grow (redrawn w1 dq) osq = W at *
                        clear q1 q3 d0 d1 d2 d3
                        go_wp2_with fail
                        go_ret
                        exact ⟨ret_b Hn.out.symm, bq⟩
                · have g5 : (kd == 5) = false := by simp [h5]
                  have Hn : Hid (R = false) := HR.out.symm.trans (HEL h1 h2 h3 h4 h5)
                  clear HNm HAt EB
                  go_enter Tryd.func23, Tryd.ntmps23
                  go_wp2_with fail
                  refine HLn.mono ?_
                  rintro e w1 ⟨rfl, b1⟩
                  obtain ⟨bf, d0, d1, d2, d3⟩ := keep.out _ b1
                  clear HLn b1 keep
                  go_wp2_with fail
                  go_ret
                  exact ⟨ret_b Hn.out.symm, bf⟩
      · have Hn : Hid (R = false) := HR.out.symm.trans (HNB h2 (by unfold bareWord; simp))
        clear HNm HAt HNL HLn keep HNB HEL EB
        go_enter Tryd.func23, Tryd.ntmps23
        go_wp2_with fail
        go_ret
        exact ⟨ret_b Hn.out.symm, bb⟩

end Go.Proofs.YtmambbknljgjcaaDoor.Sg

namespace Go.Proofs.YtmambbknljgjcaaDoor.Sg
open Go.ChangeShapes Go.WideShapes Go.ChangeAt Go.RowKit

theorem drop_two (l : List TokB) (k : Nat) (h : k < l.length) : l.drop k = l[k]'h :: l.drop (k + 1) := List.drop_eq_getElem_cons h
theorem closed_le (tx nm : ByteArray) (h1 : tx.size ≤ 1048576) (h2 : nm.size ≤ 1048576) : (closed tx nm).size ≤ 17592186044416 := by
  rw [closed_size]
  omega

set_option maxRecDepth 20000 in
set_option maxHeartbeats 8000000 in
/-- The last asking of l5Held, at a place where a word stands, or at the end. -/
theorem specHeld (l : List TokB) (a : Option Addr) (n cap k : Nat) (w : World) (ha : ToksAt w a l) (hl : l.length = n) (hk : k < l.length) (hw : toksW l ≤ 1048576) :
    Calls Tryd.prog 24 #[.slice a n cap, .int .i64 (k : Int)] w fun e w' => e = .returned (.bool (heldL (l[k]'hk) (l.drop (k + 1)))) ∧ Below w.heap.size w w' := by
  have hn : n ≤ 1048576 := by unfold toksW at hw; omega
  have hkn : k < n := by omega
  have HW : Hid (∀ t ∈ l, tokW t ≤ 1048576) := fun t ht => Nat.le_trans (tokW_le ht) hw
  have HA : Hid (ToksAt w a l) := ha
  have Hl : Hid (l.length = n) := hl
  obtain ⟨R, HR⟩ : ∃ R, Hid (heldL (l[k]'hk) (l.drop (k + 1)) = R) := ⟨_, rfl⟩
  rw [HR.out]
  obtain ⟨b, rfl, c0, c1, ⟨sv, c2, hS⟩, c3, c4⟩ := ha.get k hk
  have hp := HW.out _ (List.getElem_mem hk)
  have Hbare : Hid (bareAt l (k + 1) = bareT (l[k]'hk)) := by show _ = _; simp [bareAt, hk]
  generalize l[k]'hk = t at *
  obtain ⟨sa, sc, rfl, _⟩ := hS
  obtain ⟨kd, nm, at', tx, sf⟩ := t
  have hnm : nm.size ≤ 1048576 := by unfold tokW at hp; simp only at hp; omega
  simp only at c0 c1 c2 c3 c4
  have SB : Hid (startB (kd, nm, at', tx, sf) = (kd == 2 && (!sf && rawB nm))) := rfl
  have HH : Hid (heldL (kd, nm, at', tx, sf) (l.drop (k + 1)) = (!startB (kd, nm, at', tx, sf) || behindB rawTS nm (l.drop (k + 1)))) := rfl
  have BT : Hid (bareT (kd, nm, at', tx, sf) = (kd == 2 && (!sf && scriptB nm))) := rfl
  have k0 : (0 : Int) ≤ (k : Int) := by omega
  have k1 : (k : Int) < (n : Int) := by omega
  have bb : Below w.heap.size w (w.alloc (.cells #[.int .i64 kd, .string nm, .slice sa at'.length sc, .string tx, .bool sf] 36)) := (Below.refl _ _).alloc (Nat.le_refl _) _
  have hzz : (w.alloc (.cells #[.int .i64 kd, .string nm, .slice sa at'.length sc, .string tx, .bool sf] 36)).heap.size = w.heap.size + 1 := by simp
  have f1 : (w.alloc (.cells #[.int .i64 kd, .string nm, .slice sa at'.length sc, .string tx, .bool sf] 36)).cell? ⟨w.heap.size, 1, none⟩ = some (.string nm) := by simp
  have HRaw := fun W => specRaw nm W
  clear ha hl hw hp
  cases h2 : kd == 2
  · have gne : (kd != 2) = true := by unfold bne; rw [h2]; rfl
    have Hn : Hid (R = true) := by show _ = _; rw [← HR.out, HH.out, SB.out, h2]; rfl
    clear HRaw HH SB BT HR
    go_enter Tryd.func24, Tryd.ntmps24
    go_wp2_with fail
    go_ret
    exact ⟨ret_b Hn.out.symm, bb⟩
  · have gne : (kd != 2) = false := by unfold bne; rw [h2]; rfl
    cases sf
    · cases hraw : rawB nm
      · rw [hraw] at HRaw
        have Hn : Hid (R = true) := by show _ = _; rw [← HR.out, HH.out, SB.out, h2, hraw]; rfl
        clear HH SB BT HR
        go_enter Tryd.func24, Tryd.ntmps24
        go_wp2_with fail
        refine (HRaw _).mono ?_
        rintro e w1 ⟨rfl, rfl⟩
        go_wp2_with fail
        go_ret
        exact ⟨ret_b Hn.out.symm, bb⟩
      · rw [hraw] at HRaw
        have q1 : IntKind.i64.wrap ((k : Int) + 1) = (k : Int) + 1 := IntWalk.i64_in _ (by omega)
        have q2 : IntKind.i64.wrap ((k : Int) + 1 + 1) = (k : Int) + 1 + 1 := IntWalk.i64_in _ (by omega)
        have HHb : Hid (R = behindB rawTS nm (l.drop (k + 1))) := by show _ = _; rw [← HR.out, HH.out, SB.out, h2, hraw]; rfl
        clear HH SB HR
        by_cases hend : k + 1 = n
        · have g1 : ((k : Int) + 1 == (n : Int)) = true := by simp; omega
          have Hn : Hid (R = true) := by show _ = _; rw [HHb.out, List.drop_of_length_le (by rw [Hl.out]; omega)]; rfl
          clear HHb BT
          go_enter Tryd.func24, Tryd.ntmps24
          go_wp2_with fail
          refine (HRaw _).mono ?_
          rintro e w1 ⟨rfl, rfl⟩
          go_wp2_with fail
          go_ret
          exact ⟨ret_b Hn.out.symm, bb⟩
        · have g1 : ((k : Int) + 1 == (n : Int)) = false := by simp; omega
          have hk1 : k + 1 < l.length := by rw [Hl.out]; omega
          have hd1 := drop_two l (k + 1) hk1
          have A0 := HA.out.keep bb
          obtain ⟨b', hb', u0, u1, _, u3, _⟩ := A0.get (k + 1) hk1
          cases hb'
          have hpu := HW.out _ (List.getElem_mem hk1)
          generalize l[k + 1]'hk1 = u at *
          obtain ⟨ukd, unm, uat, utx, usf⟩ := u
          have hut : utx.size ≤ 1048576 := by unfold tokW at hpu; simp only at hpu; omega
          simp only at u0 u1 u3
          rw [hd1, behindB_cons] at HHb
          have IT : Hid (isText (ukd, unm, uat, utx, usf) = (ukd == 1)) := rfl
          have IE : Hid (isEnd (ukd, unm, uat, utx, usf) nm = (ukd == 3 && (unm.toList == nm.toList))) := rfl
          have k2 : (0 : Int) ≤ (k : Int) + 1 := by omega
          have k3 : (k : Int) + 1 < (n : Int) := by omega
          have k4 : ((k : Int) + 1).toNat = k + 1 := by omega
          cases htxt : ukd == 1
          · rw [IT.out, htxt, if_neg (by simp), IE.out] at HHb
            clear BT hd1 IT IE
            cases h3 : ukd == 3
            · rw [h3] at HHb
              go_enter Tryd.func24, Tryd.ntmps24
              go_wp2_with fail
              refine (HRaw _).mono ?_
              rintro e w1 ⟨rfl, rfl⟩
              go_wp2_with fail
              go_quiet (fail)
              have bq := drew_kd bb nq
              go_wp2_with fail
              go_ret
              exact ⟨ret_b HHb.out.symm, bq⟩
            · rw [h3] at HHb
              cases h4 : unm.toList == nm.toList
              · rw [h4] at HHb
                go_enter Tryd.func24, Tryd.ntmps24
                go_wp2_with fail
                refine (HRaw _).mono ?_
                rintro e w1 ⟨rfl, rfl⟩
                go_wp2_with fail
                go_quiet (fail)
                have bq := drew_kd bb nq
                go_wp2_with fail
                go_ret
                exact ⟨ret_b HHb.out.symm, bq⟩
              · rw [h4] at HHb
                go_enter Tryd.func24, Tryd.ntmps24
                go_wp2_with fail
                refine (HRaw _).mono ?_
                rintro e w1 ⟨rfl, rfl⟩
                go_wp2_with fail
                go_quiet (fail)
                have bq := drew_kd bb nq
                go_wp2_with fail
                go_ret
                exact ⟨ret_b HHb.out.symm, bq⟩
          · rw [IT.out, htxt, if_pos rfl] at HHb
            have e1 : (((k + 1 : Nat)) : Int) = (k : Int) + 1 := by omega
            have HBa : ∀ W, ToksAt W (some ⟨b, 0, none⟩) l → Calls Tryd.prog 13 #[.slice (some ⟨b, 0, none⟩) n cap, .int .i64 ((k : Int) + 1)] W fun e w' => e = .returned (.bool (scriptB nm)) ∧ Below W.heap.size W w' := fun W hW => by
              have h := specBare l (some ⟨b, 0, none⟩) n cap (k + 1) W hW Hl.out (by omega) (by omega)
              rw [e1, Hbare.out, BT.out, h2] at h
              exact Calls.below h
            have RT : Hid (rawTS nm (ukd, unm, uat, utx, usf) = (!scriptB nm || decide (rawEndE (closed utx nm) 0 nm = utx.size))) := rfl
            rw [RT.out] at HHb
            have cB := fun d os => Calls.regrown_of (w := w.alloc (.cells #[.int .i64 kd, .string nm, .slice sa at'.length sc, .string tx, .bool false] 36)) (HBa (Sort.grow (redrawn (w.alloc (.cells #[.int .i64 kd, .string nm, .slice sa at'.length sc, .string tx, .bool false] 36)) d) os) (A0.keep (below_regrown _ d os)))
            have z3 := cell_regrown u3
            have zf := cell_regrown f1
            clear BT hd1 IT IE RT HBa
            cases hsc : scriptB nm
            · rw [hsc] at HHb cB
              simp only [Bool.not_false, Bool.true_or, Bool.true_and] at HHb
              go_enter Tryd.func24, Tryd.ntmps24
              go_wp2_with fail
              refine (HRaw _).mono ?_
              rintro e w1 ⟨rfl, rfl⟩
              go_upto_region 6 with fail
              refine wp_region_quiet_below (by kernel_rfl) (by kernel_rfl) ?_
              repeat (go_big_quiet_step (first | exact cB _ _))
              refine wpQuiet_nil ?_
              intro _ hw'
              obtain ⟨⟨dq, osq⟩, hw''⟩ := hw'
              subst hw''
              have bq0 := below_regrown (w.alloc (.cells #[.int .i64 kd, .string nm, .slice sa at'.length sc, .string tx, .bool false] 36)) dq osq
              generalize Sort.grow (redrawn (w.alloc (.cells #[.int .i64 kd, .string nm, .slice sa at'.length sc, .string tx, .bool false] 36)) dq) osq = W at *
              have bq : Below w.heap.size w W := bb.trans (bq0.mono bb.size)
              have f1' := keep_cell bq0 f1
              clear cB z3 zf bq0 A0
              by_cases hend2 : k + 1 + 1 = n
              · have g5 : ((k : Int) + 1 + 1 == (n : Int)) = true := by simp; omega
                rw [List.drop_of_length_le (by rw [Hl.out]; omega)] at HHb
                clear u0 u1 u3
                go_wp2_with fail
                go_quiet (fail)
                have bq2 := drew_kd bq nq
                go_wp2_with fail
                go_ret
                exact ⟨ret_b HHb.out.symm, bq2⟩
              · have g5 : ((k : Int) + 1 + 1 == (n : Int)) = false := by simp; omega
                have hk2 : k + 1 + 1 < l.length := by rw [Hl.out]; omega
                have hd2 := drop_two l (k + 1 + 1) hk2
                rw [hd2] at HHb
                obtain ⟨b'', hb'', v0, v1, _, _, _⟩ := (HA.out.keep bq).get (k + 1 + 1) hk2
                cases hb''
                generalize l[k + 1 + 1]'hk2 = v at *
                obtain ⟨vkd, vnm, vat, vtx, vsf⟩ := v
                simp only at v0 v1
                have IE2 : Hid (endIs nm ((vkd, vnm, vat, vtx, vsf) :: l.drop (k + 1 + 1 + 1)) = (vkd == 3 && (vnm.toList == nm.toList))) := rfl
                rw [IE2.out] at HHb
                have k5 : (0 : Int) ≤ (k : Int) + 1 + 1 := by omega
                have k6 : (k : Int) + 1 + 1 < (n : Int) := by omega
                have k7 : ((k : Int) + 1 + 1).toNat = k + 1 + 1 := by omega
                clear u0 u1 u3 IE2 hd2
                cases h3 : vkd == 3
                · rw [h3] at HHb
                  go_wp2_with fail
                  go_quiet (fail)
                  have bq2 := drew_kd bq nq
                  go_wp2_with fail
                  go_ret
                  exact ⟨ret_b HHb.out.symm, bq2⟩
                · rw [h3] at HHb
                  cases h4 : vnm.toList == nm.toList
                  · rw [h4] at HHb
                    go_wp2_with fail
                    go_quiet (fail)
                    have bq2 := drew_kd bq nq
                    go_wp2_with fail
                    go_ret
                    exact ⟨ret_b HHb.out.symm, bq2⟩
                  · rw [h4] at HHb
                    go_wp2_with fail
                    go_quiet (fail)
                    have bq2 := drew_kd bq nq
                    go_wp2_with fail
                    go_ret
                    exact ⟨ret_b HHb.out.symm, bq2⟩
            · rw [hsc] at HHb cB
              simp only [Bool.not_true, Bool.false_or] at HHb
              have HRE : ∀ W, Calls Tryd.prog 45 #[.string (((utx ++ (⟨#[60, 47]⟩ : ByteArray)) ++ nm) ++ (⟨#[62]⟩ : ByteArray)), .int .i64 0, .string nm] W fun e w' => e = .returned (.int .i64 (rawEndE (closed utx nm) 0 nm : Int)) ∧ Below W.heap.size W w' := fun W => specRawEnd (closed utx nm) 0 nm W (closed_le utx nm hut hnm) (by omega)
              have cR := fun d os => Calls.regrown_of (w := w.alloc (.cells #[.int .i64 kd, .string nm, .slice sa at'.length sc, .string tx, .bool false] 36)) (HRE (Sort.grow (redrawn (w.alloc (.cells #[.int .i64 kd, .string nm, .slice sa at'.length sc, .string tx, .bool false] 36)) d) os))
              generalize rawEndE (closed utx nm) 0 nm = z at *
              have s1 : ¬ 9223372036854775807 < utx.size + 2 := by omega
              have s2 : ¬ 9223372036854775807 < utx.size + 2 + nm.size := by omega
              have s3 : ¬ 9223372036854775807 < utx.size + 2 + nm.size + 1 := by omega
              clear HRE
              by_cases hz : z = utx.size
              · have gz : ((z : Int) != (utx.size : Int)) = false := by rw [hz]; simp
                rw [decide_eq_true hz, Bool.true_and] at HHb
                go_enter Tryd.func24, Tryd.ntmps24
                go_wp2_with fail
                refine (HRaw _).mono ?_
                rintro e w1 ⟨rfl, rfl⟩
                go_upto_region 6 with fail
                refine wp_region_quiet_below (by kernel_rfl) (by kernel_rfl) ?_
                repeat (go_big_quiet_step (first | exact cB _ _ | exact cR _ _))
                refine wpQuiet_nil ?_
                intro _ hw'
                obtain ⟨⟨dq, osq⟩, hw''⟩ := hw'
                subst hw''
                have bq0 := below_regrown (w.alloc (.cells #[.int .i64 kd, .string nm, .slice sa at'.length sc, .string tx, .bool false] 36)) dq osq
                generalize Sort.grow (redrawn (w.alloc (.cells #[.int .i64 kd, .string nm, .slice sa at'.length sc, .string tx, .bool false] 36)) dq) osq = W at *
                have bq : Below w.heap.size w W := bb.trans (bq0.mono bb.size)
                have f1' := keep_cell bq0 f1
                clear cB cR z3 zf bq0 A0
                by_cases hend2 : k + 1 + 1 = n
                · have g5 : ((k : Int) + 1 + 1 == (n : Int)) = true := by simp; omega
                  rw [List.drop_of_length_le (by rw [Hl.out]; omega)] at HHb
                  clear u0 u1 u3
                  go_wp2_with fail
                  go_quiet (fail)
                  have bq2 := drew_kd bq nq
                  go_wp2_with fail
                  go_ret
                  exact ⟨ret_b HHb.out.symm, bq2⟩
                · have g5 : ((k : Int) + 1 + 1 == (n : Int)) = false := by simp; omega
                  have hk2 : k + 1 + 1 < l.length := by rw [Hl.out]; omega
                  have hd2 := drop_two l (k + 1 + 1) hk2
                  rw [hd2] at HHb
                  obtain ⟨b'', hb'', v0, v1, _, _, _⟩ := (HA.out.keep bq).get (k + 1 + 1) hk2
                  cases hb''
                  generalize l[k + 1 + 1]'hk2 = v at *
                  obtain ⟨vkd, vnm, vat, vtx, vsf⟩ := v
                  simp only at v0 v1
                  have IE2 : Hid (endIs nm ((vkd, vnm, vat, vtx, vsf) :: l.drop (k + 1 + 1 + 1)) = (vkd == 3 && (vnm.toList == nm.toList))) := rfl
                  rw [IE2.out] at HHb
                  have k5 : (0 : Int) ≤ (k : Int) + 1 + 1 := by omega
                  have k6 : (k : Int) + 1 + 1 < (n : Int) := by omega
                  have k7 : ((k : Int) + 1 + 1).toNat = k + 1 + 1 := by omega
                  clear u0 u1 u3 IE2 hd2
                  cases h3 : vkd == 3
                  · rw [h3] at HHb
                    go_wp2_with fail
                    go_quiet (fail)
                    have bq2 := drew_kd bq nq
                    go_wp2_with fail
                    go_ret
                    exact ⟨ret_b HHb.out.symm, bq2⟩
                  · rw [h3] at HHb
                    cases h4 : vnm.toList == nm.toList
                    · rw [h4] at HHb
                      go_wp2_with fail
                      go_quiet (fail)
                      have bq2 := drew_kd bq nq
                      go_wp2_with fail
                      go_ret
                      exact ⟨ret_b HHb.out.symm, bq2⟩
                    · rw [h4] at HHb
                      go_wp2_with fail
                      go_quiet (fail)
                      have bq2 := drew_kd bq nq
                      go_wp2_with fail
                      go_ret
                      exact ⟨ret_b HHb.out.symm, bq2⟩
              · have gz : ((z : Int) != (utx.size : Int)) = true := by simp; omega
                rw [decide_eq_false hz, Bool.false_and] at HHb
                go_enter Tryd.func24, Tryd.ntmps24
                go_wp2_with fail
                refine (HRaw _).mono ?_
                rintro e w1 ⟨rfl, rfl⟩
                go_upto_region 6 with fail
                refine wp_region_quiet_below (by kernel_rfl) (by kernel_rfl) ?_
                repeat (go_big_quiet_step (first | exact cB _ _ | exact cR _ _))
                refine wpQuiet_nil ?_
                intro _ hw'
                obtain ⟨⟨dq, osq⟩, hw''⟩ := hw'
                subst hw''
                have bq0 := below_regrown (w.alloc (.cells #[.int .i64 kd, .string nm, .slice sa at'.length sc, .string tx, .bool false] 36)) dq osq
                generalize Sort.grow (redrawn (w.alloc (.cells #[.int .i64 kd, .string nm, .slice sa at'.length sc, .string tx, .bool false] 36)) dq) osq = W at *
                have bq : Below w.heap.size w W := bb.trans (bq0.mono bb.size)
                have f1' := keep_cell bq0 f1
                clear cB cR z3 zf bq0 A0
                go_wp2_with fail
                go_ret
                exact ⟨ret_b HHb.out.symm, bq⟩
    · have Hn : Hid (R = true) := by show _ = _; rw [← HR.out, HH.out, SB.out, h2]; rfl
      clear HRaw HH SB BT HR
      go_enter Tryd.func24, Tryd.ntmps24
      go_wp2_with fail
      go_ret
      exact ⟨ret_b Hn.out.symm, bb⟩

end Go.Proofs.YtmambbknljgjcaaDoor.Sg

namespace Go.Proofs.YtmambbknljgjcaaDoor.Sg
open Go.ChangeShapes Go.WideShapes Go.ChangeAt Go.RowKit

/-- The word ahead of the k-th is a text. -/
def prevT (l : List TokB) (k : Nat) : Bool := match k with
  | 0 => false
  | j + 1 => match l[j]? with
    | none => false
    | some t => isText t
theorem prevT_next (l : List TokB) (k : Nat) (h : k < l.length) : prevT l (k + 1) = isText (l[k]'h) := by simp [prevT, h]

set_option maxRecDepth 20000 in
set_option maxHeartbeats 8000000 in
theorem specTokensOk (l : List TokB) (a : Option Addr) (n cap : Nat) (w : World) (ha : ToksAt w a l) (hC : CapsAt w a l) (hl : l.length = n) (hw : toksW l ≤ 1048576) :
    Calls Tryd.prog 10 #[.slice a n cap] w fun e w' => e = .returned (.bool (specL false l)) ∧ Below w.heap.size w w' := by
  have HA : Hid (ToksAt w a l) := ha
  have HC : Hid (CapsAt w a l) := hC
  have Hl : Hid (l.length = n) := hl
  have hn : n ≤ 1048576 := by unfold toksW at hw; omega
  have Hw : Hid (toksW l ≤ 1048576) := hw
  have HW : Hid (∀ t ∈ l, tokW t ≤ 1048576) := fun t ht => Nat.le_trans (tokW_le ht) hw
  have HR : Hid (specL false l = specL (prevT l 0) (l.drop 0)) := rfl
  generalize specL false l = R at *
  clear ha hC hl hw
  go_enter Tryd.func10, Tryd.ntmps10
  go_wp2
  go_loopw [3] (fun i wr => ∃ k : Nat, k ≤ n ∧ i = .int .i64 k ∧ Hid (R = specL (prevT l k) (l.drop k)) ∧ Below w.heap.size w wr) (fun i _ => n - (intOf i).toNat)
  case atStart => exact ⟨0, Nat.zero_le _, rfl, HR, Below.refl _ _⟩
  case round =>
    clear HR
    obtain ⟨k, hk, rfl, HR, hbel⟩ := hrel
    by_cases hlt : k < n
    · have hkl : k < l.length := by rw [Hl.out]; exact hlt
      have HAr := HA.out.keep hbel
      have HCr := HC.out.keep HA.out hbel
      obtain ⟨b, rfl, c0, c1, ⟨sv, c2, hS⟩, c3, c4⟩ := HAr.get k hkl
      obtain ⟨sa, sc, rfl, hSA⟩ := hS
      have hcap := HCr b rfl k hkl _ c2 sa _ sc rfl
      have hp := HW.out _ (List.getElem_mem hkl)
      have Hh : ∀ W, Below wr.heap.size wr W → Calls Tryd.prog 24 #[.slice (some ⟨b, 0, none⟩) n cap, .int .i64 (k : Int)] W fun e w' => e = .returned (.bool (heldL (l[k]'hkl) (l.drop (k + 1)))) ∧ Below W.heap.size W w' := fun W hW => specHeld l (some ⟨b, 0, none⟩) n cap k W (HAr.keep hW) Hl.out hkl Hw.out
      have Hprev : Hid (prevT l (k + 1) = isText (l[k]'hkl)) := prevT_next l k hkl
      have Hdrop := drop_two l k hkl
      have Ht := specToken (l[k]'hkl) sa sc wr hSA hcap hp
      have HS : Hid (specL (prevT l k) (l[k]'hkl :: l.drop (k + 1)) = (okT (l[k]'hkl) && (heldL (l[k]'hkl) (l.drop (k + 1)) && (!(prevT l k && isText (l[k]'hkl)) && specL (isText (l[k]'hkl)) (l.drop (k + 1)))))) := rfl
      rw [Hdrop, HS.out] at HR
      have IT : Hid (isText (l[k]'hkl) = ((l[k]'hkl).1 == 1)) := rfl
      clear Hdrop HS
      generalize l[k]'hkl = t at *
      generalize okT t = ok at *
      generalize heldL t (l.drop (k + 1)) = he at *
      obtain ⟨kd, nm, at', tx, sf⟩ := t
      simp only at c0 c1 c2 c3 c4 Ht IT hSA hcap
      have k0 : (0 : Int) ≤ (k : Int) := by omega
      have k1 : (k : Int) < (n : Int) := by omega
      cases hok : ok
      · rw [hok, Bool.false_and] at HR
        rw [hok] at Ht
        clear Hh
        go_wp2_with fail
        refine Ht.mono ?_
        rintro e w1 ⟨rfl, b1⟩
        have bf := hbel.trans (b1.mono hbel.size)
        clear Ht b1
        go_wp2_with fail
        go_ret
        exact ⟨ret_b HR.out.symm, bf⟩
      · rw [hok, Bool.true_and] at HR
        rw [hok] at Ht
        cases hhe : he
        · rw [hhe, Bool.false_and] at HR
          rw [hhe] at Hh
          go_wp2_with fail
          refine Ht.mono ?_
          rintro e w1 ⟨rfl, b1⟩
          go_wp2_with fail
          refine (Hh _ b1).mono ?_
          rintro e w2 ⟨rfl, b2⟩
          have bf := hbel.trans ((below_chain b1 b2).mono hbel.size)
          clear Ht Hh b1 b2
          go_wp2_with fail
          go_ret
          exact ⟨ret_b HR.out.symm, bf⟩
        · rw [hhe, Bool.true_and] at HR
          rw [hhe] at Hh
          cases hkz : decide (0 < k)
          · have hk0 : k = 0 := by have := of_decide_eq_false hkz; omega
            subst hk0
            have HR2 : Hid (R = specL (prevT l (0 + 1)) (l.drop (0 + 1))) := by
              show _ = _
              rw [HR.out, Hprev.out]
              rfl
            clear HR Hprev
            go_wp2_with fail
            refine Ht.mono ?_
            rintro e w1 ⟨rfl, b1⟩
            go_wp2_with fail
            refine (Hh _ b1).mono ?_
            rintro e w2 ⟨rfl, b2⟩
            have bf := hbel.trans ((below_chain b1 b2).mono hbel.size)
            clear Ht Hh b1 b2
            go_wp2_with fail
            go_roundw
            case rel => exact ⟨0 + 1, by omega, by go_num, HR2, bf⟩
            case measure => simp [intOf]; omega
          · have hkp : 0 < k := of_decide_eq_true hkz
            have gk : decide ((k : Int) > 0) = true := decide_eq_true (by omega)
            have gk' : decide ((0 : Int) < (k : Int)) = true := decide_eq_true (by omega)
            obtain ⟨j, rfl⟩ : ∃ j, k = j + 1 := ⟨k - 1, by omega⟩
            have hj : j < l.length := by omega
            have Hpj : Hid (prevT l (j + 1) = isText (l[j]'hj)) := prevT_next l j hj
            have HAj := HAr.get j hj
            have ITj : Hid (isText (l[j]'hj) = ((l[j]'hj).1 == 1)) := rfl
            generalize l[j]'hj = p at *
            obtain ⟨b', hb', p0, _⟩ := HAj
            cases hb'
            obtain ⟨pkd, pnm, pat, ptx, psf⟩ := p
            simp only at p0 ITj
            have q2 : IntKind.i64.wrap (((j + 1 : Nat) : Int) - 1) = (j : Int) := IntWalk.i64_in _ (by omega) |>.trans (by omega)
            have j0 : (0 : Int) ≤ (j : Int) := by omega
            have j1 : (j : Int) < (n : Int) := by omega
            rw [Hpj.out, ITj.out] at HR
            cases ht : kd == 1
            · have HR2 : Hid (R = specL (prevT l (j + 1 + 1)) (l.drop (j + 1 + 1))) := by
                show _ = _
                rw [HR.out, Hprev.out, IT.out, ht, Bool.and_false]
                rfl
              clear HR Hprev Hpj ITj IT
              go_wp2_with fail
              refine Ht.mono ?_
              rintro e w1 ⟨rfl, b1⟩
              go_wp2_with fail
              refine (Hh _ b1).mono ?_
              rintro e w2 ⟨rfl, b2⟩
              have bw := below_chain b1 b2
              have bf := hbel.trans (bw.mono hbel.size)
              have d0 := keep_cell bw c0
              have e0 := keep_cell bw p0
              clear Ht Hh b1 b2 c0 c1 c2 c3 c4 p0 bw
              go_wp2_with fail
              go_roundw
              case rel => exact ⟨j + 1 + 1, by omega, by go_num, HR2, bf⟩
              case measure => simp [intOf]; omega
            · cases hp1 : pkd == 1
              · have HR2 : Hid (R = specL (prevT l (j + 1 + 1)) (l.drop (j + 1 + 1))) := by
                  show _ = _
                  rw [HR.out, Hprev.out, IT.out, ht, hp1]
                  rfl
                clear HR Hprev Hpj ITj IT
                go_wp2_with fail
                refine Ht.mono ?_
                rintro e w1 ⟨rfl, b1⟩
                go_wp2_with fail
                refine (Hh _ b1).mono ?_
                rintro e w2 ⟨rfl, b2⟩
                have bw := below_chain b1 b2
                have bf := hbel.trans (bw.mono hbel.size)
                have d0 := keep_cell bw c0
                have e0 := keep_cell bw p0
                clear Ht Hh b1 b2 c0 c1 c2 c3 c4 p0 bw
                go_wp2_with fail
                go_roundw
                case rel => exact ⟨j + 1 + 1, by omega, by go_num, HR2, bf⟩
                case measure => simp [intOf]; omega
              · rw [IT.out, ht, hp1] at HR
                have Hn : Hid (R = false) := HR.out
                clear HR Hprev Hpj ITj IT
                go_wp2_with fail
                refine Ht.mono ?_
                rintro e w1 ⟨rfl, b1⟩
                go_wp2_with fail
                refine (Hh _ b1).mono ?_
                rintro e w2 ⟨rfl, b2⟩
                have bw := below_chain b1 b2
                have bf := hbel.trans (bw.mono hbel.size)
                have d0 := keep_cell bw c0
                have e0 := keep_cell bw p0
                clear Ht Hh b1 b2 c0 c1 c2 c3 c4 p0 bw
                go_wp2_with fail
                go_ret
                exact ⟨ret_b Hn.out.symm, bf⟩
    · have hkn : k = n := by omega
      subst hkn
      have g2 : decide ((k : Int) < (k : Int)) = false := by simp
      have Hn : Hid (R = true) := by
        show _ = _
        rw [HR.out, List.drop_of_length_le (by rw [Hl.out]; exact Nat.le_refl _)]
        cases prevT l k <;> rfl
      clear HR
      go_wp2_with fail
      go_ret
      exact ⟨ret_b Hn.out.symm, hbel⟩

end Go.Proofs.YtmambbknljgjcaaDoor.Sg
