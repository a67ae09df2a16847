/- The library's ToUpper of a text of bytes below 128. -/
import Derived.Test.YtdpjmngodbgacaaGreatDoorM08
import Derived.Test.YtdpjmngodbgacaaGreatDoorStGrow
import Derived.Test.YtdpjmngodbgacaaGreatDoorM05
namespace Go.Proofs.YtdpjmngodbgacaaGreatDoor.Sg
open Go.ChangeShapes Go.WideShapes Go.ChangeAt Go.RowKit

/-- Whether there is a small letter ahead of a place. -/
def someLow (s : ByteArray) : Nat → Bool
  | 0 => false
  | k + 1 => someLow s k || lowQ (atB s k)
theorem someLow_no {s : ByteArray} : ∀ {k : Nat}, someLow s k = false → ∀ j, j < k → lowQ (atB s j) = false
  | 0, _, j, hj => by omega
  | k + 1, h, j, hj => by
    unfold someLow at h
    rw [Bool.or_eq_false_iff] at h
    by_cases e : j = k
    · subst e
      exact h.2
    · exact someLow_no h.1 j (by omega)

set_option maxHeartbeats 4000000 in
set_option maxRecDepth 20000 in
theorem upper (s : ByteArray) (w : World) (hs : s.size ≤ 1000000) (ha : ∀ j, j < s.size → (atB s j).toNat < 128) :
    Calls Tryz.prog 57 #[.string s] w fun e w' => e = .returned (.string ⟨(s.data.toList.map upD).toArray⟩) ∧ Below w.heap.size w w' := by
  have HA : Hid (∀ j, j < s.size → (atB s j).toNat < 128) := ha
  clear ha
  go_enter Tryz.func57, Tryz.ntmps57
  go_wp2_with fail
  go_loopw [3, 4, 5] (fun a h i wr => ∃ (k : Nat) (H : Bool), k ≤ s.size ∧ a = .bool true ∧ h = .bool H ∧ i = .int .i64 (k : Int) ∧ Hid (H = someLow s k) ∧ w = wr) (fun _ _ i _ => s.size - (intOf i).toNat)
  case atStart => exact ⟨0, false, Nat.zero_le _, rfl, rfl, rfl, rfl, rfl⟩
  case round =>
    obtain ⟨k, H, hk, rfl, rfl, rfl, HH, rfl⟩ := hrel
    by_cases hlt : k < s.size
    · have hg : ∀ h, (s[k]'h).toNat = (atB s k).toNat := fun h => by rw [atB_get s k h]
      have h128 := HA.out k hlt
      have Hnx : Hid (∀ H2, H2 = (H || lowQ (atB s k)) → H2 = someLow s (k + 1)) := by
        intro H2 h2
        rw [h2, HH.out]
        rfl
      have Hq : Hid (lowQ (atB s k) = decide (97 ≤ (atB s k).toNat ∧ (atB s k).toNat ≤ 122)) := rfl
      rw [Hq.out] at Hnx
      clear Hq HH
      generalize (atB s k).toNat = x at *
      have g1 : ¬ (128 : Int) ≤ (x : Int) := by omega
      cases H
      · by_cases ha : 97 ≤ x
        · by_cases hb : x ≤ 122
          · have Hn : Hid (true = someLow s (k + 1)) := Hnx.out true (by simp [ha, hb])
            go_wp2_with fail
            go_roundw
            case rel => exact ⟨k + 1, true, by omega, rfl, congrArg Value.bool (decide_eq_true (by omega)), by go_num, Hn, by first | trivial | rfl⟩
            case measure => simp [intOf]; omega
          · have Hn : Hid (false = someLow s (k + 1)) := Hnx.out false (by simp [ha, hb])
            go_wp2_with fail
            go_roundw
            case rel => exact ⟨k + 1, false, by omega, rfl, congrArg Value.bool (decide_eq_false (by omega)), by go_num, Hn, by first | trivial | rfl⟩
            case measure => simp [intOf]; omega
        · have Hn : Hid (false = someLow s (k + 1)) := Hnx.out false (by simp [ha])
          go_wp2_with fail
          go_roundw
          case rel => exact ⟨k + 1, false, by omega, rfl, rfl, by go_num, Hn, by first | trivial | rfl⟩
          case measure => simp [intOf]; omega
      · have Hn : Hid (true = someLow s (k + 1)) := Hnx.out true (by simp)
        go_wp2_with fail
        go_roundw
        case rel => exact ⟨k + 1, true, by omega, rfl, rfl, by go_num, Hn, by first | trivial | rfl⟩
        case measure => simp [intOf]; omega
    · have hke : k = s.size := by omega
      subst hke
      have g0 : decide ((s.size : Int) < (s.size : Int)) = false := decide_eq_false (by omega)
      cases H
      · have Hs : Hid ((⟨(s.data.toList.map upD).toArray⟩ : ByteArray) = s) := by
          show _ = _
          rw [up_none s (someLow_no HH.out.symm)]
        clear HH HA
        go_wp2_with fail
        go_ret
        exact ⟨ret_str Hs.out.symm, Below.refl _ _⟩
      · have hpos : 0 < s.size := by
          by_cases h : 0 < s.size
          · exact h
          · have h1 := HH.out
            rw [show s.size = 0 by omega] at h1
            cases h1
        clear HH
        go_wp2_with fail
        refine (growNew w.heap.size w.heap.size s.size _ (Nat.le_refl _) (heap_alloc_new w _) (by simp) hpos (by omega)).mono ?_
        rintro e w1 ⟨rfl, h1, b1⟩
        have B1 : Hid (Below w.heap.size w w1) := ((Below.refl _ w).alloc (Nat.le_refl _) _).trans b1
        have H1 : Hid (Lib.IsBuilderF 54 5 w.heap.size w.heap.size (Lib.byteCells (upTo s 0)) w1) := h1
        clear h1 b1 hpos
        go_wp2_with fail
        go_loopw [8, 9] (fun pv i wr => ∃ p k : Nat, p ≤ k ∧ k ≤ s.size ∧ pv = .int .i64 (p : Int) ∧ i = .int .i64 (k : Int) ∧ Hid (Lib.IsBuilderF 54 5 w.heap.size w.heap.size (Lib.byteCells (upTo s p)) wr) ∧ Hid (∀ j, p ≤ j → j < k → lowQ (atB s j) = false) ∧ Hid (Below w.heap.size w wr)) (fun _ i _ => s.size - (intOf i).toNat)
        case atStart => exact ⟨0, 0, Nat.le_refl _, Nat.zero_le _, rfl, rfl, H1, fun j _ h => by omega, B1⟩
        case round =>
          obtain ⟨p, k, hpk, hk2, rfl, rfl, HB, HN, HW⟩ := hrel
          have hul : (Lib.byteCells (upTo s p)).length ≤ 1000000 := by
            rw [Lib.byteCells_length]
            unfold upTo
            rw [List.length_map]
            have := List.length_take_le p s.data.toList
            omega
          by_cases hlt2 : k < s.size
          · have hg : ∀ h, (s[k]'h).toNat = (atB s k).toNat := fun h => by rw [atB_get s k h]
            have h128 := HA.out k hlt2
            cases hq : lowQ (atB s k)
            · have HN2 : Hid (∀ j, p ≤ j → j < k + 1 → lowQ (atB s j) = false) := by
                intro j h1 h2
                by_cases e : j = k
                · subst e
                  exact hq
                · exact HN.out j h1 (by omega)
              unfold lowQ at hq
              have hq2 := of_decide_eq_false hq
              clear hq HN
              generalize (atB s k).toNat = x at *
              by_cases ha : 97 ≤ x
              · have hb : ¬ x ≤ 122 := fun h => hq2 ⟨ha, h⟩
                clear hq2
                go_wp2_with fail
                go_roundw
                case rel => exact ⟨p, k + 1, by omega, by omega, rfl, by go_num, HB, HN2, HW⟩
                case measure => simp [intOf]; omega
              · clear hq2
                go_wp2_with fail
                go_roundw
                case rel => exact ⟨p, k + 1, by omega, by omega, rfl, by go_num, HB, HN2, HW⟩
                case measure => simp [intOf]; omega
            · have Hrun : Hid (upTo s (k + 1) = upTo s p ++ (s.extract p k).data.toList ++ [upD (atB s k)]) := by
                show _ = _
                rw [upTo_succ s k hlt2, upTo_run s p k hpk (by omega) HN.out]
              have hnum := up_num hq
              unfold lowQ at hq
              obtain ⟨ha, hb⟩ := of_decide_eq_true hq
              clear hq HN
              have Hc : Hid (∀ z : Int, z = ((atB s k).toNat : Int) - 32 → Lib.byteCells (upTo s p ++ (s.extract p k).data.toList ++ [upD (atB s k)]) = Lib.byteCells (upTo s p ++ (s.extract p k).data.toList) ++ [.int .u8 z]) := by
                intro z hz
                rw [byteCells_more, hz, hnum]
              clear hnum
              have HN2 : Hid (∀ j, k + 1 ≤ j → j < k + 1 → lowQ (atB s j) = false) := fun j h1 h2 => by omega
              generalize hx : (atB s k).toNat = x at *
              clear hx
              by_cases hpl : p < k
              · have hex : (s.extract p k).size ≤ 1000000 := by rw [ByteArray.size_extract]; omega
                go_wp2_with fail
                refine (writeString w.heap.size w.heap.size (Lib.byteCells (upTo s p)) (s.extract p k) _ HB.out ?_ HW.out.size).mono ?_
                · omega
                rintro e w2 ⟨rfl, h2, hb2, _⟩
                have e2 : Lib.byteCells (upTo s p) ++ Lib.strCells (s.extract p k) = Lib.byteCells (upTo s p ++ (s.extract p k).data.toList) := by simp [Lib.byteCells, Lib.strCells]
                rw [e2] at h2
                have H2 : Hid (Lib.IsBuilderF 54 5 w.heap.size w.heap.size (Lib.byteCells (upTo s p ++ (s.extract p k).data.toList)) w2) := .inr h2
                have HW2 : Hid (Below w.heap.size w w2) := HW.out.trans hb2
                clear h2 hb2 HW HB e2
                go_wp2_with fail
                refine (writeByte w.heap.size w.heap.size _ ((x : Int) - 32) _ H2.out ?_ HW2.out.size).mono ?_
                · rw [Lib.byteCells_length] at hul ⊢
                  rw [List.length_append, len_list]
                  omega
                rintro e w3 ⟨rfl, h3, hb3⟩
                have H3 : Hid (Lib.IsBuilderF 54 5 w.heap.size w.heap.size (Lib.byteCells (upTo s (k + 1))) w3) := by
                  rw [Hrun.out, Hc.out _ rfl]
                  exact .inr h3
                have HW3 : Hid (Below w.heap.size w w3) := HW2.out.trans hb3
                clear h3 hb3 HW2 H2
                go_wp2_with fail
                go_roundw
                case rel => exact ⟨k + 1, k + 1, Nat.le_refl _, by omega, by go_num, by go_num, H3, HN2, HW3⟩
                case measure => simp [intOf]; omega
              · have hpe : p = k := by omega
                subst hpe
                have H2 : Hid (Lib.IsBuilderF 54 5 w.heap.size w.heap.size (Lib.byteCells (upTo s p ++ (s.extract p p).data.toList)) wr) := by
                  have e0 : (s.extract p p).data.toList = [] := by rw [extract_list]; simp
                  rw [e0, List.append_nil]
                  exact HB.out
                have hle : (Lib.byteCells (upTo s p ++ (s.extract p p).data.toList)).length + 1 ≤ 140737488355328 := by
                  have e0 : (s.extract p p).data.toList = [] := by rw [extract_list]; simp
                  rw [e0, List.append_nil]
                  omega
                clear HB
                have g2 : decide ((p : Int) < (p : Int)) = false := decide_eq_false (by omega)
                go_wp2_with fail
                refine (writeByte w.heap.size w.heap.size _ ((x : Int) - 32) _ H2.out hle HW.out.size).mono ?_
                rintro e w3 ⟨rfl, h3, hb3⟩
                have H3 : Hid (Lib.IsBuilderF 54 5 w.heap.size w.heap.size (Lib.byteCells (upTo s (p + 1))) w3) := by
                  rw [Hrun.out, Hc.out _ rfl]
                  exact .inr h3
                have HW3 : Hid (Below w.heap.size w w3) := HW.out.trans hb3
                clear h3 hb3 HW H2
                go_wp2_with fail
                go_roundw
                case rel => exact ⟨p + 1, p + 1, Nat.le_refl _, by omega, by go_num, by go_num, H3, HN2, HW3⟩
                case measure => simp [intOf]; omega
          · have hke : k = s.size := by omega
            subst hke
            have Hall : Hid (s.data.toList.map upD = upTo s p ++ (s.extract p s.size).data.toList) := by
              show _ = _
              rw [← upTo_all, upTo_run s p s.size hpk (Nat.le_refl _) HN.out]
            clear HN
            have g2 : decide ((s.size : Int) < (s.size : Int)) = false := decide_eq_false (by omega)
            by_cases hpl : p < s.size
            · have hex : (s.extract p s.size).size ≤ 1000000 := by rw [ByteArray.size_extract]; omega
              go_wp2_with fail
              refine (writeString w.heap.size w.heap.size (Lib.byteCells (upTo s p)) (s.extract p s.size) _ HB.out ?_ HW.out.size).mono ?_
              · omega
              rintro e w2 ⟨rfl, h2, hb2, _⟩
              have e2 : Lib.byteCells (upTo s p) ++ Lib.strCells (s.extract p s.size) = Lib.byteCells (upTo s p ++ (s.extract p s.size).data.toList) := by simp [Lib.byteCells, Lib.strCells]
              rw [e2, ← Hall.out] at h2
              have H2 : Hid (Lib.IsBuilderF 54 5 w.heap.size w.heap.size (Lib.byteCells (s.data.toList.map upD)) w2) := .inr h2
              have HW2 : Hid (Below w.heap.size w w2) := HW.out.trans hb2
              clear h2 hb2 HW HB e2
              go_wp2_with fail
              refine (Tryz.Builder_String_any_k w.heap.size w.heap.size (s.data.toList.map upD) _ H2.out HW2.out.size).mono ?_
              rintro e w3 ⟨rfl, _, hb3, _⟩
              go_wp2_with fail
              go_ret
              exact ⟨rfl, HW2.out.trans hb3⟩
            · have hpe : p = s.size := by omega
              subst hpe
              have H2 : Hid (Lib.IsBuilderF 54 5 w.heap.size w.heap.size (Lib.byteCells (s.data.toList.map upD)) wr) := by
                rw [← upTo_all]
                exact HB.out
              clear HB Hall
              go_wp2_with fail
              refine (Tryz.Builder_String_any_k w.heap.size w.heap.size (s.data.toList.map upD) _ H2.out HW.out.size).mono ?_
              rintro e w3 ⟨rfl, _, hb3, _⟩
              go_wp2_with fail
              go_ret
              exact ⟨rfl, HW.out.trans hb3⟩
end Go.Proofs.YtdpjmngodbgacaaGreatDoor.Sg
