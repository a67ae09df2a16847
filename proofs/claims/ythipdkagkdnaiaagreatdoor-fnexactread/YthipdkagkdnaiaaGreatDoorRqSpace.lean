/- Contracts of the program's spaceTold and besideSpace. -/
import Derived.Test.YthipdkagkdnaiaaGreatDoorMRD10
import Derived.Test.YthipdkagkdnaiaaGreatDoorMRD09
import Derived.Test.YthipdkagkdnaiaaGreatDoorMRD11
import Derived.Test.YthipdkagkdnaiaaGreatDoorRdAttrs
import Derived.Deep.QuietTactic
namespace Go.Proofs.YthipdkagkdnaiaaGreatDoor.Sg
open Go.ChangeShapes Go.WideShapes Go.ChangeAt Go.RowKit

/-- The first space but about whose name a text is, from place k on. -/
def tailX (about : Int) (z : ByteArray) : Nat → Nat → Option Int
  | 0, _ => none
  | f + 1, k => if (k : Int) ≠ about ∧ (z.toList == (spaceS (k : Int)).toList) = true then some (k : Int) else tailX about z f (k + 1)
theorem pickX (about : Int) (b0 b1 b2 : Bool) (d01 : ¬ (b0 = true ∧ b1 = true)) (d02 : ¬ (b0 = true ∧ b2 = true)) (d12 : ¬ (b1 = true ∧ b2 = true)) :
    (if (0 : Int) ≠ about ∧ b0 = true then some (0 : Int) else if (1 : Int) ≠ about ∧ b1 = true then some (1 : Int) else if (2 : Int) ≠ about ∧ b2 = true then some (2 : Int) else none) =
      if (if b0 = true then (0 : Int) else if b1 = true then 1 else if b2 = true then 2 else -1) = about ∨ (if b0 = true then (0 : Int) else if b1 = true then 1 else if b2 = true then 2 else -1) < 0 then none else some (if b0 = true then (0 : Int) else if b1 = true then 1 else if b2 = true then 2 else -1) := by
  cases b0 <;> cases b1 <;> cases b2 <;> simp at d01 d02 d12 ⊢ <;> first
    | (by_cases h : (2 : Int) = about <;> simp [h]; done)
    | (by_cases h : (1 : Int) = about <;> simp [h]; done)
    | (by_cases h : (0 : Int) = about <;> simp [h]; done)
theorem space_apart (i j : Int) (h : (spaceS i).data.toList ≠ (spaceS j).data.toList) (z : ByteArray) : ¬ (((spaceS i).toList == z.toList) = true ∧ ((spaceS j).toList == z.toList) = true) := by
  rintro ⟨h1, h2⟩
  rw [beq_iff_eq] at h1 h2
  rw [ByteArray.toList_eq] at h1 h2
  exact h (h1.trans h2.symm)
theorem tailX_eq (about : Int) (z : ByteArray) : tailX about z 3 0 = if spaceI z = about ∨ spaceI z < 0 then none else some (spaceI z) := by
  have c : ∀ k : Int, (z.toList == (spaceS k).toList) = ((spaceS k).toList == z.toList) := fun k => by rw [Bool.eq_iff_iff, beq_iff_eq, beq_iff_eq, eq_comm]
  have e0 : ((0 : Nat) : Int) = 0 := rfl
  have e1 : ((0 + 1 : Nat) : Int) = 1 := rfl
  have e2 : ((0 + 1 + 1 : Nat) : Int) = 2 := rfl
  unfold spaceI
  simp only [tailX, spaceG, c, e0, e1, e2]
  exact pickX about _ _ _ (space_apart 0 1 (by decide) z) (space_apart 0 2 (by decide) z) (space_apart 1 2 (by decide) z)

set_option maxRecDepth 20000 in
set_option maxHeartbeats 4000000 in
theorem implSpaceTold (l : List AttrB) (about : Int) (x : Option Addr) (cap : Nat) (a : Addr) (w : World) (ha : AttrsAt w x l) (hn : l.length ≤ 16777216) (hE : ErrA a w) :
    Calls Tryz.prog 44 #[.slice x l.length cap, .int .i64 about] w fun e w' => ((∃ sp, toldX about l = some sp ∧ e = .returned (.int .i64 sp)) ∨ (toldX about l = none ∧ e = PanE a)) ∧ Below w.heap.size w w' := by
  obtain ⟨y, z, Hyz⟩ : ∃ y z, Hid (findA l xmlnsB = (y, z)) := ⟨_, _, rfl⟩
  have HA : Calls Tryz.prog 77 #[.slice x l.length cap, .string ⟨#[120, 109, 108, 110, 115]⟩] w fun e w' => e = .returned (.agg #[.string y, .string z]) ∧ Below w.heap.size w w' := implAttrNamed l xmlnsB x l.length cap w ha rfl (by omega) y z Hyz
  have HE : Hid (ErrA a w) := hE
  have HR : Hid (toldX about l = if hasA l xmlnsB = true then tailX about z 3 0 else some about) := by
    show _ = _
    rw [tailX_eq]
    unfold toldX
    rw [Hyz.out]
  have hy : hasA l xmlnsB = true → y.toList ≠ [] := fun h => by
    have h1 := findA_some l xmlnsB h
    rw [Hyz.out] at h1
    have h2 : y.toList = xmlnsB.toList := h1
    rw [h2, ByteArray.toList_eq]
    decide
  have hz0 : hasA l xmlnsB = false → y = ⟨#[]⟩ ∧ z = ⟨#[]⟩ := fun h => by
    have h1 := Hyz.out
    rw [findA_none l xmlnsB h] at h1
    injection h1 with h1 h2
    exact ⟨h1.symm, h2.symm⟩
  generalize toldX about l = R at *
  generalize l.length = n at *
  cases hh : hasA l xmlnsB
  · obtain ⟨rfl, rfl⟩ := hz0 hh
    have HR1 : Hid (R = some about) := by show _ = _; rw [HR.out, hh]; rfl
    have he := eq_zero_yes
    clear hz0 hy HR hh Hyz ha hE
    go_enter Tryz.func44, Tryz.ntmps44
    go_wp2_with fail
    refine HA.mono ?_
    rintro e w1 ⟨rfl, b1⟩
    have HB : Hid (Below w.heap.size w (w1.alloc (.cells #[.string ⟨#[]⟩, .string ⟨#[]⟩] 73))) := b1.alloc b1.size _
    clear b1 HA
    go_wp2_with fail
    go_ret
    exact ⟨.inl ⟨_, HR1.out, rfl⟩, HB.out⟩
  · have hyy := hy hh
    have HR1 : Hid (tailX about z 3 0 = R) := by show _ = _; rw [HR.out, hh]; rfl
    have he := eq_zero_no y z hyy
    clear hz0 hy HR hh Hyz ha hyy hE
    go_enter Tryz.func44, Tryz.ntmps44
    go_wp2_with fail
    refine HA.mono ?_
    rintro e w1 ⟨rfl, b1⟩
    have HB : Hid (Below w.heap.size w (w1.alloc (.cells #[.string y, .string z] 73))) := b1.alloc b1.size _
    have HC : Hid ((w1.alloc (.cells #[.string y, .string z] 73)).cell? ⟨w1.heap.size, 1, none⟩ = some (.string z)) := by show _ = _; simp
    clear b1 HA
    go_wp2_with fail
    generalize w1.alloc (.cells #[.string y, .string z] 73) = w2 at *
    generalize w1.heap.size = B at *
    go_loopw [13] (fun v wr => ∃ k : Nat, k ≤ 3 ∧ v = .int .i64 (k : Int) ∧ Hid (tailX about z (3 - k) k = R) ∧ Hid (Below w.heap.size w wr) ∧ Hid (wr.cell? ⟨B, 1, none⟩ = some (.string z))) (fun v _ => 3 - (intOf v).toNat)
    case atStart => exact ⟨0, by omega, rfl, HR1, HB, HC⟩
    case round =>
      clear HR1 HB HC he
      obtain ⟨k, hk, rfl, HK, HB, HC⟩ := hrel
      have c1 := HC.out
      by_cases hlt : k < 3
      · have g0 : (k : Int) < 3 := by omega
        have g0' : decide ((k : Int) < 3) = true := decide_eq_true g0
        have HK0 : Hid ((if (k : Int) ≠ about ∧ (z.toList == (spaceS (k : Int)).toList) = true then some (k : Int) else tailX about z (3 - (k + 1)) (k + 1)) = R) := by
          show _ = _
          rw [← HK.out, show 3 - k = (3 - (k + 1)) + 1 by omega, tailX]
        have HS := fun W => implSpaceName (k : Int) W
        generalize spaceS (k : Int) = S at *
        by_cases hka : (k : Int) = about
        · have g1 : ((k : Int) != about) = false := by rw [hka]; simp
          have HKn : Hid (tailX about z (3 - (k + 1)) (k + 1) = R) := by
            show _ = _
            rw [← HK0.out, if_neg (fun h => h.1 hka)]
          clear HK HK0 hka HS
          go_upto_region 7 with fail
          go_quiet (fail)
          have bn := drew_kd (Below.refl wr.heap.size wr) nq
          have HB1 : Hid (Below w.heap.size w (wr.drewN nq)) := drew_kd HB.out nq
          have HC1 : Hid ((wr.drewN nq).cell? ⟨B, 1, none⟩ = some (.string z)) := keep_cell bn c1
          clear bn c1 HB HC
          generalize wr.drewN nq = w3 at *
          go_wp2_with fail
          go_roundw
          case rel => exact ⟨k + 1, by omega, by go_num, HKn, HB1, HC1⟩
          case measure => simp [intOf]; omega
        · have g1 : ((k : Int) != about) = true := by simp [hka]
          cases hq : z.toList == S.toList
          · have HKn : Hid (tailX about z (3 - (k + 1)) (k + 1) = R) := by
              show _ = _
              rw [← HK0.out, if_neg (fun h => by rw [hq] at h; exact absurd h.2 (by decide))]
            clear HK HK0 hka
            go_upto_region 7 with fail
            go_quiet ((go_at_call 78; exact Calls.quiet_of_same (HS _)))
            have bn := drew_kd (Below.refl wr.heap.size wr) nq
            have HB1 : Hid (Below w.heap.size w (wr.drewN nq)) := drew_kd HB.out nq
            have HC1 : Hid ((wr.drewN nq).cell? ⟨B, 1, none⟩ = some (.string z)) := keep_cell bn c1
            clear bn c1 HB HC
            generalize wr.drewN nq = w3 at *
            go_wp2_with fail
            go_roundw
            case rel => exact ⟨k + 1, by omega, by go_num, HKn, HB1, HC1⟩
            case measure => simp [intOf]; omega
          · have HKn : Hid (R = some (k : Int)) := by
              show _ = _
              rw [← HK0.out, if_pos ⟨hka, hq⟩]
            clear HK HK0 hka
            go_upto_region 7 with fail
            go_quiet ((go_at_call 78; exact Calls.quiet_of_same (HS _)))
            have HB1 : Hid (Below w.heap.size w (wr.drewN nq)) := drew_kd HB.out nq
            clear c1 HB HC
            generalize wr.drewN nq = w3 at *
            go_wp2_with fail
            go_ret
            exact ⟨.inl ⟨_, HKn.out, rfl⟩, HB1.out⟩
      · have hk3 : k = 3 := by omega
        subst hk3
        have HKn : Hid (R = none) := HK.out.symm
        have hv := HE.out.below HB.out
        unfold ErrA at hv
        clear HK c1 HC
        go_wp2_with fail
        exact ⟨rfl, .inr ⟨HKn.out, rfl⟩, HB.out⟩

theorem besideA_step (l : List AttrB) (k : Nat) (h : k < l.length) : besideA (l.take (k + 1)) = besideA (l.take k) ++ (if isX (l.getD k (ByteArray.empty, ByteArray.empty)) = true then [] else [l.getD k (ByteArray.empty, ByteArray.empty)]) := by
  have e : l.getD k (ByteArray.empty, ByteArray.empty) = l[k]'h := by simp [List.getD, h]
  rw [List.take_succ_eq_append_getElem h, beside_app, e]
  congr 1
  unfold besideA
  rw [List.filter_cons, List.filter_nil]
  generalize isX (l[k]'h) = b
  cases b <;> rfl

set_option maxRecDepth 20000 in
set_option maxHeartbeats 4000000 in
theorem implBeside (l : List AttrB) (x : Option Addr) (cap : Nat) (w : World) (ha : AttrsAt w x l) (hn : l.length ≤ 16777216) :
    Calls Tryz.prog 45 #[.slice x l.length cap] w fun e w' => ∃ v, e = .returned v ∧ w'.ownsRow w.heap.size 73 2 v (besideA l).length (attrCells (besideA l)) ∧ Below w.heap.size w w' := by
  obtain ⟨i0, hi0, hz0, hz1, hz2⟩ := info_parts info_pairR
  have Hi : Hid (Tryz.prog.info? 73 = some i0) := hi0
  have Hz0 : Hid (i0.zero = some (.agg #[.string ⟨#[]⟩, .string ⟨#[]⟩])) := hz0
  have Hz1 : Hid (i0.size = 2) := hz1
  have Hz2 : Hid (i0.bytes = 32) := hz2
  have HA : Hid (AttrsAt w x l) := ha
  obtain ⟨n, Hnl⟩ : ∃ n, Hid (l.length = n) := ⟨_, rfl⟩
  rw [Hnl.out] at hn ⊢
  clear hi0 hz0 hz1 hz2 ha
  have exm : xmlnsB.toList = [120, 109, 108, 110, 115] := ByteArray.toList_mk _
  go_enter Tryz.func45, Tryz.ntmps45
  go_wp2_with fail
  go_loopw [8, 3] (fun iv kv wr => ∃ (k : Nat) (out : List AttrB), k ≤ n ∧ iv = .int .i64 (k : Int) ∧ out.length ≤ k ∧ Hid (out = besideA (l.take k)) ∧ Hid (Below w.heap.size w wr) ∧ Hid (wr.ownsRow w.heap.size 73 2 kv out.length (attrCells out))) (fun iv _ _ => n - (intOf iv).toNat)
  case atStart => exact ⟨0, [], Nat.zero_le _, rfl, Nat.zero_le _, rfl, Below.refl _ _, World.ownsRow_nil _ _ _ _⟩
  case round =>
    obtain ⟨k, out, hk, rfl, hol, Hf, HB, HO⟩ := hrel
    by_cases hlt : k < n
    · have hkl : k < l.length := by rw [Hnl.out]; exact hlt
      rcases HA.out with h | ⟨g, rfl, hg, hc⟩
      · rw [h] at hkl
        exact absurd hkl (Nat.not_lt_zero _)
      have hd := besideA_step l k hkl
      obtain ⟨c1, c2⟩ := hc k hkl
      have c1' := (HB.out.cell (p := ⟨g, k * 2, none⟩) hg).trans c1
      have c2' := (HB.out.cell (p := ⟨g, k * 2 + 1, none⟩) hg).trans c2
      clear c1 c2 hkl hc
      generalize l.getD k (ByteArray.empty, ByteArray.empty) = p at *
      obtain ⟨p1, p2⟩ := p
      have k0 : (0 : Int) ≤ (k : Int) := by omega
      have k1 : (k : Int) < (n : Int) := by omega
      have hbs := HB.out.size
      have hbA : Hid (Below w.heap.size w (wr.alloc (.cells #[.string p1, .string p2] 73))) := HB.out.alloc hbs _
      have hoA : Hid ((wr.alloc (.cells #[.string p1, .string p2] 73)).ownsRow w.heap.size 73 2 _ out.length (attrCells out)) := HO.out.alloc _
      cases hq : p1.toList == xmlnsB.toList
      · have Hn : Hid (out ++ [(p1, p2)] = besideA (l.take (k + 1))) := by
          show _ = _
          rw [hd, Hf.out]
          unfold isX
          rw [hq]
          rfl
        rw [exm] at hq
        have hq' : (p1.toList != [120, 109, 108, 110, 115]) = true := by rw [bne, hq]; rfl
        clear hd Hf
        go_wp2_with (at_builtin; refine wpList_append_own _ rfl (.tmp 15) (.tmp 17) 22 rfl w.heap.size 73 i0 (.agg #[.string ⟨#[]⟩, .string ⟨#[]⟩]) 2 32 Tryz.underlying22 Hi.out Hz0.out Hz1.out Hz2.out rfl (by decide) _ out.length (attrCells out) rfl (hoA.out.alloc _) ⟨_, 0, none⟩ 1 1 [.string p1, .string p2] rfl rfl (two_cells _ _ _ _ _ (by simp)) (two_one _ _) ?c3 ?c4 ?c5 ?_)
        case c3 => unfold maxLen; omega
        case c4 => omega
        case c5 => have := hbA.out.size; first | omega | (simp; omega)
        intro v' w5 hown' hgrow _
        have HB5 : Hid (Below w.heap.size w w5) := grown_below (hoA.out.alloc _) (hbA.out.alloc hbA.out.size _) (Nat.le_refl _) hgrow (by have := hbA.out.size; first | omega | (simp; omega))
        have HO5 : Hid (w5.ownsRow w.heap.size 73 2 v' (out ++ [(p1, p2)]).length (attrCells (out ++ [(p1, p2)]))) := by
          show World.ownsRow _ _ _ _ _ _ _
          rw [List.length_append, attrCells_more]
          exact hown'
        clear hown' hgrow hoA hbA
        go_wp2_with fail
        go_roundw
        case rel => exact ⟨k + 1, out ++ [(p1, p2)], by omega, by go_num, by rw [List.length_append]; show out.length + 1 ≤ k + 1; omega, Hn, HB5, HO5⟩
        case measure => simp [intOf]; omega
      · have Hn : Hid (out = besideA (l.take (k + 1))) := by
          show _ = _
          rw [hd, ← Hf.out]
          unfold isX
          rw [hq]
          simp
        rw [exm] at hq
        have hq' : (p1.toList != [120, 109, 108, 110, 115]) = false := by rw [bne, hq]; rfl
        clear hd Hf
        go_wp2_with fail
        go_roundw
        case rel => exact ⟨k + 1, out, by omega, by go_num, by omega, Hn, hbA, hoA⟩
        case measure => simp [intOf]; omega
    · have Hn : Hid (out = besideA l) := by
        show _ = _
        rw [Hf.out, List.take_of_length_le (by have := Hnl.out; omega)]
      have g0 : decide ((k : Int) < (n : Int)) = false := decide_eq_false (by omega)
      clear Hf
      have ho := HO.out
      rw [Hn.out] at ho
      have HOn : Hid (World.ownsRow _ _ _ _ _ _ _) := ho
      clear ho
      go_wp2_with fail
      go_ret
      exact ⟨_, rfl, HOn.out, HB.out⟩

end Go.Proofs.YthipdkagkdnaiaaGreatDoor.Sg
