/- Contract of the program's firstOfNames: a map from each name, made strict, to the place at which it is first. -/
import Derived.Test.YtdpjmngodbgacaaGreatDoorM10
import Derived.Test.YtdpjmngodbgacaaGreatDoorAoValsQ
import Derived.Test.YtdpjmngodbgacaaGreatDoorStImNmQ
namespace Go.Proofs.YtdpjmngodbgacaaGreatDoor.Sg
open Go.ChangeShapes Go.WideShapes Go.ChangeAt Go.RowKit Go.Maps

theorem stNameS_max (s : ByteArray) (h : s.size ≤ 1048576) : (stNameS s).size ≤ maxLen := by
  have := st_name_size s
  unfold maxLen
  omega
theorem wf_place (k : Nat) (h : k ≤ 1048576) : (Lit.int .i64 ((k : Nat) : Int)).wf = true := WalkArith.wf_i64 ⟨by omega, by omega⟩
theorem run_makeMap_hint (z : Int) (w : World) : (Instr.makeMap 37 (some (.int .i64 z))).run Tryz.prog w = .ok (.map (some w.heap.size)) (w.alloc (.map #[] 0)) := by
  simp [Instr.makeMap, run_underlying Tryz.underlying37, asInt, asIntOf, Result.andThen]
theorem OwnF.look {w : World} {b n : Nat} {D : DataW Unit} (h : OwnF w b n D) {g : List UInt8 → Option Nat} (hf : Firsts D g) (s : ByteArray) (hs : s.size ≤ maxLen) : ∃ v, (Instr.lookup 37 (.map (some b)) (.string s) true).run Tryz.prog w = .ok (.tuple #[v, .bool (g s.data.toList).isSome]) w := by
  obtain ⟨v, ps, hrun, _⟩ := World.ownsMap.look_ok h keyS Tryz.underlying37 (z := .int .i64 0) (Tryz.zeroValue3 w) (plainElem_int Tryz.underlying3 (wf_place 0 (by omega))) (WideMaps.keyOf_string_mk Tryz.underlying9 hs)
  rw [hf.has] at hrun
  exact ⟨v, hrun⟩

set_option maxRecDepth 20000 in
set_option maxHeartbeats 8000000 in
theorem implFirst (l : List AttrB) (a : Option Addr) (n cap : Nat) (w : World) (ha : AttrsAt w a l) (hl : l.length = n) (hn : n ≤ 1048576) (hsz : ∀ p ∈ l, p.1.size ≤ 1048576 ∧ p.2.size ≤ 1048576) (hT : NmT w) :
    Calls Tryz.prog 16 #[.slice a n cap] w fun e w' => e = .returned (.map (some w.heap.size)) ∧ (∃ m D, m ≤ n ∧ OwnF w' w.heap.size m D ∧ Firsts D (firstN (namesA l))) ∧ Below w.heap.size w w' := by
  have HA : Hid (AttrsAt w a l) := ha
  have Hl : Hid (l.length = n) := hl
  have HW : Hid (∀ p ∈ l, p.1.size ≤ 1048576 ∧ p.2.size ≤ 1048576) := hsz
  have HT : Hid (NmT w) := hT
  have hmm := run_makeMap_hint
  clear ha hl hsz hT
  go_enter Tryz.func16, Tryz.ntmps16
  go_wp2_with fail
  go_loopw [4, 5, 6, 7, 8, 14] (fun _ _ _ _ _ iv wr => ∃ (k m : Nat) (D : DataW Unit), k ≤ n ∧ m ≤ k ∧ iv = .int .i64 (k : Int) ∧ Hid (OwnF wr w.heap.size m D) ∧ Hid (Firsts D (firstN (namesA (l.take k)))) ∧ Hid (Below w.heap.size w wr)) (fun _ _ _ _ _ iv _ => n - (intOf iv).toNat)
  case atStart => exact ⟨0, 0, .map [], Nat.zero_le _, Nat.le_refl _, rfl, World.ownsMap_made _ _ _ _, Firsts.nil.congr fun x => by simp [namesA, firstN], (Below.refl _ _).alloc (Nat.le_refl _) _⟩
  case round =>
    obtain ⟨k, m, D, hk, hm, rfl, HM, HD, HB⟩ := hrel
    have k0 : (0 : Int) ≤ (k : Int) := by omega
    by_cases hlt : k < n
    · have hkl : k < l.length := by rw [Hl.out]; exact hlt
      have k1 : (k : Int) < (n : Int) := by omega
      obtain ⟨ab, rfl, c0, c1⟩ := attrs_one (HA.out.below HB.out) k hkl
      have hsz := HW.out _ (List.getElem_mem hkl)
      have Hnm : Hid (namesA (l.take (k + 1)) = namesA (l.take k) ++ [(stNameS (l[k]'hkl).1).data.toList]) := namesA_take l k hkl
      have Hlen : Hid ((namesA (l.take k)).length = k) := by show _ = _; rw [namesA_len, List.length_take]; omega
      generalize l[k]'hkl = p at *
      obtain ⟨p1, p2⟩ := p
      simp only at c0 c1 hsz Hnm
      have hnsz := stNameS_max p1 hsz.1
      have hmb := World.ownsMap.lt HM.out
      have hbx : Below wr.heap.size wr (wr.alloc (.cells #[.string p1, .string p2] 34)) := (Below.refl _ wr).alloc (Nat.le_refl _) _
      have HN := implNameOf p1 (wr.alloc (.cells #[.string p1, .string p2] 34)) hsz.1 ((HT.out.below HB.out).below hbx)
      go_wp2_with fail
      refine HN.mono ?_
      rintro e w1 ⟨rfl, b1⟩
      have hb1 : Below wr.heap.size wr w1 := hbx.trans (b1.mono hbx.size)
      have HM1 : OwnF w1 w.heap.size m D := OwnF.below HM.out hmb hb1
      have HB1 : Below w.heap.size w w1 := HB.out.trans (hb1.mono HB.out.size)
      obtain ⟨lv, hlk⟩ := HM1.look HD.out (stNameS p1) hnsz
      generalize stNameS p1 = nm at *
      clear HM hbx b1 HN hb1 HB
      have Hsn : ∀ x, firstN (namesA (l.take (k + 1))) x = match firstN (namesA (l.take k)) x with
          | some i => some i
          | none => if nm.data.toList = x then some k else none := fun x => by
        have h := firstN_snoc (namesA (l.take k)) nm.data.toList x
        rw [Hlen.out] at h
        rw [Hnm.out]
        exact h
      cases hf : firstN (namesA (l.take k)) nm.data.toList with
      | some i =>
        rw [hf] at hlk
        simp only [Option.isSome_some] at hlk
        have HD2 : Hid (Firsts D (firstN (namesA (l.take (k + 1))))) := HD.out.congr fun x => by
          rw [Hsn x]
          cases hx : firstN (namesA (l.take k)) x with
          | some j => rfl
          | none =>
            have : nm.data.toList ≠ x := fun e => by subst e; rw [hf] at hx; cases hx
            simp [this]
        have HM2 : Hid (OwnF w1 w.heap.size m D) := HM1
        have HB2 : Hid (Below w.heap.size w w1) := HB1
        clear Hsn Hnm HD HM1 HB1 hf
        go_wp2_with fail
        go_roundw
        case rel => exact ⟨k + 1, m, _, by omega, by omega, by go_num, HM2, HD2, HB2⟩
        case measure => simp [intOf]; omega
      | none =>
        rw [hf] at hlk
        simp only [Option.isSome_none] at hlk
        have HD2 : Hid (Firsts (D.put (.string nm.data.toList) (.lit (.int .i64 ((k : Nat) : Int)))) (firstN (namesA (l.take (k + 1))))) := (HD.out.put nm.data.toList k).congr fun x => by
          rw [Hsn x]
          by_cases e : x = nm.data.toList
          · subst e
            rw [hf]
            first | done | simp
          · rw [if_neg e, if_neg (fun e2 => e e2.symm)]
            cases firstN (namesA (l.take k)) x <;> rfl
        have hwf := wf_place k (by omega)
        clear Hsn Hnm HD hf
        go_wp2_with (first
          | (at_mapUpdate; refine wpList_mapUpdate_own _ rfl _ _ _ 37 rfl 9 3 keyS Tryz.underlying37 _ w.heap.size m D rfl HM1 (by unfold maxLen; omega) _ _ _ rfl rfl (WideMaps.keyOf_string_mk Tryz.underlying9 hnsz) _ [] (plainElem_int Tryz.underlying3 hwf) ?_; intro w2 hown2 hg2)
          | go_in)
        have HB2 : Hid (Below w.heap.size w w2) := HB1.grown hg2 HB1.size (fun j hj => by cases hj; exact Nat.le_refl _)
        have HM2 : Hid (OwnF w2 w.heap.size (m + 1) (D.put (.string nm.data.toList) (.lit (.int .i64 ((k : Nat) : Int))))) := hown2
        clear HB1 HM1 hg2 hown2
        go_roundw
        case rel => exact ⟨k + 1, m + 1, _, by omega, by omega, by go_num, HM2, HD2, HB2⟩
        case measure => simp [intOf]; omega
    · have hkn : k = n := by omega
      subst hkn
      have g1 : decide ((k : Int) < (k : Int)) = false := by simp
      have HD1 : Hid (Firsts D (firstN (namesA l))) := by
        have := HD.out
        rw [List.take_of_length_le (by rw [Hl.out]; exact Nat.le_refl _)] at this
        exact this
      clear HD
      go_wp2_with fail
      go_ret
      exact ⟨rfl, ⟨m, D, hm, HM.out, HD1.out⟩, HB.out⟩

end Go.Proofs.YtdpjmngodbgacaaGreatDoor.Sg
