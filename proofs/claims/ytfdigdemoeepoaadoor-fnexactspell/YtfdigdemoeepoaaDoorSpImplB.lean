/- Contract of the program's speltStart. -/
import Derived.Test.YtfdigdemoeepoaaDoorSpImplA
import Derived.Test.YtfdigdemoeepoaaDoorGBuild
import Derived.Test.YtfdigdemoeepoaaDoorKdOwn
import Derived.Deep.RegionWith
namespace Go.Proofs.YtfdigdemoeepoaaDoor.Sg
open Go.ChangeShapes Go.WideShapes Go.ChangeAt Go.RowKit

theorem cells_more (acc : List UInt8) (s : ByteArray) : Lib.byteCells acc ++ Lib.strCells s = Lib.byteCells (acc ++ s.data.toList) := by simp [Lib.byteCells, Lib.strCells]
theorem acc_len2 {S A acc : List UInt8} (h : S = acc ++ A) : acc.length ≤ S.length := by
  rw [h, List.length_append]
  omega

set_option maxRecDepth 20000 in
set_option maxHeartbeats 8000000 in
theorem implSpeltStart (t : TokB) (sv : Value) (w : World) (hS : SlAttrs w sv t.2.2.1) (hw : tokW t ≤ 1048576) (hm : MaxLen w) :
    Calls Tryd.prog 26 #[.agg #[.int .i64 t.1, .string t.2.1, sv, .string t.2.2.2.1, .bool t.2.2.2.2], .func (.func 27) #[] #[]] w fun e w' => e = .returned (.string (strB (taggedL t))) ∧ Below w.heap.size w w' := by
  have hTl := taggedL_len t hw
  obtain ⟨kd, nm, at', tx, sf⟩ := t
  obtain ⟨a, cap, rfl, hA⟩ := hS
  simp only at hA ⊢
  have HA : Hid (AttrsAt w a at') := hA
  have HM : Hid (MaxLen w) := hm
  have hnm : nm.size ≤ 1048576 := by unfold tokW at hw; simp only at hw; omega
  have hn : at'.length ≤ 1048576 := by unfold tokW attrsW at hw; simp only at hw; omega
  have Hv : Hid (∀ p ∈ at', p.1.size + p.2.size ≤ 1048576) := fun p hp => by
    have := attrW_le hp
    unfold tokW at hw
    unfold attrW at this
    simp only at hw
    omega
  have Ht : Hid (taggedL (kd, nm, at', tx, sf) = (60 :: nm.data.toList) ++ (attrsT (at'.drop 0) ++ closeT sf)) := by
    show _ = _
    unfold taggedL
    simp
  generalize hT : taggedL (kd, nm, at', tx, sf) = T at *
  clear hT hA hw hm
  obtain ⟨n, Hl⟩ : ∃ n, Hid (at'.length = n) := ⟨_, rfl⟩
  rw [Hl.out] at hn ⊢
  have hI0 : Hid (Lib.IsBuilderF 44 5 (w.heap.size + 1) (w.heap.size + 1) (Lib.byteCells []) ((w.alloc (.cells #[.int .i64 kd, .string nm, .slice a n cap, .string tx, .bool sf] 35)).alloc (.cells #[.pointer none, .slice none 0 0] 44))) := by
    have h := Lib.IsBuilderF.of (Lib.fresh_isBuilder 44 5 (w.alloc (.cells #[.int .i64 kd, .string nm, .slice a n cap, .string tx, .bool sf] 35)))
    have e : (w.alloc (.cells #[.int .i64 kd, .string nm, .slice a n cap, .string tx, .bool sf] 35)).heap.size = w.heap.size + 1 := by simp
    rw [e] at h
    exact h
  have hb0 : Below w.heap.size w ((w.alloc (.cells #[.int .i64 kd, .string nm, .slice a n cap, .string tx, .bool sf] 35)).alloc (.cells #[.pointer none, .slice none 0 0] 44)) := ((Below.refl _ _).alloc (Nat.le_refl _) _).alloc (by simp) _
  have hx0 : ((w.alloc (.cells #[.int .i64 kd, .string nm, .slice a n cap, .string tx, .bool sf] 35)).alloc (.cells #[.pointer none, .slice none 0 0] 44)).heap[w.heap.size]? = some (.cells #[.int .i64 kd, .string nm, .slice a n cap, .string tx, .bool sf] 35) := by
    rw [Below.heap_alloc _ _ _ (by simp)]
    show (w.heap.push _)[w.heap.size]? = _
    simp
  have s1 : ¬ 9223372036854775807 < 1 + nm.size := by omega
  have hz0 : w.heap.size + 1 ≤ ((w.alloc (.cells #[.int .i64 kd, .string nm, .slice a n cap, .string tx, .bool sf] 35)).alloc (.cells #[.pointer none, .slice none 0 0] 44)).heap.size := by simp
  have HC0 := writeString (w.heap.size + 1) (w.heap.size + 1) (Lib.byteCells []) ((⟨#[60]⟩ : ByteArray) ++ nm) _ hI0.out (by
    have e1 : (⟨#[60]⟩ : ByteArray).size = 1 := rfl
    rw [Lib.byteCells_length, ByteArray.size_append, e1, List.length_nil]
    omega) hz0
  go_enter Tryd.func26, Tryd.ntmps26
  go_wp2_with fail
  refine HC0.mono ?_
  rintro e w1 ⟨rfl, hI1, hb1, _⟩
  have hI2 : Hid (Lib.IsBuilderF 44 5 (w.heap.size + 1) (w.heap.size + 1) (Lib.byteCells (60 :: nm.data.toList)) w1) := by
    rw [cells_more] at hI1
    have e : ([] : List UInt8) ++ ((⟨#[60]⟩ : ByteArray) ++ nm).data.toList = 60 :: nm.data.toList := by simp [ByteArray.data_append]
    rw [e] at hI1
    exact .inr hI1
  have hbel1 : Below w.heap.size w w1 := hb0.trans (hb1.mono (Nat.le_succ _))
  have hx1 : Hid (w1.heap[w.heap.size]? = some (.cells #[.int .i64 kd, .string nm, .slice a n cap, .string tx, .bool sf] 35)) := (hb1.block _ (Nat.lt_succ_self _)).trans hx0
  have d2 : w1.cell? ⟨w.heap.size, 2, none⟩ = some (.slice a n cap) := by simp [World.cell?, hx1.out]
  have hws1 : w.heap.size + 1 ≤ w1.heap.size := Nat.le_trans (by simp) hb1.size
  clear hI1 hb1 hb0 hx0 hI0
  go_wp2_with fail
  go_loopw [15] (fun i wr => ∃ (k : Nat) (acc : List UInt8), k ≤ n ∧ i = .int .i64 k ∧ Hid (T = acc ++ (attrsT (at'.drop k) ++ closeT sf)) ∧ Hid (Lib.IsBuilderF 44 5 (w.heap.size + 1) (w.heap.size + 1) (Lib.byteCells acc) wr) ∧ Hid (wr.heap[w.heap.size]? = some (.cells #[.int .i64 kd, .string nm, .slice a n cap, .string tx, .bool sf] 35)) ∧ w.heap.size + 1 ≤ wr.heap.size ∧ Below w.heap.size w wr) (fun i _ => n - (intOf i).toNat)
  case atStart => exact ⟨0, _, Nat.zero_le _, rfl, Ht, hI2, hx1, hws1, hbel1⟩
  case round =>
    clear hI2 hbel1 hx1 d2 hws1 s1 Ht
    obtain ⟨k, acc, hk, rfl, Hacc, hI, hx, hws, hbel⟩ := hrel
    have hob : acc.length ≤ 16777216 := Nat.le_trans (acc_len2 Hacc.out) hTl
    by_cases hlt : k < n
    · have hkl : k < at'.length := by rw [Hl.out]; exact hlt
      obtain ⟨b, rfl, c0, c1⟩ := (HA.out.below hbel).get k hkl
      have hp := Hv.out _ (List.getElem_mem hkl)
      have Hst := attrsT_step at' k hkl
      generalize at'[k]'hkl = p at *
      clear hkl
      obtain ⟨x, v⟩ := p
      simp only at c0 c1 hp
      have k0 : (0 : Int) ≤ (k : Int) := by omega
      have k1 : (k : Int) < (n : Int) := by omega
      have hV : (strB (valT v.data.toList)).size ≤ 6291456 := by
        rw [strB_size]
        have := valT_len v.data.toList
        rw [bytes_len] at this
        omega
      have Hout : ((((⟨#[32]⟩ ++ x) ++ ⟨#[61, 34]⟩) ++ strB (valT v.data.toList)) ++ ⟨#[34]⟩).data.toList = attrT (x, v) := by simp [ByteArray.data_append, strB, attrT]
      have CV : Hid (∀ W, MaxLen W → Calls Tryd.prog 27 #[.string v] W fun e w' => e = .returned (.string (strB (valT v.data.toList))) ∧ Below W.heap.size W w') := fun W m => implSpeltValue v W (by omega) m
      generalize strB (valT v.data.toList) = V at *
      have s2 : ¬ 9223372036854775807 < 1 + x.size := by omega
      have s3 : ¬ 9223372036854775807 < 1 + x.size + 2 := by omega
      have s4 : ¬ 9223372036854775807 < 1 + x.size + 2 + V.size := by omega
      have s5 : ¬ 9223372036854775807 < 1 + x.size + 2 + V.size + 1 := by omega
      have HN : Hid (T = (acc ++ attrT (x, v)) ++ (attrsT (at'.drop (k + 1)) ++ closeT sf)) := by
        show _ = _
        rw [Hacc.out, Hst]
        simp only [List.append_assoc]
      have CW : Hid (∀ W, Below wr.heap.size wr W → Calls Tryd.prog 14 #[.pointer (some ⟨w.heap.size + 1, 0, none⟩), .string ((((⟨#[32]⟩ ++ x) ++ ⟨#[61, 34]⟩) ++ V) ++ ⟨#[34]⟩)] W fun e w' => e = .returned (.tuple #[.int .i64 ((((⟨#[32]⟩ ++ x) ++ ⟨#[61, 34]⟩) ++ V) ++ ⟨#[34]⟩ : ByteArray).size, .nilIface]) ∧ Hid (Lib.IsBuilderF 44 5 (w.heap.size + 1) (w.heap.size + 1) (Lib.byteCells (acc ++ attrT (x, v))) w') ∧ Hid (w'.heap[w.heap.size]? = some (.cells #[.int .i64 kd, .string nm, .slice (some ⟨b, 0, none⟩) n cap, .string tx, .bool sf] 35)) ∧ w.heap.size + 1 ≤ w'.heap.size ∧ Below w.heap.size w w') := by
        intro W hW
        have hI3 := isb_below hI.out hW
        have hx3 := (hW.block _ (by omega)).trans hx.out
        have hbel3 : Below w.heap.size w W := hbel.trans (hW.mono hbel.size)
        have hws3 : w.heap.size + 1 ≤ W.heap.size := Nat.le_trans hws hW.size
        refine (writeString (w.heap.size + 1) (w.heap.size + 1) (Lib.byteCells acc) _ _ hI3 ?_ hws3).mono ?_
        · rw [Lib.byteCells_length, ByteArray.size_append, ByteArray.size_append, ByteArray.size_append, ByteArray.size_append]
          rw [show (⟨#[32]⟩ : ByteArray).size = 1 from rfl, show (⟨#[61, 34]⟩ : ByteArray).size = 2 from rfl, show (⟨#[34]⟩ : ByteArray).size = 1 from rfl]
          omega
        rintro e w4 ⟨rfl, hI4, hb4, _⟩
        refine ⟨rfl, ?_, (hb4.block _ (Nat.lt_succ_self _)).trans hx3, Nat.le_trans hws3 hb4.size, hbel3.trans (hb4.mono (Nat.le_succ _))⟩
        rw [cells_more, Hout] at hI4
        exact .inr hI4
      clear Hacc Hst Hout HC0 hz0
      have M1 : Hid (MaxLen (wr.alloc (.cells #[.string x, .string v] 56))) := HM.out.below (hbel.alloc hbel.size _)
      have bw : Hid (Below wr.heap.size wr (wr.alloc (.cells #[.string x, .string v] 56))) := (Below.refl _ _).alloc (Nat.le_refl _) _
      have f0 : (wr.alloc (.cells #[.string x, .string v] 56)).cell? ⟨wr.heap.size, 0, none⟩ = some (.string x) := by simp
      have f1 : (wr.alloc (.cells #[.string x, .string v] 56)).cell? ⟨wr.heap.size, 1, none⟩ = some (.string v) := by simp
      have hlw : wr.heap.size < (wr.alloc (.cells #[.string x, .string v] 56)).heap.size := by simp
      go_upto_region 6 with fail
      generalize wr.alloc (.cells #[.string x, .string v] 56) = w1 at *
      clear hI hx hws hbel HA HM
      go_region_with (first | (go_at_call 27; refine (CV.out _ ?_).mono ?_; (first | exact M1.out | exact M1.out.below (Below.refl _ _).drew | exact M1.out.below (Below.refl _ _).drew.drew); rintro e w2 ⟨rfl, b2⟩; have g0 := keep_cell b2 (by first | exact f0 | exact keep_cell (Below.refl _ _).drew f0 | exact keep_cell (Below.refl _ _).drew.drew f0)) | (go_at_call 14; refine (CW.out _ ?_).mono ?_; (first | exact bw.out.trans (b2.mono (Nat.le_of_lt hlw)) | exact bw.out.trans ((b2.drew).mono (Nat.le_of_lt hlw)) | exact bw.out.trans (((Below.refl _ _).drew.trans b2).mono (Nat.le_of_lt hlw)) | exact bw.out.trans (((Below.refl _ _).drew.trans b2.drew).mono (Nat.le_of_lt hlw))); rintro e w4 ⟨rfl, hI5, hx5, hws5, hbel5⟩))
      all_goals (clear CV CW M1 bw f0 f1 b2)
      all_goals (go_wp2_with fail; go_roundw; case rel => exact ⟨k + 1, _, by omega, by go_num, HN, hI5, hx5, hws5, hbel5⟩)
      all_goals (simp [intOf]; omega)
    · have hkn : k = n := by omega
      subst hkn
      have he : attrsT (at'.drop k) = [] := by
        rw [List.drop_of_length_le (by rw [Hl.out]; exact Nat.le_refl _)]
        rfl
      have g2 : decide ((k : Int) < (k : Int)) = false := by simp
      have d4 : wr.cell? ⟨w.heap.size, 4, none⟩ = some (.bool sf) := by simp [World.cell?, hx.out]
      cases sf
      · have Hn : Hid (strB (acc ++ [62]) = strB T) := by
          show _ = _
          rw [Hacc.out, he]
          rfl
        clear Hacc he
        go_wp2_with fail
        refine (writeString (w.heap.size + 1) (w.heap.size + 1) (Lib.byteCells acc) ⟨#[62]⟩ _ hI.out ?_ hws).mono ?_
        · rw [Lib.byteCells_length, show (⟨#[62]⟩ : ByteArray).size = 1 from rfl]
          omega
        rintro e w4 ⟨rfl, hI4, hb4, _⟩
        rw [cells_more] at hI4
        go_wp2_with fail
        refine (Tryd.Builder_String_any_k (w.heap.size + 1) (w.heap.size + 1) (acc ++ [62]) _ (.inr hI4) (Nat.le_trans hws hb4.size)).mono ?_
        rintro e w5 ⟨rfl, _, hb5, _⟩
        have b5 : Below w.heap.size w w5 := (hbel.trans (hb4.mono (Nat.le_succ _))).trans (hb5.mono (Nat.le_succ _))
        clear hI hI4 hb4 hb5 hbel
        go_wp2_with fail
        go_ret
        exact ⟨ret_s Hn.out, b5⟩
      · have Hn : Hid (strB (acc ++ [47, 62]) = strB T) := by
          show _ = _
          rw [Hacc.out, he]
          rfl
        clear Hacc he
        go_wp2_with fail
        refine (writeString (w.heap.size + 1) (w.heap.size + 1) (Lib.byteCells acc) ⟨#[47]⟩ _ hI.out ?_ hws).mono ?_
        · rw [Lib.byteCells_length, show (⟨#[47]⟩ : ByteArray).size = 1 from rfl]
          omega
        rintro e w3 ⟨rfl, hI3, hb3, _⟩
        rw [cells_more] at hI3
        have hws3 := Nat.le_trans hws hb3.size
        go_wp2_with fail
        refine (writeString (w.heap.size + 1) (w.heap.size + 1) (Lib.byteCells (acc ++ [47])) ⟨#[62]⟩ _ (.inr hI3) ?_ hws3).mono ?_
        · rw [Lib.byteCells_length, List.length_append, show (⟨#[62]⟩ : ByteArray).size = 1 from rfl, List.length_singleton]
          omega
        rintro e w4 ⟨rfl, hI4, hb4, _⟩
        rw [cells_more] at hI4
        go_wp2_with fail
        refine (Tryd.Builder_String_any_k (w.heap.size + 1) (w.heap.size + 1) ((acc ++ [47]) ++ [62]) _ (.inr hI4) (Nat.le_trans hws3 hb4.size)).mono ?_
        rintro e w5 ⟨rfl, _, hb5, _⟩
        have b5 : Below w.heap.size w w5 := ((hbel.trans (hb3.mono (Nat.le_succ _))).trans (hb4.mono (Nat.le_succ _))).trans (hb5.mono (Nat.le_succ _))
        clear hI hI3 hI4 hb3 hb4 hb5 hbel
        go_wp2_with fail
        go_ret
        exact ⟨ret_s Hn.out, b5⟩

end Go.Proofs.YtfdigdemoeepoaaDoor.Sg
