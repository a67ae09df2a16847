/- Contract of the program's speltStart. -/
import Derived.Test.YtmambbknljgjcaaDoorSpImplA
import Derived.Test.YtmambbknljgjcaaDoorGBuild
import Derived.Test.YtmambbknljgjcaaDoorKdOwn
namespace Go.Proofs.YtmambbknljgjcaaDoor.Sg
open Go.ChangeShapes Go.WideShapes Go.ChangeAt Go.RowKit

theorem cells_more (acc : List UInt8) (s : ByteArray) : Lib.byteCells acc ++ Lib.strCells s = Lib.byteCells (acc ++ s.data.toList) := by simp [Lib.byteCells, Lib.strCells]
theorem acc_len2 {S A acc : List UInt8} (h : S = acc ++ A) : acc.length ≤ S.length := by
  rw [h, List.length_append]
  omega

set_option maxRecDepth 20000 in
set_option maxHeartbeats 8000000 in
theorem implSpeltStart (t : TokB) (sv : Value) (w : World) (hS : SlAttrs w sv t.2.2.1) (hw : tokW t ≤ 1048576) (hm : MaxLen w) :
    Calls Tryd.prog 33 #[.agg #[.int .i64 t.1, .string t.2.1, sv, .string t.2.2.2.1, .bool t.2.2.2.2]] w fun e w' => e = .returned (.string (strB (taggedL t))) ∧ Below w.heap.size w w' := by
  have hTl := taggedL_len t hw
  obtain ⟨kd, nm, at', tx, sf⟩ := t
  obtain ⟨a, cap, rfl, hA⟩ := hS
  simp only at hA ⊢
  have HA : Hid (AttrsAt w a at') := hA
  have HM : Hid (MaxLen w) := hm
  have hnm : nm.size ≤ 1048576 := by unfold tokW at hw; simp only at hw; omega
  have hn : at'.length ≤ 1048576 := by unfold tokW attrsW at hw; simp only at hw; omega
  have Hv : Hid (∀ p ∈ at', p.1.size + p.2.size ≤ 1048576) := fun p hp => by
    have := attrW_le hp
    unfold tokW at hw
    unfold attrW at this
    simp only at hw
    omega
  have Ht : Hid (taggedL (kd, nm, at', tx, sf) = (60 :: nm.data.toList) ++ (attrsT (at'.drop 0) ++ closeT sf)) := by
    show _ = _
    unfold taggedL
    simp
  generalize hT : taggedL (kd, nm, at', tx, sf) = T at *
  clear hT hA hw hm
  obtain ⟨n, Hl⟩ : ∃ n, Hid (at'.length = n) := ⟨_, rfl⟩
  rw [Hl.out] at hn ⊢
  have hI0 : Hid (Lib.IsBuilderF 45 5 (w.heap.size + 1) (w.heap.size + 1) (Lib.byteCells []) ((w.alloc (.cells #[.int .i64 kd, .string nm, .slice a n cap, .string tx, .bool sf] 36)).alloc (.cells #[.pointer none, .slice none 0 0] 45))) := by
    have h := Lib.IsBuilderF.of (Lib.fresh_isBuilder 45 5 (w.alloc (.cells #[.int .i64 kd, .string nm, .slice a n cap, .string tx, .bool sf] 36)))
    have e : (w.alloc (.cells #[.int .i64 kd, .string nm, .slice a n cap, .string tx, .bool sf] 36)).heap.size = w.heap.size + 1 := by simp
    rw [e] at h
    exact h
  have hb0 : Below w.heap.size w ((w.alloc (.cells #[.int .i64 kd, .string nm, .slice a n cap, .string tx, .bool sf] 36)).alloc (.cells #[.pointer none, .slice none 0 0] 45)) := ((Below.refl _ _).alloc (Nat.le_refl _) _).alloc (by simp) _
  have hx0 : ((w.alloc (.cells #[.int .i64 kd, .string nm, .slice a n cap, .string tx, .bool sf] 36)).alloc (.cells #[.pointer none, .slice none 0 0] 45)).heap[w.heap.size]? = some (.cells #[.int .i64 kd, .string nm, .slice a n cap, .string tx, .bool sf] 36) := by
    rw [Below.heap_alloc _ _ _ (by simp)]
    show (w.heap.push _)[w.heap.size]? = _
    simp
  have s1 : ¬ 9223372036854775807 < 1 + nm.size := by omega
  have hz0 : w.heap.size + 1 ≤ ((w.alloc (.cells #[.int .i64 kd, .string nm, .slice a n cap, .string tx, .bool sf] 36)).alloc (.cells #[.pointer none, .slice none 0 0] 45)).heap.size := by simp
  have HC0 := writeString (w.heap.size + 1) (w.heap.size + 1) (Lib.byteCells []) ((⟨#[60]⟩ : ByteArray) ++ nm) _ hI0.out (by
    have e1 : (⟨#[60]⟩ : ByteArray).size = 1 := rfl
    rw [Lib.byteCells_length, ByteArray.size_append, e1, List.length_nil]
    omega) hz0
  go_enter Tryd.func33, Tryd.ntmps33
  go_wp2_with fail
  refine HC0.mono ?_
  rintro e w1 ⟨rfl, hI1, hb1, _⟩
  have hI2 : Hid (Lib.IsBuilderF 45 5 (w.heap.size + 1) (w.heap.size + 1) (Lib.byteCells (60 :: nm.data.toList)) w1) := by
    rw [cells_more] at hI1
    have e : ([] : List UInt8) ++ ((⟨#[60]⟩ : ByteArray) ++ nm).data.toList = 60 :: nm.data.toList := by simp [ByteArray.data_append]
    rw [e] at hI1
    exact .inr hI1
  have hbel1 : Below w.heap.size w w1 := hb0.trans (hb1.mono (Nat.le_succ _))
  have hx1 : Hid (w1.heap[w.heap.size]? = some (.cells #[.int .i64 kd, .string nm, .slice a n cap, .string tx, .bool sf] 36)) := (hb1.block _ (Nat.lt_succ_self _)).trans hx0
  have d2 : w1.cell? ⟨w.heap.size, 2, none⟩ = some (.slice a n cap) := by simp [World.cell?, hx1.out]
  have hws1 : w.heap.size + 1 ≤ w1.heap.size := Nat.le_trans (by simp) hb1.size
  clear hI1 hb1 hb0 hx0 hI0
  go_wp2_with fail
  go_loopw [14] (fun i wr => ∃ (k : Nat) (acc : List UInt8), k ≤ n ∧ i = .int .i64 k ∧ Hid (T = acc ++ (attrsT (at'.drop k) ++ closeT sf)) ∧ Hid (Lib.IsBuilderF 45 5 (w.heap.size + 1) (w.heap.size + 1) (Lib.byteCells acc) wr) ∧ Hid (wr.heap[w.heap.size]? = some (.cells #[.int .i64 kd, .string nm, .slice a n cap, .string tx, .bool sf] 36)) ∧ w.heap.size + 1 ≤ wr.heap.size ∧ Below w.heap.size w wr) (fun i _ => n - (intOf i).toNat)
  case atStart => exact ⟨0, _, Nat.zero_le _, rfl, Ht, hI2, hx1, hws1, hbel1⟩
  case round =>
    clear hI2 hbel1 hx1 d2 hws1 s1 Ht
    obtain ⟨k, acc, hk, rfl, Hacc, hI, hx, hws, hbel⟩ := hrel
    have hob : acc.length ≤ 16777216 := Nat.le_trans (acc_len2 Hacc.out) hTl
    by_cases hlt : k < n
    · have hkl : k < at'.length := by rw [Hl.out]; exact hlt
      obtain ⟨b, rfl, c0, c1⟩ := (HA.out.below hbel).get k hkl
      have hp := Hv.out _ (List.getElem_mem hkl)
      have Hst := attrsT_step at' k hkl
      generalize at'[k]'hkl = p at *
      clear hkl
      obtain ⟨x, v⟩ := p
      simp only at c0 c1 hp
      have k0 : (0 : Int) ≤ (k : Int) := by omega
      have k1 : (k : Int) < (n : Int) := by omega
      have M1 : MaxLen (wr.alloc (.cells #[.string x, .string v] 59)) := HM.out.below (hbel.alloc hbel.size _)
      have C1 := implWithAmp v _ (by omega) M1
      go_wp2_with fail
      refine C1.mono ?_
      rintro e w2 ⟨rfl, b2⟩
      have e2 : (strB (Lib.replaceAll v.data.toList [38] ampT)).data.toList = Lib.replaceAll v.data.toList [38] ampT := strB_data _
      have l2 : (strB (Lib.replaceAll v.data.toList [38] ampT)).size ≤ 5242880 := by
        rw [strB_size]
        have := replaced_len 38 ampT 5 (by omega) (by decide) (by decide) v.data.toList
        rw [bytes_len] at this
        omega
      have C2 := implReplace (strB (Lib.replaceAll v.data.toList [38] ampT)) 34 ⟨#[38, 113, 117, 111, 116, 59]⟩ w2 (by omega) (by decide) (M1.below b2)
      rw [e2, show (⟨#[38, 113, 117, 111, 116, 59]⟩ : ByteArray).data.toList = quotT from rfl, val_replaced] at C2
      clear e2 M1 C1
      generalize strB (Lib.replaceAll v.data.toList [38] ampT) = V1 at *
      go_wp2_with fail
      refine C2.mono ?_
      rintro e w3 ⟨rfl, b3⟩
      have b13 : Below (wr.heap.size + 1) (wr.alloc (.cells #[.string x, .string v] 59)) w3 := (b2.mono (by simp)).trans (b3.mono (Nat.le_trans (by simp) b2.size))
      have f0 : w3.cell? ⟨wr.heap.size, 0, none⟩ = some (.string x) := (b13.cell (by simp)).trans (by simp)
      have brw : Below wr.heap.size wr w3 := ((Below.refl _ _).alloc (Nat.le_refl _) _).trans (b13.mono (Nat.le_succ _))
      have hV : (strB (valT v.data.toList)).size ≤ 6291456 := by
        rw [strB_size]
        have := valT_len v.data.toList
        rw [bytes_len] at this
        omega
      have Hout : ((((⟨#[32]⟩ ++ x) ++ ⟨#[61, 34]⟩) ++ strB (valT v.data.toList)) ++ ⟨#[34]⟩).data.toList = attrT (x, v) := by simp [ByteArray.data_append, strB, attrT]
      have hI3 := isb_below hI.out brw
      have hx3 := (brw.block _ (by omega)).trans hx.out
      have hbel3 : Below w.heap.size w w3 := hbel.trans (brw.mono hbel.size)
      have hws3 : w.heap.size + 1 ≤ w3.heap.size := Nat.le_trans hws brw.size
      clear C2 b2 b3 b13 brw hbel hI hx hws
      generalize strB (valT v.data.toList) = V at *
      have s2 : ¬ 9223372036854775807 < 1 + x.size := by omega
      have s3 : ¬ 9223372036854775807 < 1 + x.size + 2 := by omega
      have s4 : ¬ 9223372036854775807 < 1 + x.size + 2 + V.size := by omega
      have s5 : ¬ 9223372036854775807 < 1 + x.size + 2 + V.size + 1 := by omega
      go_wp2_with fail
      refine (writeString (w.heap.size + 1) (w.heap.size + 1) (Lib.byteCells acc) _ _ hI3 ?_ hws3).mono ?_
      · rw [Lib.byteCells_length, ByteArray.size_append, ByteArray.size_append, ByteArray.size_append, ByteArray.size_append]
        rw [show (⟨#[32]⟩ : ByteArray).size = 1 from rfl, show (⟨#[61, 34]⟩ : ByteArray).size = 2 from rfl, show (⟨#[34]⟩ : ByteArray).size = 1 from rfl]
        omega
      rintro e w4 ⟨rfl, hI4, hb4, _⟩
      have hI5 : Hid (Lib.IsBuilderF 45 5 (w.heap.size + 1) (w.heap.size + 1) (Lib.byteCells (acc ++ attrT (x, v))) w4) := by
        rw [cells_more, Hout] at hI4
        exact .inr hI4
      have hx5 := (hb4.block _ (Nat.lt_succ_self _)).trans hx3
      have hbel5 : Below w.heap.size w w4 := hbel3.trans (hb4.mono (Nat.le_succ _))
      have hws5 : w.heap.size + 1 ≤ w4.heap.size := Nat.le_trans hws3 hb4.size
      have HN : Hid (T = (acc ++ attrT (x, v)) ++ (attrsT (at'.drop (k + 1)) ++ closeT sf)) := by
        show _ = _
        rw [Hacc.out, Hst]
        simp only [List.append_assoc]
      clear hI3 hI4 hb4 hbel3 hx3 hws3 Hacc Hst Hout f0
      go_wp2_with fail
      go_roundw
      case rel => exact ⟨k + 1, _, by omega, by go_num, HN, hI5, hx5, hws5, hbel5⟩
      case measure => simp [intOf]; omega
    · have hkn : k = n := by omega
      subst hkn
      have he : attrsT (at'.drop k) = [] := by
        rw [List.drop_of_length_le (by rw [Hl.out]; exact Nat.le_refl _)]
        rfl
      have g2 : decide ((k : Int) < (k : Int)) = false := by simp
      have d4 : wr.cell? ⟨w.heap.size, 4, none⟩ = some (.bool sf) := by simp [World.cell?, hx.out]
      cases sf
      · have Hn : Hid (strB (acc ++ [62]) = strB T) := by
          show _ = _
          rw [Hacc.out, he]
          rfl
        clear Hacc he
        go_wp2_with fail
        refine (writeString (w.heap.size + 1) (w.heap.size + 1) (Lib.byteCells acc) ⟨#[62]⟩ _ hI.out ?_ hws).mono ?_
        · rw [Lib.byteCells_length, show (⟨#[62]⟩ : ByteArray).size = 1 from rfl]
          omega
        rintro e w4 ⟨rfl, hI4, hb4, _⟩
        rw [cells_more] at hI4
        go_wp2_with fail
        refine (Tryd.Builder_String_any_k (w.heap.size + 1) (w.heap.size + 1) (acc ++ [62]) _ (.inr hI4) (Nat.le_trans hws hb4.size)).mono ?_
        rintro e w5 ⟨rfl, _, hb5, _⟩
        have b5 : Below w.heap.size w w5 := (hbel.trans (hb4.mono (Nat.le_succ _))).trans (hb5.mono (Nat.le_succ _))
        clear hI hI4 hb4 hb5 hbel
        go_wp2_with fail
        go_ret
        exact ⟨ret_s Hn.out, b5⟩
      · have Hn : Hid (strB (acc ++ [47, 62]) = strB T) := by
          show _ = _
          rw [Hacc.out, he]
          rfl
        clear Hacc he
        go_wp2_with fail
        refine (writeString (w.heap.size + 1) (w.heap.size + 1) (Lib.byteCells acc) ⟨#[47]⟩ _ hI.out ?_ hws).mono ?_
        · rw [Lib.byteCells_length, show (⟨#[47]⟩ : ByteArray).size = 1 from rfl]
          omega
        rintro e w3 ⟨rfl, hI3, hb3, _⟩
        rw [cells_more] at hI3
        have hws3 := Nat.le_trans hws hb3.size
        go_wp2_with fail
        refine (writeString (w.heap.size + 1) (w.heap.size + 1) (Lib.byteCells (acc ++ [47])) ⟨#[62]⟩ _ (.inr hI3) ?_ hws3).mono ?_
        · rw [Lib.byteCells_length, List.length_append, show (⟨#[62]⟩ : ByteArray).size = 1 from rfl, List.length_singleton]
          omega
        rintro e w4 ⟨rfl, hI4, hb4, _⟩
        rw [cells_more] at hI4
        go_wp2_with fail
        refine (Tryd.Builder_String_any_k (w.heap.size + 1) (w.heap.size + 1) ((acc ++ [47]) ++ [62]) _ (.inr hI4) (Nat.le_trans hws3 hb4.size)).mono ?_
        rintro e w5 ⟨rfl, _, hb5, _⟩
        have b5 : Below w.heap.size w w5 := ((hbel.trans (hb3.mono (Nat.le_succ _))).trans (hb4.mono (Nat.le_succ _))).trans (hb5.mono (Nat.le_succ _))
        clear hI hI3 hI4 hb3 hb4 hb5 hbel
        go_wp2_with fail
        go_ret
        exact ⟨ret_s Hn.out, b5⟩

end Go.Proofs.YtmambbknljgjcaaDoor.Sg
