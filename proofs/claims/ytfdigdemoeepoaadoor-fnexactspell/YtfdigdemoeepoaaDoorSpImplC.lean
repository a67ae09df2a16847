/- Contracts of the program's spelt and Spell. -/
import Derived.Test.YtfdigdemoeepoaaDoorSpImplB
import Derived.Test.YtfdigdemoeepoaaDoorSpSpell
namespace Go.Proofs.YtfdigdemoeepoaaDoor.Sg
open Go.ChangeShapes Go.WideShapes Go.ChangeAt Go.RowKit

set_option maxRecDepth 20000 in
set_option maxHeartbeats 8000000 in
theorem implSpelt (t : TokB) (sv : Value) (bare : Bool) (w : World) (hS : SlAttrs w sv t.2.2.1) (hw : tokW t ≤ 1048576) (hm : MaxLen w) :
    Calls Tryd.prog 15 #[.agg #[.int .i64 t.1, .string t.2.1, sv, .string t.2.2.2.1, .bool t.2.2.2.2], .bool bare] w fun e w' => e = .returned (.string (strB (speltT bare t))) ∧ Below w.heap.size w w' := by
  have htl := taggedL_len t hw
  have Htag := fun W (h : SlAttrs W sv t.2.2.1) (m : MaxLen W) => implSpeltStart t sv W h hw m
  obtain ⟨kd, nm, at', tx, sf⟩ := t
  obtain ⟨sa, sc, rfl, hSA⟩ := hS
  have hnm : nm.size ≤ 1048576 := by unfold tokW at hw; simp only at hw; omega
  have htx : tx.size ≤ 1048576 := by unfold tokW at hw; simp only at hw; omega
  simp only at hSA Htag ⊢
  have bb : Below w.heap.size w (w.alloc (.cells #[.int .i64 kd, .string nm, .slice sa at'.length sc, .string tx, .bool sf] 35)) := (Below.refl _ _).alloc (Nat.le_refl _) _
  have HM := hm.below bb
  have hz : w.heap.size ≤ (w.alloc (.cells #[.int .i64 kd, .string nm, .slice sa at'.length sc, .string tx, .bool sf] 35)).heap.size := bb.size
  have HT := Htag _ ⟨sa, sc, rfl, hSA.below bb⟩ HM
  clear Htag hSA hm hw
  by_cases h1 : kd = 1
  · subst h1
    clear HT
    cases bare
    · rw [speltT_1]
      have C1 := implWithAmp tx _ (by omega) HM
      have e2 : (strB (Lib.replaceAll tx.data.toList [38] ampT)).data.toList = Lib.replaceAll tx.data.toList [38] ampT := strB_data _
      have e3 : (strB (Lib.replaceAll (Lib.replaceAll tx.data.toList [38] ampT) [60] ltT)).data.toList = Lib.replaceAll (Lib.replaceAll tx.data.toList [38] ampT) [60] ltT := strB_data _
      have l2 : (strB (Lib.replaceAll tx.data.toList [38] ampT)).size ≤ 5242880 := by
        rw [strB_size]
        have := replaced_len 38 ampT 5 (by omega) (by decide) (by decide) tx.data.toList
        rw [bytes_len] at this
        omega
      have l3 : (strB (Lib.replaceAll (Lib.replaceAll tx.data.toList [38] ampT) [60] ltT)).size ≤ 20971520 := by
        rw [strB_size]
        have := replaced_len 60 ltT 4 (by omega) (by decide) (by decide) (Lib.replaceAll tx.data.toList [38] ampT)
        rw [strB_size] at l2
        omega
      have C2 := fun W (m : MaxLen W) => implReplace (strB (Lib.replaceAll tx.data.toList [38] ampT)) 60 ⟨#[38, 108, 116, 59]⟩ W (by omega) (by decide) m
      have C3 := fun W (m : MaxLen W) => implReplace (strB (Lib.replaceAll (Lib.replaceAll tx.data.toList [38] ampT) [60] ltT)) 62 ⟨#[38, 103, 116, 59]⟩ W (by omega) (by decide) m
      rw [e2, show (⟨#[38, 108, 116, 59]⟩ : ByteArray).data.toList = ltT from rfl] at C2
      rw [e3, show (⟨#[38, 103, 116, 59]⟩ : ByteArray).data.toList = gtT from rfl, txt_replaced] at C3
      generalize strB (txtT tx.data.toList) = V3 at *
      generalize strB (Lib.replaceAll (Lib.replaceAll tx.data.toList [38] ampT) [60] ltT) = V2 at *
      generalize strB (Lib.replaceAll tx.data.toList [38] ampT) = V1 at *
      clear e2 e3 l2 l3
      go_enter Tryd.func15, Tryd.ntmps15
      go_wp2_with fail
      refine C1.mono ?_
      rintro e w1 ⟨rfl, b1⟩
      have M1 := HM.below b1
      go_wp2_with fail
      refine (C2 _ M1).mono ?_
      rintro e w2 ⟨rfl, b2⟩
      have M2 := M1.below b2
      go_wp2_with fail
      refine (C3 _ M2).mono ?_
      rintro e w3 ⟨rfl, b3⟩
      have b4 : Below w.heap.size w w3 := bb.trans (((b1.trans (b2.mono b1.size)).trans (b3.mono (Nat.le_trans b1.size b2.size))).mono hz)
      clear C1 C2 C3 M1 M2 b1 b2 b3
      go_wp2_with fail
      go_ret
      exact ⟨rfl, b4⟩
    · rw [speltT_1b, strB_of]
      go_enter Tryd.func15, Tryd.ntmps15
      go_wp2_with fail
      go_ret
      exact ⟨rfl, bb⟩
  · have g1 : (kd == 1) = false := by simp [h1]
    by_cases h2 : kd = 2
    · subst h2
      rw [show speltT bare (2, nm, at', tx, sf) = taggedL (2, nm, at', tx, sf) from rfl]
      generalize strB (taggedL (2, nm, at', tx, sf)) = V at *
      go_enter Tryd.func15, Tryd.ntmps15
      go_wp2_with fail
      refine HT.mono ?_
      rintro e w1 ⟨rfl, b1⟩
      have b4 : Below w.heap.size w w1 := bb.trans (b1.mono hz)
      clear HT b1
      go_wp2_with fail
      go_ret
      exact ⟨rfl, b4⟩
    · have g2 : (kd == 2) = false := by simp [h2]
      clear HT
      by_cases h3 : kd = 3
      · subst h3
        have Hn : Hid (((⟨#[60, 47]⟩ : ByteArray) ++ nm) ++ (⟨#[62]⟩ : ByteArray) = strB (speltT bare (3, nm, at', tx, sf))) := ba_eq (by rw [strB_data]; simp [ByteArray.data_append, speltT])
        go_enter Tryd.func15, Tryd.ntmps15
        go_wp2_with fail
        go_ret
        exact ⟨ret_s Hn.out, bb⟩
      · have g3 : (kd == 3) = false := by simp [h3]
        by_cases h4 : kd = 4
        · subst h4
          have Hn : Hid (((⟨#[60, 33, 45, 45]⟩ : ByteArray) ++ tx) ++ (⟨#[45, 45, 62]⟩ : ByteArray) = strB (speltT bare (4, nm, at', tx, sf))) := ba_eq (by rw [strB_data]; simp [ByteArray.data_append, speltT])
          go_enter Tryd.func15, Tryd.ntmps15
          go_wp2_with fail
          go_ret
          exact ⟨ret_s Hn.out, bb⟩
        · have g4 : (kd == 4) = false := by simp [h4]
          by_cases h5 : kd = 5
          · subst h5
            have Hn : Hid (((⟨#[60, 33, 100, 111, 99, 116, 121, 112, 101, 32]⟩ : ByteArray) ++ tx) ++ (⟨#[62]⟩ : ByteArray) = strB (speltT bare (5, nm, at', tx, sf))) := ba_eq (by rw [strB_data]; simp [ByteArray.data_append, speltT])
            go_enter Tryd.func15, Tryd.ntmps15
            go_wp2_with fail
            go_ret
            exact ⟨ret_s Hn.out, bb⟩
          · have g5 : (kd == 5) = false := by simp [h5]
            rw [speltT_no h1 h2 h3 h4 h5]
            go_enter Tryd.func15, Tryd.ntmps15
            go_wp2_with fail
            go_ret
            exact ⟨rfl, bb⟩

set_option maxRecDepth 20000 in
set_option maxHeartbeats 8000000 in
theorem implSpell (l : List TokB) (a : Option Addr) (n cap : Nat) (w : World) (ha : ToksAt w a l) (hl : l.length = n) (hw : toksW l ≤ 1048576) (hm : MaxLen w) :
    Calls Tryd.prog 7 #[.slice a n cap] w fun e w' => e = .returned (.string (strB (spellL false l))) ∧ Below w.heap.size w w' := by
  have HA : Hid (ToksAt w a l) := ha
  have Hl : Hid (l.length = n) := hl
  have HM : Hid (MaxLen w) := hm
  have hn : n ≤ 1048576 := by unfold toksW at hw; omega
  have hSl := spellL_len l false
  have HW : Hid (∀ t ∈ l, tokW t ≤ 1048576) := fun t ht => Nat.le_trans (tokW_le ht) hw
  have hSl2 : (spellL false l).length ≤ 16777216 := by omega
  have Hs : Hid (spellL false l = [] ++ spellL (bareAt l 0) (l.drop 0)) := rfl
  have Hb0 : Hid (bareAt l 0 = false) := rfl
  generalize spellL false l = S at *
  clear ha hl hw hSl hm
  go_enter Tryd.func7, Tryd.ntmps7
  go_wp2
  go_loopw [4, 9] (fun r i wr => ∃ (k : Nat) (acc : List UInt8), k ≤ n ∧ i = .int .i64 k ∧ r = .bool (bareAt l k) ∧ Hid (S = acc ++ spellL (bareAt l k) (l.drop k)) ∧ Hid (Lib.IsBuilderF 44 5 w.heap.size w.heap.size (Lib.byteCells acc) wr) ∧ Below w.heap.size w wr) (fun _ i _ => n - (intOf i).toNat)
  case atStart => exact ⟨0, [], Nat.zero_le _, rfl, rfl, Hs, Lib.IsBuilderF.of (Lib.fresh_isBuilder 44 5 w), (Below.refl _ _).alloc (Nat.le_refl _) _⟩
  case round =>
    obtain ⟨k, acc, hk, rfl, rfl, Hacc, hI, hbel⟩ := hrel
    have hob : acc.length ≤ 16777216 := Nat.le_trans (acc_len2 Hacc.out) hSl2
    have hbw : w.heap.size < wr.heap.size := by
      rcases hI.out with ⟨_, _, hk, _⟩ | ⟨_, _, hk, _⟩ <;> exact (Array.getElem?_eq_some_iff.1 hk).1
    by_cases hlt : k < n
    · have hkl : k < l.length := by rw [Hl.out]; exact hlt
      obtain ⟨b, rfl, c0, c1, ⟨sv, c2, hS⟩, c3, c4⟩ := (HA.out.keep hbel).get k hkl
      have hp := HW.out _ (List.getElem_mem hkl)
      have Hst := spellL_step l k hkl
      have Hnx : bareAt l (k + 1) = bareT (l[k]'hkl) := by simp [bareAt, hkl]
      generalize l[k]'hkl = p at *
      clear hkl
      have HB := fun W => implBegun p (match sv with | .slice a _ _ => a | _ => none) (match sv with | .slice _ n _ => n | _ => 0) (match sv with | .slice _ _ c => c | _ => 0) W
      have Hsp := fun W (h : SlAttrs W sv p.2.2.1) (m : MaxLen W) => implSpelt p sv (bareAt l k) W h hp m
      have Hsl : (strB (speltT (bareAt l k) p)).size ≤ 16777216 := by
        rw [strB_size]
        have := speltT_len (bareAt l k) p
        omega
      have Hbb := bare_begun p
      obtain ⟨sa, sc, rfl, hSA⟩ := hS
      have HN1 : Hid (S = (acc ++ speltT (bareAt l k) p) ++ spellL (bareAt l (k + 1)) (l.drop (k + 1))) := by
        show _ = _
        rw [Hacc.out, Hst, List.append_assoc]
      have Hd : (strB (speltT (bareAt l k) p)).data.toList = speltT (bareAt l k) p := strB_data _
      generalize speltT (bareAt l k) p = sp at *
      generalize strB sp = V at *
      generalize bareAt l k = br at *
      rw [Hnx, ← Hbb] at HN1
      have HNx : Hid (bareAt l (k + 1) = scriptB (begunT p)) := Hnx.trans Hbb.symm
      generalize begunT p = bg at *
      obtain ⟨kd, nm, at', tx, sf⟩ := p
      simp only at c0 c1 c3 c4 hSA Hsp HB
      clear Hacc Hst Hnx Hbb hp
      have k0 : (0 : Int) ≤ (k : Int) := by omega
      have k1 : (k : Int) < (n : Int) := by omega
      have hbs := hbel.size
      have bx : Below wr.heap.size wr (wr.alloc (.cells #[.int .i64 kd, .string nm, .slice sa at'.length sc, .string tx, .bool sf] 35)) := (Below.refl _ _).alloc (Nat.le_refl _) _
      have C1 := Hsp _ ⟨sa, sc, rfl, hSA.below bx⟩ (HM.out.below (hbel.trans (bx.mono hbs)))
      go_wp2_with fail
      refine C1.mono ?_
      rintro e w1 ⟨rfl, b1⟩
      have b1' : Below (wr.heap.size + 1) (wr.alloc (.cells #[.int .i64 kd, .string nm, .slice sa at'.length sc, .string tx, .bool sf] 35)) w1 := b1.mono (by simp)
      have hx1 : w1.heap[wr.heap.size]? = some (.cells #[.int .i64 kd, .string nm, .slice sa at'.length sc, .string tx, .bool sf] 35) := (b1'.block _ (Nat.lt_succ_self _)).trans (by show (wr.heap.push _)[wr.heap.size]? = _; simp)
      have brw : Below wr.heap.size wr w1 := bx.trans (b1.mono bx.size)
      have hI1 := isb_below hI.out brw
      have hbel1 : Below w.heap.size w w1 := hbel.trans (brw.mono hbs)
      clear C1 b1 b1' bx Hsp hI
      have C2 := writeString w.heap.size w.heap.size (Lib.byteCells acc) V w1 hI1 (by rw [Lib.byteCells_length]; omega) hbel1.size
      rw [cells_more, Hd] at C2
      go_wp2_with fail
      refine C2.mono ?_
      rintro e w2 ⟨rfl, hI2, hb2, hk2⟩
      have hx2 : w2.heap[wr.heap.size]? = some (.cells #[.int .i64 kd, .string nm, .slice sa at'.length sc, .string tx, .bool sf] 35) := hk2 _ _ hx1 (by
        intro h
        have := Option.some.inj h
        omega) (by
        intro c fz h
        cases h)
      have d0 : w2.cell? ⟨wr.heap.size, 0, none⟩ = some (.int .i64 kd) := by simp [World.cell?, hx2]
      have d1 : w2.cell? ⟨wr.heap.size, 1, none⟩ = some (.string nm) := by simp [World.cell?, hx2]
      have d2 : w2.cell? ⟨wr.heap.size, 2, none⟩ = some (.slice sa at'.length sc) := by simp [World.cell?, hx2]
      have d3 : w2.cell? ⟨wr.heap.size, 3, none⟩ = some (.string tx) := by simp [World.cell?, hx2]
      have d4 : w2.cell? ⟨wr.heap.size, 4, none⟩ = some (.bool sf) := by simp [World.cell?, hx2]
      have hbel2 : Below w.heap.size w w2 := hbel1.trans hb2
      have hI3 : Lib.IsBuilderF 44 5 w.heap.size w.heap.size (Lib.byteCells (acc ++ sp)) w2 := .inr hI2
      clear C2 hx1 hx2 hk2 hI1 hI2 hb2 hbel1 hbel brw hbs
      go_wp2_with fail
      refine (HB _).mono ?_
      rintro e w3 ⟨rfl, b3⟩
      have hI4 := isb_below hI3 b3
      have hbel3 : Below w.heap.size w w3 := hbel2.trans (b3.mono hbel2.size)
      clear HB hI3 hbel2 b3 d0 d1 d2 d3 d4
      go_wp2_with fail
      refine (implHasNoRefs bg _).mono ?_
      rintro e w4 ⟨rfl, rfl⟩
      go_wp2_with fail
      go_roundw
      case rel => exact ⟨k + 1, acc ++ sp, by omega, by go_num, by rw [HNx.out], by rw [HNx.out]; exact HN1, hI4, hbel3⟩
      case measure => simp [intOf]; omega
    · have hkn : k = n := by omega
      subst hkn
      have he : spellL (bareAt l k) (l.drop k) = [] := by
        rw [← Hl.out]
        exact spellL_end l _
      have g2 : decide ((k : Int) < (k : Int)) = false := by simp
      have Hn : Hid (strB acc = strB S) := by
        show _ = _
        rw [Hacc.out, he, List.append_nil]
      have hI' := hI.out
      clear Hacc he
      go_wp2_with fail
      refine (Tryd.Builder_String_any_k w.heap.size w.heap.size acc _ hI' hbel.size).mono ?_
      rintro e w2 ⟨rfl, _, hb2, _⟩
      have b2 := hbel.trans hb2
      clear hI hI' hbel hb2
      go_wp2_with fail
      go_ret
      exact ⟨ret_s Hn.out, b2⟩

end Go.Proofs.YtfdigdemoeepoaaDoor.Sg
