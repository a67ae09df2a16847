/- Contract of the model's Spell. -/
import Derived.Test.YtfdigdemoeepoaaDoorSpTag2
namespace Go.Proofs.YtfdigdemoeepoaaDoor.Sg
open Go.ChangeShapes Go.WideShapes Go.ChangeAt Go.RowKit

theorem speltT_1b (nm : ByteArray) (at' : List AttrB) (tx : ByteArray) (sf : Bool) : speltT true (1, nm, at', tx, sf) = tx.data.toList := rfl
theorem speltT_1 (nm : ByteArray) (at' : List AttrB) (tx : ByteArray) (sf : Bool) : speltT false (1, nm, at', tx, sf) = txtT tx.data.toList := rfl
theorem speltT_no {b : Bool} {t : TokB} (h1 : t.1 ≠ 1) (h2 : t.1 ≠ 2) (h3 : t.1 ≠ 3) (h4 : t.1 ≠ 4) (h5 : t.1 ≠ 5) : speltT b t = [] := by
  unfold speltT
  rw [if_neg h1, if_neg h2, if_neg h3, if_neg h4, if_neg h5]
theorem acc_more {S A R : List UInt8} {X : List UInt8} {o o' : ByteArray} (h : S = o.data.toList ++ A) (hA : A = X ++ R) (ho : o'.data.toList = o.data.toList ++ X) : S = o'.data.toList ++ R := by
  rw [h, hA, ho, List.append_assoc]
theorem acc_len {S A : List UInt8} {o : ByteArray} (h : S = o.data.toList ++ A) : o.size ≤ S.length := by
  rw [h, List.length_append, bytes_len]
  omega

set_option maxRecDepth 20000 in
set_option maxHeartbeats 8000000 in
theorem specSpell (l : List TokB) (a : Option Addr) (n cap : Nat) (w : World) (ha : ToksAt w a l) (hl : l.length = n) (hw : toksW l ≤ 1048576) :
    Calls Tryd.prog 5 #[.slice a n cap] w fun e w' => e = .returned (.string (strB (spellL false l))) ∧ Below w.heap.size w w' := by
  have HA : Hid (ToksAt w a l) := ha
  have Hl : Hid (l.length = n) := hl
  have hn : n ≤ 1048576 := by unfold toksW at hw; omega
  have hSl := spellL_len l false
  have HW : Hid (∀ t ∈ l, tokW t ≤ 1048576) := fun t ht => Nat.le_trans (tokW_le ht) hw
  have hSl2 : (spellL false l).length ≤ 16777216 := by omega
  have Hs : Hid (spellL false l = (⟨#[]⟩ : ByteArray).data.toList ++ spellL (bareAt l 0) (l.drop 0)) := rfl
  generalize spellL false l = S at *
  clear ha hl hw hSl
  go_enter Tryd.func5, Tryd.ntmps5
  go_wp2
  go_loopw [3, 4] (fun o i wr => ∃ (k : Nat) (ob : ByteArray), k ≤ n ∧ i = .int .i64 k ∧ o = .string ob ∧ Hid (S = ob.data.toList ++ spellL (bareAt l k) (l.drop k)) ∧ Below w.heap.size w wr) (fun _ i _ => n - (intOf i).toNat)
  case atStart => exact ⟨0, _, Nat.zero_le _, rfl, rfl, Hs, Below.refl _ _⟩
  case round =>
    obtain ⟨k, ob, hk, rfl, rfl, Hacc, hbel⟩ := hrel
    have hob : ob.size ≤ 16777216 := Nat.le_trans (acc_len Hacc.out) hSl2
    by_cases hlt : k < n
    · have hkl : k < l.length := by rw [Hl.out]; exact hlt
      have HAr : Hid (ToksAt wr a l) := HA.out.keep hbel
      obtain ⟨b, rfl, c0, c1, ⟨sv, c2, hS⟩, c3, c4⟩ := HAr.out.get k hkl
      have hp := HW.out _ (List.getElem_mem hkl)
      have Hst := spellL_step l k hkl
      generalize l[k]'hkl = p at *
      clear hkl
      have Htag := fun W (h : SlAttrs W sv p.2.2.1) => specTagged p sv W h hp
      obtain ⟨kd, nm, at', tx, sf⟩ := p
      obtain ⟨sa, sc, rfl, hSA⟩ := hS
      have hnm : nm.size ≤ 1048576 := by unfold tokW at hp; simp only at hp; omega
      have htx : tx.size ≤ 1048576 := by unfold tokW at hp; simp only at hp; omega
      have htl := taggedL_len _ hp
      simp only at c0 c1 c3 c4 hSA Htag
      have k0 : (0 : Int) ≤ (k : Int) := by omega
      have k1 : (k : Int) < (n : Int) := by omega
      have hbs := hbel.size
      by_cases h1 : kd = 1
      · subst h1
        clear Htag
        have Hb := specBare l (some ⟨b, 0, none⟩) n cap k (wr.alloc (.cells #[.int .i64 1, .string nm, .slice sa at'.length sc, .string tx, .bool sf] 35)) (HAr.out.keep ((Below.refl _ _).alloc (Nat.le_refl _) _)) Hl.out hk (by omega)
        have hb1 : Below w.heap.size w (wr.alloc (.cells #[.int .i64 1, .string nm, .slice sa at'.length sc, .string tx, .bool sf] 35)) := hbel.alloc hbs _
        cases hbr : bareAt l k
        · rw [hbr, speltT_1] at Hst
          rw [hbr] at Hb Hacc
          have HTx : Texts ((wr.alloc (.cells #[.int .i64 1, .string nm, .slice sa at'.length sc, .string tx, .bool sf] 35)).alloc (.cells #[.string ⟨#[38, 97, 109, 112, 59]⟩, .string ⟨#[38, 108, 116, 59]⟩, .string ⟨#[38, 103, 116, 59]⟩] 9)) (wr.heap.size + 1) [ampT, ltT, gtT] := by
            have h := Texts.laid (wr.alloc (.cells #[.int .i64 1, .string nm, .slice sa at'.length sc, .string tx, .bool sf] 35)) [ampT, ltT, gtT] #[.string ⟨#[38, 97, 109, 112, 59]⟩, .string ⟨#[38, 108, 116, 59]⟩, .string ⟨#[38, 103, 116, 59]⟩] 9 rfl
            have e : (wr.alloc (.cells #[.int .i64 1, .string nm, .slice sa at'.length sc, .string tx, .bool sf] 35)).heap.size = wr.heap.size + 1 := by simp
            rw [e] at h
            exact h
          have Hc := specSwap tx ⟨#[38, 60, 62]⟩ [ampT, ltT, gtT] (wr.heap.size + 1) 3 3 _ (by omega) (by decide) HTx rfl rfl (by intro t ht; simp [ampT, ltT, gtT] at ht; rcases ht with rfl | rfl | rfl <;> decide)
          have hV : (strB (swapL [38, 60, 62] [ampT, ltT, gtT] tx.data.toList)).size ≤ 6291456 := by
            rw [strB_size]
            have := txtT_len tx.data.toList
            rw [bytes_len] at this
            exact Nat.le_trans this (by omega)
          have HN : Hid (S = (ob ++ strB (swapL [38, 60, 62] [ampT, ltT, gtT] tx.data.toList)).data.toList ++ spellL (bareAt l (k + 1)) (l.drop (k + 1))) := acc_more Hacc.out Hst (by rw [ByteArray.data_append, Array.toList_append, strB_data]; rfl)
          have e3 : (⟨#[38, 60, 62]⟩ : ByteArray).data.toList = [38, 60, 62] := rfl
          rw [e3] at Hc
          generalize strB (swapL [38, 60, 62] [ampT, ltT, gtT] tx.data.toList) = V at *
          clear Hacc Hst HTx
          go_wp2_with fail
          refine Hb.mono ?_
          rintro e w1 ⟨rfl, rfl⟩
          go_wp2_with fail
          refine Hc.mono ?_
          rintro e w2 ⟨rfl, b2⟩
          have b3 : Below w.heap.size w w2 := (hb1.alloc hb1.size _).trans (b2.mono (Nat.le_trans hb1.size (by simp)))
          clear Hb Hc b2 hb1
          go_wp2_with fail
          go_roundw
          case rel => exact ⟨k + 1, _, by omega, by go_num, rfl, HN, b3⟩
          case measure => simp [intOf]; omega
        · rw [hbr, speltT_1b] at Hst
          rw [hbr] at Hb Hacc
          have HN : Hid (S = (ob ++ tx).data.toList ++ spellL (bareAt l (k + 1)) (l.drop (k + 1))) := acc_more Hacc.out Hst (by simp [ByteArray.data_append])
          clear Hacc Hst
          go_wp2_with fail
          refine Hb.mono ?_
          rintro e w1 ⟨rfl, rfl⟩
          go_wp2_with fail
          go_roundw
          case rel => exact ⟨k + 1, _, by omega, by go_num, rfl, HN, hb1⟩
          case measure => simp [intOf]; omega
      · have g1 : (kd == 1) = false := by simp [h1]
        by_cases h2 : kd = 2
        · subst h2
          have Hc := Htag (wr.alloc (.cells #[.int .i64 2, .string nm, .slice sa at'.length sc, .string tx, .bool sf] 35)) ⟨sa, sc, rfl, hSA.below ((Below.refl _ _).alloc (Nat.le_refl _) _)⟩
          have hV : (strB (taggedL (2, nm, at', tx, sf))).size ≤ 16777216 := by rw [strB_size]; exact htl
          have HN : Hid (S = (ob ++ strB (taggedL (2, nm, at', tx, sf))).data.toList ++ spellL (bareAt l (k + 1)) (l.drop (k + 1))) := acc_more Hacc.out Hst (by rw [ByteArray.data_append, Array.toList_append, strB_data]; rfl)
          have hb1 : Below w.heap.size w (wr.alloc (.cells #[.int .i64 2, .string nm, .slice sa at'.length sc, .string tx, .bool sf] 35)) := hbel.alloc hbs _
          generalize strB (taggedL (2, nm, at', tx, sf)) = V at *
          clear Hacc Hst Htag
          go_wp2_with fail
          refine Hc.mono ?_
          rintro e w2 ⟨rfl, b2⟩
          have b3 : Below w.heap.size w w2 := hb1.trans (b2.mono hb1.size)
          clear Hc b2 hb1
          go_wp2_with fail
          go_roundw
          case rel => exact ⟨k + 1, _, by omega, by go_num, rfl, HN, b3⟩
          case measure => simp [intOf]; omega
        · have g2 : (kd == 2) = false := by simp [h2]
          by_cases h3 : kd = 3
          · subst h3
            clear Htag
            have HN : Hid (S = (((ob ++ ⟨#[60, 47]⟩) ++ nm) ++ ⟨#[62]⟩).data.toList ++ spellL (bareAt l (k + 1)) (l.drop (k + 1))) := acc_more Hacc.out Hst (by simp [ByteArray.data_append, speltT])
            have hb1 : Below w.heap.size w (wr.alloc (.cells #[.int .i64 3, .string nm, .slice sa at'.length sc, .string tx, .bool sf] 35)) := hbel.alloc hbs _
            clear Hacc Hst
            go_wp2_with fail
            go_roundw
            case rel => exact ⟨k + 1, _, by omega, by go_num, rfl, HN, hb1⟩
            case measure => simp [intOf]; omega
          · have g3 : (kd == 3) = false := by simp [h3]
            by_cases h4 : kd = 4
            · subst h4
              clear Htag
              have HN : Hid (S = (((ob ++ ⟨#[60, 33, 45, 45]⟩) ++ tx) ++ ⟨#[45, 45, 62]⟩).data.toList ++ spellL (bareAt l (k + 1)) (l.drop (k + 1))) := acc_more Hacc.out Hst (by simp [ByteArray.data_append, speltT])
              have hb1 : Below w.heap.size w (wr.alloc (.cells #[.int .i64 4, .string nm, .slice sa at'.length sc, .string tx, .bool sf] 35)) := hbel.alloc hbs _
              clear Hacc Hst
              go_wp2_with fail
              go_roundw
              case rel => exact ⟨k + 1, _, by omega, by go_num, rfl, HN, hb1⟩
              case measure => simp [intOf]; omega
            · have g4 : (kd == 4) = false := by simp [h4]
              by_cases h5 : kd = 5
              · subst h5
                clear Htag
                have HN : Hid (S = (((ob ++ ⟨#[60, 33, 100, 111, 99, 116, 121, 112, 101, 32]⟩) ++ tx) ++ ⟨#[62]⟩).data.toList ++ spellL (bareAt l (k + 1)) (l.drop (k + 1))) := acc_more Hacc.out Hst (by simp [ByteArray.data_append, speltT])
                have hb1 : Below w.heap.size w (wr.alloc (.cells #[.int .i64 5, .string nm, .slice sa at'.length sc, .string tx, .bool sf] 35)) := hbel.alloc hbs _
                clear Hacc Hst
                go_wp2_with fail
                go_roundw
                case rel => exact ⟨k + 1, _, by omega, by go_num, rfl, HN, hb1⟩
                case measure => simp [intOf]; omega
              · have g5 : (kd == 5) = false := by simp [h5]
                rw [speltT_no h1 h2 h3 h4 h5, List.nil_append] at Hst
                have HN : Hid (S = ob.data.toList ++ spellL (bareAt l (k + 1)) (l.drop (k + 1))) := Hacc.out.trans (by rw [Hst])
                have hb1 : Below w.heap.size w (wr.alloc (.cells #[.int .i64 kd, .string nm, .slice sa at'.length sc, .string tx, .bool sf] 35)) := hbel.alloc hbs _
                clear Hacc Hst Htag
                go_wp2_with fail
                go_roundw
                case rel => exact ⟨k + 1, _, by omega, by go_num, rfl, HN, hb1⟩
                case measure => simp [intOf]; omega
    · have hkn : k = n := by omega
      subst hkn
      have he : spellL (bareAt l k) (l.drop k) = [] := by
        rw [← Hl.out]
        exact spellL_end l _
      have g2 : decide ((k : Int) < (k : Int)) = false := by simp
      have Hn : Hid (ob = strB S) := by
        apply ba_eq
        rw [strB_data, Hacc.out, he, List.append_nil]
      clear Hacc he
      go_wp2
      go_ret
      exact ⟨ret_s Hn.out, hbel⟩

end Go.Proofs.YtfdigdemoeepoaaDoor.Sg
