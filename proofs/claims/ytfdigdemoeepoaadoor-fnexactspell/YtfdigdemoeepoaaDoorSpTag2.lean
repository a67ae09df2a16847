/- Contract of the model's l5Tagged. -/
import Derived.Test.YtfdigdemoeepoaaDoorSpTag
import Derived.Deep.CutRange
import Derived.Deep.RegionHeld3
namespace Go.Proofs.YtfdigdemoeepoaaDoor.Sg
open Go.ChangeShapes Go.WideShapes Go.ChangeAt Go.RowKit

theorem ba_eq {a b : ByteArray} (h : a.data.toList = b.data.toList) : a = b := by
  cases a; cases b
  simpa using h
theorem ret_s {a b : ByteArray} (h : a = b) : Ending.returned (.string a) = .returned (.string b) := by rw [h]
theorem strB_data (l : List UInt8) : (strB l).data.toList = l := by simp [strB]
/-- One attribute of a slice of attributes. -/
theorem AttrsAt.get {w : World} {a : Option Addr} {l : List AttrB} (h : AttrsAt w a l) (k : Nat) (hk : k < l.length) : ∃ b, a = some ⟨b, 0, none⟩ ∧ w.cell? ⟨b, k * 2, none⟩ = some (.string (l[k]'hk).1) ∧ w.cell? ⟨b, k * 2 + 1, none⟩ = some (.string (l[k]'hk).2) := by
  rcases h with h | ⟨b, h1, _, h3⟩
  · rw [h] at hk
    exact absurd hk (Nat.not_lt_zero _)
  · have h4 := h3 k hk
    simp only [List.getD, List.getElem?_eq_getElem hk, Option.getD_some] at h4
    exact ⟨b, h1, h4⟩

theorem attr_out (o x v : ByteArray) : (((((o ++ ⟨#[32]⟩) ++ x) ++ ⟨#[61, 34]⟩) ++ strB (valT v.data.toList)) ++ ⟨#[34]⟩).data.toList = o.data.toList ++ attrT (x, v) := by
  simp [ByteArray.data_append, strB, attrT]

theorem taggedL_len (t : TokB) (h : tokW t ≤ 1048576) : (taggedL t).length ≤ 16777216 := by
  have h2 := attrsT_len t.2.2.1
  have h3 := bytes_len t.2.1
  unfold tokW at h
  unfold taggedL closeT
  rw [List.length_cons, List.length_append, List.length_append, h3]
  split <;> simp <;> omega

set_option maxRecDepth 20000 in
set_option maxHeartbeats 8000000 in
theorem specTagged (t : TokB) (sv : Value) (w : World) (hS : SlAttrs w sv t.2.2.1) (hw : tokW t ≤ 1048576) :
    Calls Tryd.prog 12 #[.agg #[.int .i64 t.1, .string t.2.1, sv, .string t.2.2.2.1, .bool t.2.2.2.2]] w fun e w' => e = .returned (.string (strB (taggedL t))) ∧ Below w.heap.size w w' := by
  have hTl := taggedL_len t hw
  obtain ⟨kd, nm, at', tx, sf⟩ := t
  obtain ⟨a, cap, rfl, hA⟩ := hS
  simp only at hA ⊢
  have HA : Hid (AttrsAt w a at') := hA
  have hnm : nm.size ≤ 1048576 := by unfold tokW at hw; simp only at hw; omega
  have hn : at'.length ≤ 1048576 := by unfold tokW attrsW at hw; simp only at hw; omega
  have Hv : Hid (∀ p ∈ at', p.1.size + p.2.size ≤ 1048576) := fun p hp => by
    have := attrW_le hp
    unfold tokW at hw
    unfold attrW at this
    simp only at hw
    omega
  have Ht : Hid (taggedL (kd, nm, at', tx, sf) = ((⟨#[60]⟩ : ByteArray) ++ nm).data.toList ++ attrsT (at'.drop 0) ++ closeT sf) := by
    show _ = _
    unfold taggedL
    simp [ByteArray.data_append]
  generalize hT : taggedL (kd, nm, at', tx, sf) = T at *
  clear hT hA hw
  obtain ⟨n, Hl⟩ : ∃ n, Hid (at'.length = n) := ⟨_, rfl⟩
  rw [Hl.out] at hn ⊢
  go_enter Tryd.func12, Tryd.ntmps12
  go_wp2
  go_loopw [3, 4] (fun o i wr => ∃ (k : Nat) (ob : ByteArray), k ≤ n ∧ i = .int .i64 k ∧ o = .string ob ∧ Hid (T = ob.data.toList ++ attrsT (at'.drop k) ++ closeT sf) ∧ wr.heap[w.heap.size]? = some (.cells #[.int .i64 kd, .string nm, .slice a n cap, .string tx, .bool sf] 35) ∧ Below w.heap.size w wr) (fun _ i _ => n - (intOf i).toNat)
  case atStart => exact ⟨0, _, Nat.zero_le _, rfl, rfl, Ht, (by show (w.heap.push _)[w.heap.size]? = _; simp), (Below.refl _ _).alloc (Nat.le_refl _) _⟩
  case round =>
    obtain ⟨k, ob, hk, rfl, rfl, Hacc, hbox, hbel⟩ := hrel
    have hob : ob.size ≤ 16777216 := by
      have := congrArg List.length Hacc.out
      rw [List.length_append, List.length_append, bytes_len] at this
      omega
    have hbs : w.heap.size < wr.heap.size := (Array.getElem?_eq_some_iff.1 hbox).1
    have d2 : wr.cell? ⟨w.heap.size, 2, none⟩ = some (.slice a n cap) := by simp [World.cell?, hbox]
    have d4 : wr.cell? ⟨w.heap.size, 4, none⟩ = some (.bool sf) := by simp [World.cell?, hbox]
    by_cases hlt : k < n
    · have hkl : k < at'.length := by rw [Hl.out]; exact hlt
      obtain ⟨b, rfl, c0, c1⟩ := (HA.out.below hbel).get k hkl
      have hp := Hv.out _ (List.getElem_mem hkl)
      have Hst := attrsT_step at' k hkl
      generalize at'[k]'hkl = p at *
      clear hkl
      obtain ⟨x, v⟩ := p
      simp only at c0 c1 hp
      have k0 : (0 : Int) ≤ (k : Int) := by omega
      have k1 : (k : Int) < (n : Int) := by omega
      have Hsw : Hid (∀ (W : World) (g : Nat), Texts W g [ampT, quotT] → Calls Tryd.prog 11 #[.string v, .string ⟨#[38, 34]⟩, .slice (some ⟨g, 0, none⟩) 2 2] W fun e w' => e = .returned (.string (strB (valT v.data.toList))) ∧ Below W.heap.size W w') := fun W g hT => specSwap v ⟨#[38, 34]⟩ [ampT, quotT] g 2 2 W (by omega) (by decide) hT rfl rfl (by intro t ht; simp [ampT, quotT] at ht; rcases ht with rfl | rfl <;> decide)
      have hV : (strB (valT v.data.toList)).size ≤ 6291456 := by
        rw [strB_size]
        have := valT_len v.data.toList
        rw [bytes_len] at this
        omega
      have Hout := attr_out ob x v
      generalize strB (valT v.data.toList) = V at *
      have HB : Hid (∀ wx : World, Below wr.heap.size wr wx → Below w.heap.size w wx) := fun wx h => hbel.trans (h.mono hbel.size)
      have HTx : Texts (wr.alloc (.cells #[.string ⟨#[38, 97, 109, 112, 59]⟩, .string ⟨#[38, 113, 117, 111, 116, 59]⟩] 9)).drew wr.heap.size [ampT, quotT] := Texts.laid wr [ampT, quotT] _ 9 rfl
      have Hc := Hsw.out _ _ HTx
      have hbl : b < wr.heap.size := by
        rcases Nat.lt_or_ge b wr.heap.size with g | g
        · exact g
        · simp [World.cell?, Array.getElem?_eq_none g] at c0
      have z2 : (wr.alloc (.cells #[.string ⟨#[38, 97, 109, 112, 59]⟩, .string ⟨#[38, 113, 117, 111, 116, 59]⟩] 9)).drew.cell? ⟨w.heap.size, 2, none⟩ = some (.slice (some ⟨b, 0, none⟩) n cap) := (((Below.refl wr.heap.size wr).alloc (Nat.le_refl _) _).drew.cell hbs).trans d2
      have z0 : (wr.alloc (.cells #[.string ⟨#[38, 97, 109, 112, 59]⟩, .string ⟨#[38, 113, 117, 111, 116, 59]⟩] 9)).drew.cell? ⟨b, k * 2, none⟩ = some (.string x) := (((Below.refl wr.heap.size wr).alloc (Nat.le_refl _) _).drew.cell hbl).trans c0
      have z1 : (wr.alloc (.cells #[.string ⟨#[38, 97, 109, 112, 59]⟩, .string ⟨#[38, 113, 117, 111, 116, 59]⟩] 9)).drew.cell? ⟨b, k * 2 + 1, none⟩ = some (.string v) := (((Below.refl wr.heap.size wr).alloc (Nat.le_refl _) _).drew.cell hbl).trans c1
      clear HTx Hsw
      have s1 : ¬ 9223372036854775807 < ob.size + 1 := by omega
      have s2 : ¬ 9223372036854775807 < ob.size + 1 + x.size := by omega
      have s3 : ¬ 9223372036854775807 < ob.size + 1 + x.size + 2 := by omega
      have s4 : ¬ 9223372036854775807 < ob.size + 1 + x.size + 2 + V.size := by omega
      have s5 : ¬ 9223372036854775807 < ob.size + 1 + x.size + 2 + V.size + 1 := by omega
      have HN : Hid (T = (((((ob ++ ⟨#[32]⟩) ++ x) ++ ⟨#[61, 34]⟩) ++ V) ++ ⟨#[34]⟩).data.toList ++ attrsT (at'.drop (k + 1)) ++ closeT sf) := by
        show _ = _
        rw [Hacc.out, Hst, Hout, List.append_assoc, List.append_assoc, List.append_assoc, List.append_assoc]
      have HB2 : Hid (∀ wx : World, Below (wr.alloc (.cells #[.string ⟨#[38, 97, 109, 112, 59]⟩, .string ⟨#[38, 113, 117, 111, 116, 59]⟩] 9)).drew.heap.size (wr.alloc (.cells #[.string ⟨#[38, 97, 109, 112, 59]⟩, .string ⟨#[38, 113, 117, 111, 116, 59]⟩] 9)).drew wx → Below w.heap.size w wx ∧ wx.heap[w.heap.size]? = some (.cells #[.int .i64 kd, .string nm, .slice (some ⟨b, 0, none⟩) n cap, .string tx, .bool sf] 35)) := fun wx h => by
        have h1 : Below wr.heap.size wr wx := ((Below.refl wr.heap.size wr).alloc (Nat.le_refl _) _).drew.trans (h.mono (by show wr.heap.size ≤ (wr.heap.push _).size; simp))
        exact ⟨HB.out _ h1, (h1.block _ hbs).trans hbox⟩
      clear Hacc Hst Hout HB hbox
      go_upto_region 5 with fail
      go_region_held3 (fun w' => w'.cell? ⟨w.heap.size, 2, none⟩ = some (.slice (some ⟨b, 0, none⟩) n cap) ∧ w'.cell? ⟨b, k * 2, none⟩ = some (.string x) ∧ w'.cell? ⟨b, k * 2 + 1, none⟩ = some (.string v)) (first | exact ⟨d2, c0, c1⟩ | exact ⟨z2, z0, z1⟩ | go_keep | (go_split_ands; exact ⟨keep_cell hb' (by assumption), keep_cell hb' (by assumption), keep_cell hb' (by assumption)⟩)) (first | (go_at_call 11; refine Hc.mono ?_; rintro e w' ⟨rfl, hb'⟩))
      obtain ⟨b2, x2⟩ := HB2.out _ hb'
      clear HB2 hb' Hc z0 z1 z2 d2 d4 c0 c1
      go_wp2_with fail
      go_roundw
      case rel => exact ⟨k + 1, _, by omega, by go_num, rfl, HN, x2, b2⟩
      case measure => simp [intOf]; omega
    · have hkn : k = n := by omega
      subst hkn
      have he : attrsT (at'.drop k) = [] := by
        rw [List.drop_of_length_le (by rw [Hl.out]; exact Nat.le_refl _)]
        rfl
      have g2 : decide ((k : Int) < (k : Int)) = false := by simp
      cases sf
      · have Hn : Hid (ob ++ ⟨#[62]⟩ = strB T) := by
          apply ba_eq
          rw [Hacc.out, he, strB_data]
          simp [ByteArray.data_append, closeT]
        clear Hacc he
        go_wp2
        go_ret
        exact ⟨ret_s Hn.out, hbel⟩
      · have Hn : Hid (ob ++ ⟨#[47, 62]⟩ = strB T) := by
          apply ba_eq
          rw [Hacc.out, he, strB_data]
          simp [ByteArray.data_append, closeT]
        clear Hacc he
        go_wp2
        go_ret
        exact ⟨ret_s Hn.out, hbel⟩

end Go.Proofs.YtfdigdemoeepoaaDoor.Sg
