/- Contract of the program's DocOk. -/
import Derived.Test.YtbmmghkieolpkaaGreatDoorMR2118
namespace Go.Proofs.YtbmmghkieolpkaaGreatDoor.Sg
open Go.ChangeShapes Go.WideShapes Go.ChangeAt Go.RowKit

set_option maxHeartbeats 2000000 in
theorem implNotOk (z : ElB) (lo : Nat) (v : Value) (w : World) (hx : ElV (QA lo) (lo ≤ ·) w v z) (hsm : ElSmall z) (hN : elN z ≤ 1099511627776) (hT : StLib w) :
    Calls Tryz.prog 58 #[v] w fun r w' => r = .returned (.bool (!strictE z)) ∧ Below w.heap.size w w' := by
  have HX := fun W (hW : Below w.heap.size w W) => implElOk z lo v W (hx.keep (QA.lies _) hW) hsm hN (hT.below hW)
  have es : (decide (elD z ≤ 60) && okE z) = strictE z := rfl
  rw [es] at HX
  obtain ⟨c0, c1, c2, c3a, c3n, c3c, c4, c5a, c5n, c5c, rfl⟩ : ∃ c0 c1 c2 c3a c3n c3c c4 c5a c5n c5c, v = .agg #[.int .i64 c0, .int .i64 c1, .string c2, .slice c3a c3n c3c, .string c4, .slice c5a c5n c5c] := by
    obtain ⟨kd, sp, nm, ats, tx, ks⟩ := z
    obtain ⟨av, ka, kc, e, ⟨xa, xc, rfl, _⟩, _⟩ := hx
    exact ⟨_, _, _, _, _, _, _, _, _, _, e⟩
  have hb0 : Below w.heap.size w (w.alloc (.cells #[.int .i64 c0, .int .i64 c1, .string c2, .slice c3a c3n c3c, .string c4, .slice c5a c5n c5c] 25)) := (Below.refl w.heap.size w).alloc (Nat.le_refl _) _
  have H0 := HX _ hb0
  generalize strictE z = s at *
  clear hx hsm hT HX es
  go_enter Tryz.func58, Tryz.ntmps58
  go_wp2_with fail
  refine H0.mono ?_
  rintro e w1 ⟨rfl, b1⟩
  have B1 : Hid (Below w.heap.size w w1) := hb0.trans (b1.mono hb0.size)
  clear H0 b1 hb0
  go_wp2_with fail
  go_ret
  exact ⟨rfl, B1.out⟩

theorem all_step (l : List ElB) (k : Nat) (h : k < l.length) : (l.drop k).all strictE = (strictE (l[k]'h) && (l.drop (k + 1)).all strictE) := by
  rw [List.drop_eq_getElem_cons h, List.all_cons]

set_option maxRecDepth 20000 in
set_option maxHeartbeats 4000000 in
theorem implElIndex (l : List ElB) (lo : Nat) (a : Option Addr) (cap : Nat) (w : World) (hk : KidsIn (QA lo) (lo ≤ ·) w a l) (hs : ElsSmall l) (hN : elsN l ≤ 1099511627776) (hT : StLib w) :
    Calls Tryz.prog 86 #[.slice a l.length cap, .func (.func 58) #[] #[]] w fun e w' => (∃ z : Int, e = .returned (.int .i64 z) ∧ decide (0 ≤ z) = !l.all strictE) ∧ Below w.heap.size w w' := by
  have HK : Hid (KidsIn (QA lo) (lo ≤ ·) w a l) := hk
  have HS : Hid (ElsSmall l) := hs
  have HT : Hid (StLib w) := hT
  have hlen : l.length ≤ 1099511627776 := by have := elsN_len l; omega
  obtain ⟨R, HR⟩ : ∃ R, Hid ((l.drop 0).all strictE = R) := ⟨_, rfl⟩
  have HR0 : l.all strictE = R := HR.out
  rw [HR0]
  clear hk hs hT HR0
  go_enter Tryz.func86, Tryz.ntmps86
  go_wp2_with fail
  go_loopw [5, 8] (fun _ iv wr => ∃ k : Nat, k ≤ l.length ∧ iv = .int .i64 (k : Int) ∧ Hid ((l.drop k).all strictE = R) ∧ Hid (Below w.heap.size w wr)) (fun _ iv _ => l.length - (intOf iv).toNat)
  case atStart => exact ⟨0, Nat.zero_le _, rfl, HR, Below.refl _ _⟩
  case round =>
    clear HR
    obtain ⟨k, hk, rfl, HR, HB⟩ := hrel
    have k0 : (0 : Int) ≤ (k : Int) := by omega
    by_cases hlt : k < l.length
    · have k1 : (k : Int) < (l.length : Int) := by omega
      rcases HK.out.keep (QA.lies _) HB.out with h | ⟨b, off, rfl, _, hc⟩
      · omega
      obtain ⟨v1, v2, v3, v4, v5, c0, c1, c2, c3, c4, c5, hV⟩ := (hc.get k hlt).cellsK
      have hNk := elsN_get l k hlt
      have HI := implNotOk _ lo _ wr hV (HS.out.get _ (List.getElem_mem hlt)) (by omega) (HT.out.below HB.out)
      have Hs := all_step l k hlt
      rw [HR.out] at Hs
      clear hc hV hNk
      generalize strictE (l[k]'hlt) = s at *
      generalize kindE (l[k]'hlt) = kk at *
      cases s
      · have Hf : Hid (R = false) := by show _ = _; rw [Hs]; rfl
        clear Hs HR
        go_wp2_with fail
        refine HI.mono ?_
        rintro e w1 ⟨rfl, b1⟩
        have B1 : Hid (Below w.heap.size w w1) := HB.out.trans (b1.mono HB.out.size)
        clear HI b1 HB c0 c1 c2 c3 c4 c5
        go_wp2_with fail
        go_ret
        exact ⟨⟨_, rfl, by rw [Hf.out]; simp⟩, B1.out⟩
      · have HR2 : Hid ((l.drop (k + 1)).all strictE = R) := by show _ = _; rw [Hs]; rfl
        clear Hs HR
        go_wp2_with fail
        refine HI.mono ?_
        rintro e w1 ⟨rfl, b1⟩
        have B1 : Hid (Below w.heap.size w w1) := HB.out.trans (b1.mono HB.out.size)
        clear HI b1 HB c0 c1 c2 c3 c4 c5
        go_wp2_with fail
        go_roundw
        case rel => exact ⟨k + 1, by omega, by go_num, HR2, B1⟩
        case measure => simp [intOf]; omega
    · have hkl : k = l.length := by omega
      subst hkl
      have g1 : decide ((l.length : Int) < (l.length : Int)) = false := by simp
      have Hf : Hid (R = true) := by show _ = _; rw [← HR.out, List.drop_length]; rfl
      clear HR
      go_wp2_with fail
      go_ret
      exact ⟨⟨_, rfl, by rw [Hf.out]; simp⟩, HB.out⟩

set_option maxHeartbeats 1000000 in
theorem implElContains (l : List ElB) (lo : Nat) (a : Option Addr) (cap : Nat) (w : World) (hk : KidsIn (QA lo) (lo ≤ ·) w a l) (hs : ElsSmall l) (hN : elsN l ≤ 1099511627776) (hT : StLib w) :
    Calls Tryz.prog 61 #[.slice a l.length cap, .func (.func 58) #[] #[]] w fun e w' => e = .returned (.bool (!l.all strictE)) ∧ Below w.heap.size w w' := by
  have HI := implElIndex l lo a cap w hk hs hN hT
  generalize (!l.all strictE) = R at *
  clear hk hs hT
  go_enter Tryz.func61, Tryz.ntmps61
  go_wp2_with fail
  refine HI.mono ?_
  rintro e w1 ⟨⟨z, rfl, hz⟩, b1⟩
  clear HI
  go_wp2_with fail
  go_ret
  exact ⟨rfl, b1⟩

set_option maxRecDepth 20000 in
set_option maxHeartbeats 4000000 in
theorem implDocOk (l : List ElB) (lo : Nat) (a : Option Addr) (cap : Nat) (w : World) (hk : KidsIn (QA lo) (lo ≤ ·) w a l) (hs : ElsSmall l) (hN : elsN l ≤ 1099511627776) (hT : StLib w) :
    Calls Tryz.prog 35 #[.slice a l.length cap] w fun r w' => r = .returned (.bool (docF 0 0 l)) ∧ Below w.heap.size w w' := by
  have hlen : l.length ≤ 1099511627776 := by have := elsN_len l; omega
  have H1 := implFewEls l lo a cap w hk hN
  have H2 : Hid (∀ W, Below w.heap.size w W → Calls Tryz.prog 60 #[.slice a l.length cap] W fun e w' => e = .returned (.bool (tagsF 0 l)) ∧ Below W.heap.size W w') := fun W hW => implTagAmongNotes l lo a cap W (hk.keep (QA.lies _) hW) hlen
  have H3 : Hid (∀ W, Below w.heap.size w W → Calls Tryz.prog 61 #[.slice a l.length cap, .func (.func 58) #[] #[]] W fun e w' => e = .returned (.bool (!l.all strictE)) ∧ Below W.heap.size W w') := fun W hW => implElContains l lo a cap W (hk.keep (QA.lies _) hW) hs hN (hT.below hW)
  have Hd : Hid (docF 0 0 l = (decide (elsN l ≤ 3000) && (tagsF 0 l && l.all strictE))) := by show _ = _; rw [docF_parts, Nat.zero_add]
  generalize docF 0 0 l = R at *
  generalize decide (elsN l ≤ 3000) = d1 at *
  generalize tagsF 0 l = d2 at *
  generalize l.all strictE = d3 at *
  clear hk hs hT
  cases d1
  · have Hf : Hid (R = false) := Hd.out
    clear Hd H2 H3
    go_enter Tryz.func35, Tryz.ntmps35
    go_wp2_with fail
    refine H1.mono ?_
    rintro e w1 ⟨rfl, b1⟩
    clear H1
    go_wp2_with fail
    go_ret
    exact ⟨ret_bool Hf.out.symm, b1⟩
  cases d2
  · have Hf : Hid (R = false) := Hd.out
    clear Hd H3
    go_enter Tryz.func35, Tryz.ntmps35
    go_wp2_with fail
    refine H1.mono ?_
    rintro e w1 ⟨rfl, b1⟩
    have K2 := H2.out w1 b1
    clear H1 H2
    go_wp2_with fail
    refine K2.mono ?_
    rintro e w2 ⟨rfl, b2⟩
    clear K2
    go_wp2_with fail
    go_ret
    exact ⟨ret_bool Hf.out.symm, b1.trans (b2.mono b1.size)⟩
  · have Hf : Hid (R = d3) := Hd.out
    clear Hd
    go_enter Tryz.func35, Tryz.ntmps35
    go_wp2_with fail
    refine H1.mono ?_
    rintro e w1 ⟨rfl, b1⟩
    have K2 := H2.out w1 b1
    clear H1 H2
    go_wp2_with fail
    refine K2.mono ?_
    rintro e w2 ⟨rfl, b2⟩
    have b12 := b1.trans (b2.mono b1.size)
    have K3 := H3.out w2 b12
    clear K2 H3
    go_wp2_with fail
    refine K3.mono ?_
    rintro e w3 ⟨rfl, b3⟩
    clear K3
    go_wp2_with fail
    go_ret
    exact ⟨by rw [Hf.out]; cases d3 <;> rfl, b12.trans (b3.mono b12.size)⟩

end Go.Proofs.YtbmmghkieolpkaaGreatDoor.Sg
