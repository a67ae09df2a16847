/- Contract of the program's tag. Written by mk_rqtag.py. -/
import Derived.Test.YtbmmghkieolpkaaGreatDoorRqKids
namespace Go.Proofs.YtbmmghkieolpkaaGreatDoor.Sg
open Go.ChangeShapes Go.WideShapes Go.ChangeAt Go.RowKit

set_option maxRecDepth 20000 in
set_option maxHeartbeats 16000000 in
theorem implTagS (a : Addr) (p : Nat) (s : ByteArray) (m d k : Nat) (about deep : Int) (w : World) (hdeep : deep + (d : Int) = 61) (hd : d ≤ 60) (hk : k ≤ s.size) (hm : s.size < m + 1 + k) (hs : s.size ≤ 1048576) (h : Rq a p s (k : Int) w)
    (IH : ∀ (d' k' : Nat) (ab' dp' : Int) (W : World), dp' + (d' : Int) = 61 → d' ≤ 60 → k' ≤ s.size → s.size < m + k' → Rq a p s (k' : Int) W → Calls Tryz.prog 22 #[.pointer (some ⟨p, 0, none⟩), .int .i64 ab', .int .i64 dp'] W (fun e w' => GotE a p s m (elQ s m d' k' ab') W e w')) :
    Calls Tryz.prog 22 #[.pointer (some ⟨p, 0, none⟩), .int .i64 about, .int .i64 deep] w (fun e w' => GotE a p s (m + 1) (elQ s (m + 1) d k about) w e w') := by
  have HIH : Hid (∀ (d' k' : Nat) (ab' dp' : Int) (W : World), dp' + (d' : Int) = 61 → d' ≤ 60 → k' ≤ s.size → s.size < m + k' → Rq a p s (k' : Int) W → Calls Tryz.prog 22 #[.pointer (some ⟨p, 0, none⟩), .int .i64 ab', .int .i64 dp'] W (fun e w' => GotE a p s m (elQ s m d' k' ab') W e w')) := IH
  obtain ⟨o, Ho⟩ : ∃ o, Hid (o = elQ s (m + 1) d k about) := ⟨_, rfl⟩
  rw [← Ho.out]
  have hp := h.1.lt
  have bA := (Below.refl w.heap.size w).alloc (Nat.le_refl _) (.cells #[.int .i64 0, .int .i64 0, .string ⟨#[]⟩, .slice none 0 0, .string ⟨#[]⟩, .slice none 0 0] 25)
  have H0 : Hid (Rq a p s (k : Int) (w.alloc (.cells #[.int .i64 0, .int .i64 0, .string ⟨#[]⟩, .slice none 0 0, .string ⟨#[]⟩, .slice none 0 0] 25))) := h.keep bA
  have HF0 : Hid (Fr p w (w.alloc (.cells #[.int .i64 0, .int .i64 0, .string ⟨#[]⟩, .slice none 0 0, .string ⟨#[]⟩, .slice none 0 0] 25))) := Fr.of_below bA
  have HM0 : Hid (Many 6 (w.alloc (.cells #[.int .i64 0, .int .i64 0, .string ⟨#[]⟩, .slice none 0 0, .string ⟨#[]⟩, .slice none 0 0] 25)) w.heap.size (fun i => zero6L.getD i undef)) := Many.new w zero6L 25 undef
  unfold GotE
  clear h IH bA
  go_enter Tryz.func22, Tryz.ntmps22
  go_upto_region 1 with fail
  generalize w.alloc (.cells #[.int .i64 0, .int .i64 0, .string ⟨#[]⟩, .slice none 0 0, .string ⟨#[]⟩, .slice none 0 0] 25) = w1 at *
  by_cases hd0 : d = 0
  · have g0 : decide (deep ≤ 60) = false := decide_eq_false (by omega)
    have hE := H0.out.2.x.1.2
    have Hn : Hid (o = none) := by
      show _ = _
      rw [Ho.out]
      rw [elQ, if_pos (.inr hd0)]
    clear HM0 H0
    go_wp2_with fail
    refine (must_no a _ hE).mono ?_
    rintro e w2 ⟨rfl, rfl⟩
    go_wp2_with fail
    exact ⟨rfl, .inr ⟨Hn.out, rfl⟩, HF0.out⟩
  have g0 : decide (deep ≤ 60) = true := decide_eq_true (by omega)
  have q1 : IntKind.i64.wrap (deep + 1) = deep + 1 := IntWalk.i64_in _ (by omega)
  go_wp2_with fail
  refine (must_yes _).mono ?_
  rintro e w1' ⟨rfl, rfl⟩
  clear g0
  cases hb : standsB s k ltS
  · have HW := want_no a p s ltS k _ H0.out hk hb
    have Hn : Hid (o = none) := by
      show _ = _
      rw [Ho.out]
      rw [elQ, if_pos (.inl hb)]
    clear HM0 H0
    go_wp2_with fail
    refine HW.mono ?_
    rintro e w2 ⟨rfl, F2⟩
    have HF2 : Hid (Fr p w w2) := HF0.out.trans F2
    clear HW F2
    go_wp2_with fail
    exact ⟨rfl, .inr ⟨Hn.out, rfl⟩, HF2.out⟩
  have hk1 := stands_le hb
  have u1 : ltS.size = 1 := rfl
  rw [u1] at hk1
  have HW := want_yes a p s ltS k _ H0.out hk (by omega) (by rw [u1]; omega) hb
  rw [u1] at HW
  have Ho2 : Hid (o = if (xnS s ((k + 1 : Nat) : Int)).size = 0 then none else match attrsQ s about (xnI s ((k + 1 : Nat) : Int)).toNat with
      | none => none
      | some r =>
        if standsB s r.2.2 slashGt = true then some (.mk 1 r.2.1 (xnS s ((k + 1 : Nat) : Int)) r.1 ⟨#[]⟩ [], r.2.2 + 2)
        else if standsB s r.2.2 gtS = false then none
        else match kidsL s (fun q => elQ s m (d - 1) q r.2.1) (s.size + 1) (r.2.2 + 1) with
          | none => none
          | some k1 => if standsB s k1.2 (ltSlash ++ xnS s ((k + 1 : Nat) : Int) ++ gtS) = true then some (.mk 1 r.2.1 (xnS s ((k + 1 : Nat) : Int)) r.1 ⟨#[]⟩ k1.1, k1.2 + (ltSlash ++ xnS s ((k + 1 : Nat) : Int) ++ gtS).size) else none) := by
    have hno : ¬ (standsB s k ltS = false ∨ d = 0) := by
      rintro (h | h)
      · rw [hb] at h
        cases h
      · exact hd0 h
    show _ = _
    rw [Ho.out, elQ]
    exact if_neg hno
  clear Ho hb
  go_wp2_with fail
  refine HW.mono ?_
  rintro e w2 ⟨rfl, R2, F2⟩
  have HF2 : Hid (Fr p w w2) := HF0.out.trans F2
  have HM2 : Hid (Many 6 w2 w.heap.size _) := HM0.out.fr F2 (by omega)
  have HN := implName a p s (k + 1) w2 R2 (by omega)
  clear HW H0 HF0 HM0 R2 F2
  obtain ⟨j1, ej1, hj1, hj2, hj3⟩ := xnI_le (s := s) (k := k + 1) hk1
  have et : (xnI s ((k + 1 : Nat) : Int)).toNat = j1 := by omega
  rw [et] at Ho2
  rw [ej1] at HN
  clear ej1 et
  generalize xnS s ((k + 1 : Nat) : Int) = xn at *
  go_wp2_with fail
  refine HN.mono ?_
  rintro e w3 ⟨hcase, F3⟩
  have HF3 : Hid (Fr p w w3) := HF2.out.trans F3
  have HM3 : Hid (Many 6 w3 w.heap.size _) := HM2.out.fr F3 (by omega)
  clear HN HF2 HM2 F3
  rcases hcase with ⟨hn, rfl, R3⟩ | ⟨hn, rfl⟩
  case inr =>
    have Hn : Hid (o = none) := by
      show _ = _
      rw [Ho2.out, if_pos hn]
    clear HM3
    go_wp2_with fail
    exact ⟨rfl, .inr ⟨Hn.out, rfl⟩, HF3.out⟩
  have Ho3 : Hid (o = match attrsQ s about j1 with
      | none => none
      | some r =>
        if standsB s r.2.2 slashGt = true then some (.mk 1 r.2.1 xn r.1 ⟨#[]⟩ [], r.2.2 + 2)
        else if standsB s r.2.2 gtS = false then none
        else match kidsL s (fun q => elQ s m (d - 1) q r.2.1) (s.size + 1) (r.2.2 + 1) with
          | none => none
          | some k1 => if standsB s k1.2 (ltSlash ++ xn ++ gtS) = true then some (.mk 1 r.2.1 xn r.1 ⟨#[]⟩ k1.1, k1.2 + (ltSlash ++ xn ++ gtS).size) else none) := by
    show _ = _
    rw [Ho2.out, if_neg hn]
  have bB := (Below.refl w3.heap.size w3).alloc (Nat.le_refl _) (.cells #[.int .i64 1, .int .i64 0, .string xn, .slice none 0 0, .string ⟨#[]⟩, .slice none 0 0] 25)
  have HT4 : Hid (TagW a p s w (w3.alloc (.cells #[.int .i64 1, .int .i64 0, .string xn, .slice none 0 0, .string ⟨#[]⟩, .slice none 0 0] 25)) (j1 : Int) w3.heap.size [.int .i64 1, .int .i64 0, .string xn, .slice none 0 0, .string ⟨#[]⟩, .slice none 0 0]) := ⟨R3.keep bB, HF3.out.trans (Fr.of_below bB), HM3.out.below HM3.out.1 bB, Many.new w3 [.int .i64 1, .int .i64 0, .string xn, .slice none 0 0, .string ⟨#[]⟩, .slice none 0 0] 25 undef, HM3.out.1, hp⟩
  have hc4 : w3.heap.size + 1 ≤ (w3.alloc (.cells #[.int .i64 1, .int .i64 0, .string xn, .slice none 0 0, .string ⟨#[]⟩, .slice none 0 0] 25)).heap.size := by simp
  clear Ho2 R3 HF3 HM3 bB hn
  go_upto_region 4 with fail
  generalize (w3.alloc (.cells #[.int .i64 1, .int .i64 0, .string xn, .slice none 0 0, .string ⟨#[]⟩, .slice none 0 0] 25)) = w4 at *
  generalize w3.heap.size = c at *
  have HA := implAttrsR a p s j1 w4 HT4.out.q hj2 hs
  go_wp2_with fail
  refine HA.mono ?_
  rintro e w5 ⟨hcase, F5⟩
  clear HA
  rcases hcase with ⟨l, j, v, ha, rfl, hl, hjj, hj, O5, R5⟩ | ⟨ha, rfl⟩
  case inr =>
    have Hn : Hid (o = none) := by
      show _ = _
      rw [Ho3.out, attrsQ_eq, ha]
    have HF5 := HT4.out.f.trans F5
    have HFh : Hid (Fr p w w5) := HF5
    clear HT4 F5 HF5
    go_wp2_with fail
    exact ⟨rfl, .inr ⟨Hn.out, rfl⟩, HFh.out⟩
  have HT5 : Hid (TagW a p s w w5 (j : Int) c [.int .i64 1, .int .i64 0, .string xn, .slice none 0 0, .string ⟨#[]⟩, .slice none 0 0]) := HT4.out.fr F5 R5
  have hc5 : c + 1 ≤ w5.heap.size := Nat.le_trans hc4 F5.size
  have hE5 := R5.2.x.1.2
  obtain ⟨x, cx, ev, hat⟩ := attrs_of_own O5
  subst ev
  have HO5 : Hid (w5.ownsRow w4.heap.size 73 2 (.slice x l.length cx) l.length (attrCells l)) := O5
  have HS := implSpaceTold l about x cx a w5 hat (by omega) hE5
  have Ho4 : Hid (o = match (toldX about l).map fun sp => (besideA l, sp, j) with
      | none => none
      | some r =>
        if standsB s r.2.2 slashGt = true then some (.mk 1 r.2.1 xn r.1 ⟨#[]⟩ [], r.2.2 + 2)
        else if standsB s r.2.2 gtS = false then none
        else match kidsL s (fun q => elQ s m (d - 1) q r.2.1) (s.size + 1) (r.2.2 + 1) with
          | none => none
          | some k1 => if standsB s k1.2 (ltSlash ++ xn ++ gtS) = true then some (.mk 1 r.2.1 xn r.1 ⟨#[]⟩ k1.1, k1.2 + (ltSlash ++ xn ++ gtS).size) else none) := by
    show _ = _
    rw [Ho3.out, attrsQ_eq, ha]
  clear Ho3 HT4 F5 R5 O5 hat hE5 ha hc4
  go_wp2_with fail
  refine HS.mono ?_
  rintro e w6 ⟨hcase, b6⟩
  have HT6 : Hid (TagW a p s w w6 (j : Int) c [.int .i64 1, .int .i64 0, .string xn, .slice none 0 0, .string ⟨#[]⟩, .slice none 0 0]) := HT5.out.below b6
  have hc6 : c + 1 ≤ w6.heap.size := Nat.le_trans hc5 b6.size
  have HO6 : Hid (w6.ownsRow w4.heap.size 73 2 (.slice x l.length cx) l.length (attrCells l)) := owns_below HO5.out (Nat.le_refl _) b6
  clear HS HT5 HO5 b6 hc5
  rcases hcase with ⟨sp, hsp, rfl⟩ | ⟨hsp, rfl⟩
  case inr =>
    have Hn : Hid (o = none) := by
      show _ = _
      rw [Ho4.out, hsp]
      rfl
    have HFh : Hid (Fr p w w6) := HT6.out.f
    clear HT6
    go_wp2_with fail
    exact ⟨rfl, .inr ⟨Hn.out, rfl⟩, HFh.out⟩
  have Ho5 : Hid (o = if standsB s j slashGt = true then some (.mk 1 sp xn (besideA l) ⟨#[]⟩ [], j + 2)
        else if standsB s j gtS = false then none
        else match kidsL s (fun q => elQ s m (d - 1) q sp) (s.size + 1) (j + 1) with
          | none => none
          | some k1 => if standsB s k1.2 (ltSlash ++ xn ++ gtS) = true then some (.mk 1 sp xn (besideA l) ⟨#[]⟩ k1.1, k1.2 + (ltSlash ++ xn ++ gtS).size) else none) := by
    show _ = _
    rw [Ho4.out, hsp]
    rfl
  obtain ⟨x', cx', ev, hat⟩ := attrs_of_own HO6.out
  cases ev
  have HB := implBeside l x cx w6 hat (by omega)
  clear Ho4 hsp hat HO6
  go_wp2_with fail
  refine HB.mono ?_
  rintro e w7 ⟨v7, rfl, O7, b7⟩
  obtain ⟨xb, xc, ev, _⟩ := attrs_of_own O7
  subst ev
  have T7 := HT6.out.below b7
  have O7' := own_mono O7 hc6
  have y1 := (T7.m1.2 1 (by decide)).1
  have y3 := (T7.m1.2 3 (by decide)).1
  have z1 := (T7.m1.2 1 (by decide)).2
  have z3 := (T7.m1.2 3 (by decide)).2
  simp at y1 y3
  have HT8 : Hid (TagW a p s w ((w7.setCell ⟨c, 1, none⟩ (.int .i64 sp)).setCell ⟨c, 3, none⟩ (.slice xb (besideA l).length xc)) (j : Int) c [.int .i64 1, .int .i64 sp, .string xn, .slice xb (besideA l).length xc, .string ⟨#[]⟩, .slice none 0 0]) := (T7.put 1 (.int .i64 sp) (by simp)).put 3 (.slice xb (besideA l).length xc) (by simp)
  have HO8 : Hid (((w7.setCell ⟨c, 1, none⟩ (.int .i64 sp)).setCell ⟨c, 3, none⟩ (.slice xb (besideA l).length xc)).ownsRow (c + 1) 73 2 (.slice xb (besideA l).length xc) (besideA l).length (attrCells (besideA l))) := owns_setC (owns_setC O7' (Nat.lt_succ_self c)) (Nat.lt_succ_self c)
  clear HB HT6 hc6 T7 O7 O7' b7
  go_upto_region 6 with fail
  generalize (w7.setCell ⟨c, 1, none⟩ (.int .i64 sp)).setCell ⟨c, 3, none⟩ (.slice xb (besideA l).length xc) = w8 at *
  clear y1 y3 z1 z3
  cases hsl : standsB s j slashGt
  case true =>
    have h2 := stands_le hsl
    have u2 : slashGt.size = 2 := rfl
    have HK := takes_yes a p s slashGt j w8 HT8.out.q hj (by omega) (by rw [u2]; omega) hsl
    rw [u2] at HK
    have Hov : Hid (o = some (.mk 1 sp xn (besideA l) ⟨#[]⟩ [], j + 2)) := by
      show _ = _
      rw [Ho5.out, if_pos hsl]
    clear Ho5
    go_wp2_with fail
    refine HK.mono ?_
    rintro e w9 ⟨rfl, R9, F9⟩
    have HT : Hid (TagW a p s w w9 ((j + 2 : Nat) : Int) c [.int .i64 1, .int .i64 sp, .string xn, .slice xb (besideA l).length xc, .string ⟨#[]⟩, .slice none 0 0]) := HT8.out.fr F9 R9
    have HE : Hid (ElNew w9 (c + 1) (m + 1) (.mk 1 sp xn (besideA l) ⟨#[]⟩ []) (.agg #[.int .i64 1, .int .i64 sp, .string xn, .slice xb (besideA l).length xc, .string ⟨#[]⟩, .slice none 0 0])) := ElNew.bareTag (F9.owns (by have := HT.out.p; have := HT.out.lt; omega) HO8.out)
    clear HK HT8 HO8 R9 F9
    have X := HT.out.m0
    have Y := HT.out.m1
    have y0 := (Y.2 0 (by decide)).1
    have y1 := (Y.2 1 (by decide)).1
    have y2 := (Y.2 2 (by decide)).1
    have y3 := (Y.2 3 (by decide)).1
    have y4 := (Y.2 4 (by decide)).1
    have y5 := (Y.2 5 (by decide)).1
    have r0 := (X.2 0 (by decide)).1
    have r1 := (X.2 1 (by decide)).1
    have r2 := (X.2 2 (by decide)).1
    have r3 := (X.2 3 (by decide)).1
    have r4 := (X.2 4 (by decide)).1
    have r5 := (X.2 5 (by decide)).1
    have s0 := (X.2 0 (by decide)).2
    have s1 := (X.2 1 (by decide)).2
    have s2 := (X.2 2 (by decide)).2
    have s3 := (X.2 3 (by decide)).2
    have s4 := (X.2 4 (by decide)).2
    have s5 := (X.2 5 (by decide)).2
    simp at y0 y1 y2 y3 y4 y5 r0 r1 r2 r3 r4 r5
    have HFIN : Hid _ := el_done HT.out.p HT.out.q HT.out.f HT.out.m0 HE.out (Nat.lt_succ_of_lt HT.out.lt)
    clear X Y HT HE
    go_wp2_with fail
    refine bodyPost_ret (v := .agg #[.int .i64 1, .int .i64 sp, .string xn, .slice xb (besideA l).length xc, .string ⟨#[]⟩, .slice none 0 0]) ?_ rfl ⟨.inl ⟨_, _, _, Hov.out, rfl, HFIN.out.2.1, HFIN.out.2.2.1⟩, HFIN.out.2.2.2⟩
    have T := HFIN.out.1
    have t0 := (T.2 0 (by decide)).1
    have t1 := (T.2 1 (by decide)).1
    have t2 := (T.2 2 (by decide)).1
    have t3 := (T.2 3 (by decide)).1
    have t4 := (T.2 4 (by decide)).1
    have t5 := (T.2 5 (by decide)).1
    simp at t0 t1 t2 t3 t4 t5
    simp [results, Tryz.results22, go_sem, t0, t1, t2, t3, t4, t5]
  have HK := takes_no a p s slashGt j w8 HT8.out.q hj hsl
  have Ho6 : Hid (o = if standsB s j gtS = false then none
        else match kidsL s (fun q => elQ s m (d - 1) q sp) (s.size + 1) (j + 1) with
          | none => none
          | some k1 => if standsB s k1.2 (ltSlash ++ xn ++ gtS) = true then some (.mk 1 sp xn (besideA l) ⟨#[]⟩ k1.1, k1.2 + (ltSlash ++ xn ++ gtS).size) else none) := by
    show _ = _
    rw [Ho5.out, hsl, if_neg (by decide)]
  clear Ho5 hsl
  go_wp2_with fail
  refine HK.mono ?_
  rintro e w9 ⟨rfl, R9, F9⟩
  have HT9 : Hid (TagW a p s w w9 (j : Int) c [.int .i64 1, .int .i64 sp, .string xn, .slice xb (besideA l).length xc, .string ⟨#[]⟩, .slice none 0 0]) := HT8.out.fr F9 R9
  have HO9 : Hid (w9.ownsRow (c + 1) 73 2 (.slice xb (besideA l).length xc) (besideA l).length (attrCells (besideA l))) := F9.owns (by have := HT9.out.p; have := HT9.out.lt; omega) HO8.out
  clear HK HT8 HO8 R9 F9
  cases hgt : standsB s j gtS
  case false =>
    have HW := want_no a p s gtS j _ HT9.out.q hj hgt
    have Hn : Hid (o = none) := by
      show _ = _
      rw [Ho6.out, if_pos hgt]
    go_wp2_with fail
    refine HW.mono ?_
    rintro e w10 ⟨rfl, F10⟩
    have HFh : Hid (Fr p w w10) := HT9.out.f.trans F10
    clear HW HT9 F10
    go_wp2_with fail
    exact ⟨rfl, .inr ⟨Hn.out, rfl⟩, HFh.out⟩
  have hgj := stands_le hgt
  have u3 : gtS.size = 1 := rfl
  rw [u3] at hgj
  have HW := want_yes a p s gtS j _ HT9.out.q hj (by omega) (by rw [u3]; omega) hgt
  rw [u3] at HW
  obtain ⟨K, HKv⟩ : ∃ K, Hid (K = kidsL s (fun q => elQ s m (d - 1) q sp) (s.size + 1) (j + 1)) := ⟨_, rfl⟩
  have Ho7 : Hid (o = match (generalizing := false) K with
          | none => none
          | some k1 => if standsB s k1.2 (ltSlash ++ xn ++ gtS) = true then some (.mk 1 sp xn (besideA l) ⟨#[]⟩ k1.1, k1.2 + (ltSlash ++ xn ++ gtS).size) else none) := by
    show _ = _
    rw [Ho6.out, hgt, if_neg (by decide), HKv.out]
  clear Ho6 hgt
  go_wp2_with fail
  refine HW.mono ?_
  rintro e w10 ⟨rfl, R10, F10⟩
  have HT10 : Hid (TagW a p s w w10 ((j + 1 : Nat) : Int) c [.int .i64 1, .int .i64 sp, .string xn, .slice xb (besideA l).length xc, .string ⟨#[]⟩, .slice none 0 0]) := HT9.out.fr F10 R10
  have HO10 : Hid (w10.ownsRow (c + 1) 73 2 (.slice xb (besideA l).length xc) (besideA l).length (attrCells (besideA l))) := F10.owns (by have := HT10.out.p; have := HT10.out.lt; omega) HO9.out
  have hc10 : c + 1 ≤ w10.heap.size := HT10.out.m1.1
  have HK := implKids a p s (j + 1) m sp (deep + 1) (fun q => elQ s m (d - 1) q sp) w10 R10 hgj hs (elQ_size s m (d - 1) sp) (fun q W hq1 hq2 hW => HIH.out (d - 1) q sp (deep + 1) W (by omega) (by omega) (by omega) (by omega) hW)
  rw [← HKv.out] at HK
  have y1 := (HT10.out.m1.2 1 (by decide)).1
  simp at y1
  unfold GotK at HK
  clear HW HT9 HO9 R10 F10 HKv HIH
  go_wp2_with fail
  refine HK.mono ?_
  rintro e w11 ⟨hcase, F11⟩
  have hlav : ∀ b, (Value.slice xb (besideA l).length xc).ownBlock = some b → b < w10.heap.size := fun b hb => (own_since HO10.out hb).2
  clear HK y1
  rcases hcase with ⟨lk, j3, v, C, Fs, rfl, hrow, hj4, hj5, R11, hKK⟩ | ⟨hKn, rfl⟩
  case inr =>
    have Hn : Hid (o = none) := by
      show _ = _
      rw [Ho7.out, hKn]
    have HFh : Hid (Fr p w w11) := HT10.out.f.trans F11
    clear HT10 HO10 F11
    go_wp2_with fail
    exact ⟨rfl, .inr ⟨Hn.out, rfl⟩, HFh.out⟩
  obtain ⟨gk, ck, ev⟩ := hrow.form
  subst ev
  have T11 := HT10.out.fr F11 R11
  have O11 := F11.owns (by have := T11.p; have := T11.lt; omega) HO10.out
  have y5 := (T11.m1.2 5 (by decide)).1
  have z5 := (T11.m1.2 5 (by decide)).2
  simp at y5
  have HT12 : Hid (TagW a p s w (w11.setCell ⟨c, 5, none⟩ (.slice gk lk.length ck)) (j3 : Int) c [.int .i64 1, .int .i64 sp, .string xn, .slice xb (besideA l).length xc, .string ⟨#[]⟩, .slice gk lk.length ck]) := T11.put 5 (.slice gk lk.length ck) (by simp)
  have HE12 : Hid (ElNew (w11.setCell ⟨c, 5, none⟩ (.slice gk lk.length ck)) (c + 1) (m + 1) (.mk 1 sp xn (besideA l) ⟨#[]⟩ lk) (.agg #[.int .i64 1, .int .i64 sp, .string xn, .slice xb (besideA l).length xc, .string ⟨#[]⟩, .slice gk lk.length ck])) := ElNew.tag (owns_setC O11 (Nat.lt_succ_self c)) hlav hc10 (hrow.set (by omega))
  clear HT10 HO10 F11 R11 hrow T11 O11 hlav hc10
  go_upto_region 10 with fail
  generalize w11.setCell ⟨c, 5, none⟩ (.slice gk lk.length ck) = w12 at *
  clear y5 z5
  have y2 := (HT12.out.m1.2 2 (by decide)).1
  simp at y2
  have hxn : xn.size ≤ s.size := by omega
  have t1 : ¬ 9223372036854775807 < 2 + xn.size := by omega
  have t2 : ¬ 9223372036854775807 < 2 + xn.size + 1 := by omega
  have u4 : (ltSlash ++ xn ++ gtS).size = 2 + xn.size + 1 := by
    simp only [ByteArray.size_append]
    rfl
  cases hcl : standsB s j3 (ltSlash ++ xn ++ gtS)
  case false =>
    have HW := want_no a p s (ltSlash ++ xn ++ gtS) j3 _ HT12.out.q hj5 hcl
    have Hn : Hid (o = none) := by
      show _ = _
      rw [Ho7.out]
      rcases hKK with hK | ⟨hK, _⟩
      · rw [hK]
        simp only
        rw [hcl]
        rfl
      · rw [hK]
    unfold ltSlash gtS at HW
    have HFh : Hid (∀ X, Fr p w12 X → Fr p w X) := fun X hX => HT12.out.f.trans hX
    clear Ho7 hKK HE12 HT12
    go_wp2_with fail
    refine HW.mono ?_
    rintro e w13 ⟨rfl, F13⟩
    have HFg : Hid (Fr p w w13) := HFh.out _ F13
    clear HW F13
    go_wp2_with fail
    exact ⟨rfl, .inr ⟨Hn.out, rfl⟩, HFg.out⟩
  have HW := want_yes a p s (ltSlash ++ xn ++ gtS) j3 _ HT12.out.q hj5 (by omega) (by rw [u4]; omega) hcl
  have Hov : Hid (o = some (.mk 1 sp xn (besideA l) ⟨#[]⟩ lk, j3 + (ltSlash ++ xn ++ gtS).size)) := by
    show _ = _
    rw [Ho7.out]
    rcases hKK with hK | ⟨_, hK⟩
    · rw [hK]
      simp only
      rw [if_pos hcl]
    · have := stands_le hcl
      omega
  clear Ho7 hKK
  generalize hcz : j3 + (ltSlash ++ xn ++ gtS).size = j4 at *
  unfold ltSlash gtS at HW
  clear hcl u4 hcz
  go_wp2_with fail
  refine HW.mono ?_
  rintro e w13 ⟨rfl, R13, F13⟩
  have HT : Hid (TagW a p s w w13 (j4 : Int) c [.int .i64 1, .int .i64 sp, .string xn, .slice xb (besideA l).length xc, .string ⟨#[]⟩, .slice gk lk.length ck]) := HT12.out.fr F13 R13
  have HE : Hid (ElNew w13 (c + 1) (m + 1) (.mk 1 sp xn (besideA l) ⟨#[]⟩ lk) (.agg #[.int .i64 1, .int .i64 sp, .string xn, .slice xb (besideA l).length xc, .string ⟨#[]⟩, .slice gk lk.length ck])) := HE12.out.keep F13.size (fun b hb => F13.block b hb.2 (by have := HT.out.p; have := HT.out.lt; have := hb.1; omega))
  clear HW HT12 HE12 R13 F13 y2 t1 t2
  have X := HT.out.m0
  have Y := HT.out.m1
  have y0 := (Y.2 0 (by decide)).1
  have y1 := (Y.2 1 (by decide)).1
  have y2 := (Y.2 2 (by decide)).1
  have y3 := (Y.2 3 (by decide)).1
  have y4 := (Y.2 4 (by decide)).1
  have y5 := (Y.2 5 (by decide)).1
  have r0 := (X.2 0 (by decide)).1
  have r1 := (X.2 1 (by decide)).1
  have r2 := (X.2 2 (by decide)).1
  have r3 := (X.2 3 (by decide)).1
  have r4 := (X.2 4 (by decide)).1
  have r5 := (X.2 5 (by decide)).1
  have s0 := (X.2 0 (by decide)).2
  have s1 := (X.2 1 (by decide)).2
  have s2 := (X.2 2 (by decide)).2
  have s3 := (X.2 3 (by decide)).2
  have s4 := (X.2 4 (by decide)).2
  have s5 := (X.2 5 (by decide)).2
  simp at y0 y1 y2 y3 y4 y5 r0 r1 r2 r3 r4 r5
  have HFIN : Hid _ := el_done HT.out.p HT.out.q HT.out.f HT.out.m0 HE.out (Nat.lt_succ_of_lt HT.out.lt)
  clear X Y HT HE
  go_wp2_with fail
  refine bodyPost_ret (v := .agg #[.int .i64 1, .int .i64 sp, .string xn, .slice xb (besideA l).length xc, .string ⟨#[]⟩, .slice gk lk.length ck]) ?_ rfl ⟨.inl ⟨_, _, _, Hov.out, rfl, HFIN.out.2.1, HFIN.out.2.2.1⟩, HFIN.out.2.2.2⟩
  have T := HFIN.out.1
  have t0 := (T.2 0 (by decide)).1
  have t1 := (T.2 1 (by decide)).1
  have t2 := (T.2 2 (by decide)).1
  have t3 := (T.2 3 (by decide)).1
  have t4 := (T.2 4 (by decide)).1
  have t5 := (T.2 5 (by decide)).1
  simp at t0 t1 t2 t3 t4 t5
  simp [results, Tryz.results22, go_sem, t0, t1, t2, t3, t4, t5]

theorem implTag (a : Addr) (p : Nat) (s : ByteArray) (hs : s.size ≤ 1048576) : ∀ (m d k : Nat) (about deep : Int) (w : World), deep + (d : Int) = 61 → d ≤ 60 → k ≤ s.size → s.size < m + k → Rq a p s (k : Int) w →
    Calls Tryz.prog 22 #[.pointer (some ⟨p, 0, none⟩), .int .i64 about, .int .i64 deep] w (fun e w' => GotE a p s m (elQ s m d k about) w e w')
  | 0, d, k, about, deep, w, h1, h2, h3, h4, h => by omega
  | m + 1, d, k, about, deep, w, h1, h2, h3, h4, h => implTagS a p s m d k about deep w h1 h2 h3 h4 hs h (fun d' k' ab' dp' W g1 g2 g3 g4 g => implTag a p s hs m d' k' ab' dp' W g1 g2 g3 g4 g)

end Go.Proofs.YtbmmghkieolpkaaGreatDoor.Sg
