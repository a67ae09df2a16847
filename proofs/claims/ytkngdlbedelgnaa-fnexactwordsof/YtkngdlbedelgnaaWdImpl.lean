/- Contract of the program's WordsOf: rows wait in a list. -/
import Derived.Test.YtkngdlbedelgnaaWdMem
import Derived.Test.YtkngdlbedelgnaaRwSeq
import Derived.Deep.RegionHeld3
import Derived.Deep.AppendLies
namespace Go.Proofs.Ytkngdlbedelgnaa.Sg
open Go.ChangeShapes Go.WideShapes Go.ChangeAt Go.RowKit Go.Shelf

theorem info_els : (Try.prog.info? 25).map (fun i => (i.zero, i.size, i.bytes)) = some (some (.slice none 0 0), 1, 24) := by kernel_rfl

/-- What holds within a round: the row's beginning is written. -/
structure WdK (n₁ b : Nat) (w : World) (Tot : List UInt8) (st : List RowW) (r : RowW) (k : Nat) (v : Value) (acc : List UInt8) (wr : World) : Prop where
  own : wr.ownsRow n₁ 25 1 v st.length (rowWs st)
  rows : ∀ q ∈ st, RowAt (· < n₁) wr q
  row : RowAt (· < n₁) wr r
  bld : Bl n₁ b acc wr
  tot : acc ++ ((wordsL (r.els.drop k)).data.toList ++ waitW st) = Tot
  bel : Below n₁ w wr
theorem WdK.lay {n₁ b : Nat} {w wr : World} {Tot acc : List UInt8} {st : List RowW} {r : RowW} {k : Nat} {v : Value} (h : WdK n₁ b w Tot st r k v acc wr) (hn : n₁ = w.heap.size) : n₁ ≤ wr.heap.size := by rw [hn]; exact h.bel.size
theorem WdK.step {n₁ b : Nat} {w wr wr' : World} {Tot acc acc' : List UInt8} {st : List RowW} {r : RowW} {k : Nat} {v : Value} (h : WdK n₁ b w Tot st r k v acc wr) (hk : Kp n₁ b wr wr') (hB : Bl n₁ b acc' wr') (ht : acc' ++ ((wordsL (r.els.drop (k + 1))).data.toList ++ waitW st) = Tot) : WdK n₁ b w Tot st r (k + 1) v acc' wr' :=
  ⟨hk.lists h.bld h.own, fun q hq => (h.rows q hq).agree (fun b hb => hk.bel.block b hb) hk.size, h.row.agree (fun b hb => hk.bel.block b hb) hk.size, hB, ht, h.bel.trans hk.bel⟩

set_option maxRecDepth 100000 in
set_option maxHeartbeats 8000000 in
theorem implWordsOf (z : List ElB) (lo n : Nat) (x : Option Addr) (w : World) (hx : KidsIn (QA lo) (lo ≤ ·) w x z) (hc : CapK (lo ≤ ·) w x z) (hn : z.length ≤ n) (hN : elsN z ≤ 1099511627776) (hT : (wordsL z).size ≤ 1099511627776) :
    Calls Try.prog 7 #[.slice x z.length n] w fun e w' => e = .returned (.string (wordsL z)) ∧ Below w.heap.size w w' := by
  obtain ⟨i0, hi, hz0, hz1, hz2⟩ := info_parts info_els
  have hr0 := rowAt_of hx hc hn
  obtain ⟨Tot, HT⟩ : ∃ Tot, Hid ((wordsL z).data.toList = Tot) := ⟨_, rfl⟩
  have HTl : Hid (Tot.length ≤ 1099511627776) := by
    show _ ≤ _
    rw [← HT.out]
    exact hT
  have HW : Hid (wordsL z = ⟨Tot.toArray⟩) := by
    show _ = _
    rw [← HT.out]
  have bA := (Below.refl w.heap.size w).alloc (Nat.le_refl _) (.cells #[.pointer none, .slice none 0 0] 40)
  have hBl : Bl w.heap.size w.heap.size [] (w.alloc (.cells #[.pointer none, .slice none 0 0] 40)) := Lib.IsBuilderF.of (Lib.fresh_isBuilder 40 5 w)
  have bB := (Below.refl (w.alloc (.cells #[.pointer none, .slice none 0 0] 40)).heap.size (w.alloc (.cells #[.pointer none, .slice none 0 0] 40))).alloc (Nat.le_refl _) (.cells #[.slice x z.length n] 25)
  have hs1 : (w.alloc (.cells #[.pointer none, .slice none 0 0] 40)).heap.size = w.heap.size + 1 := by simp
  have hb0 : Below w.heap.size w ((w.alloc (.cells #[.pointer none, .slice none 0 0] 40)).alloc (.cells #[.slice x z.length n] 25)) := bA.trans (bB.mono (by rw [hs1]; omega))
  have HI0 : Hid (WdI w.heap.size w.heap.size w Tot (elsN z + 1) (.slice (some ⟨w.heap.size + 1, 0, none⟩) 1 1) ((w.alloc (.cells #[.pointer none, .slice none 0 0] 40)).alloc (.cells #[.slice x z.length n] 25)) (2 * elsN z + 1)) := by
    refine ⟨[⟨x, n, z⟩], [], ?_, ?_, by simp [waitN], by simp [waitN], hBl.below bB, by simp [waitW, HT.out], hb0⟩
    · have h1 := World.alloc_heap_new (w.alloc (.cells #[.pointer none, .slice none 0 0] 40)) (.cells #[.slice x z.length n] 25)
      rw [hs1] at h1
      exact ⟨rfl, .inr ⟨_, _, _, rfl, by omega, h1, Nat.le_refl _, by decide, rfl, rfl⟩⟩
    · intro r hr
      simp only [List.mem_singleton] at hr
      subst hr
      exact hr0.agree (fun b hb => hb0.block b hb) hb0.size
  obtain ⟨μ, hμ⟩ := least_of (fun (s : Value × World) m => WdI w.heap.size w.heap.size w Tot (elsN z + 1) s.1 s.2 m)
  have Hμ : Hid (∀ s m, WdI w.heap.size w.heap.size w Tot (elsN z + 1) s.1 s.2 m → WdI w.heap.size w.heap.size w Tot (elsN z + 1) s.1 s.2 (μ s) ∧ μ s ≤ m) := hμ
  rw [HW.out]
  have hzl := elsN_len z
  clear hμ hx hc hr0 HT hT HW bA bB hBl hs1 hb0
  go_enter Try.func7, Try.ntmps7
  go_wp2_with fail
  generalize ((w.alloc (.cells #[.pointer none, .slice none 0 0] 40)).alloc (.cells #[.slice x z.length n] 25)) = W1 at *
  obtain ⟨N, HNz⟩ : ∃ N, Hid (elsN z = N) := ⟨_, rfl⟩
  rw [HNz.out] at hN HI0 Hμ
  clear HNz hzl
  generalize hn1 : w.heap.size = n₁ at *
  go_loopw [4] (fun v wr => ∃ m, Hid (WdI n₁ n₁ w Tot (N + 1) v wr m)) (fun v wr => μ (v, wr))
  case atStart => exact ⟨_, HI0⟩
  case round =>
    clear HI0
    obtain ⟨m, hm⟩ := hrel
    have hm2 : WdI n₁ n₁ w Tot (N + 1) u4 wr (μ (u4, wr)) := (Hμ.out (u4, wr) m hm.out).1
    obtain ⟨M, HM⟩ : ∃ M, Hid (μ (u4, wr) = M) := ⟨_, rfl⟩
    rw [HM.out] at hm2
    clear hm m
    obtain ⟨st0, acc, hO, hR, hw, hwN, hBl, hTo, hBel⟩ := hm2
    have hsz : n₁ ≤ wr.heap.size := by rw [← hn1]; exact hBel.size
    rcases List.eq_nil_or_concat st0 with rfl | ⟨st, r, hst⟩
    · have he : ∃ a c, u4 = .slice a 0 c := by
        rcases hO.2 with ⟨h, _⟩ | ⟨g, c, _, h, _⟩
        · exact ⟨_, _, h⟩
        · exact ⟨_, _, h⟩
      obtain ⟨a, c, rfl⟩ := he
      have HE : Hid (acc = Tot) := by
        show _ = _
        rw [← hTo, show waitW [] = [] from rfl, List.append_nil]
      have HS := Try.Builder_String_any_k n₁ n₁ acc wr hBl hsz
      have HBel : Hid (Below n₁ w wr) := hBel
      clear hO hR hw hwN hBl hTo hBel
      go_wp2_with fail
      refine HS.mono ?_
      rintro e w2 ⟨rfl, _, hb2, _⟩
      have HB2 : Hid (Below n₁ w w2) := HBel.out.trans hb2
      clear HS hb2
      go_wp2_with fail
      go_ret
      exact ⟨congrArg (fun l : List UInt8 => Ending.returned (.string ⟨l.toArray⟩)) HE.out, hn1 ▸ HB2.out⟩
    · rw [List.concat_eq_append] at hst
      subst hst
      obtain ⟨ra, rc, rels⟩ := r
      have hlen : (st ++ [(⟨ra, rc, rels⟩ : RowW)]).length = st.length + 1 := by simp
      rw [hlen] at hO
      obtain ⟨g, cap, rfl⟩ := ownsRow_succ hO
      have e0 := rowWs_last st ⟨ra, rc, rels⟩
      have c0 := (own_cell hO (j := st.length) (by omega)).1.trans e0
      have hO1 := owns_cutn hO (m := st.length) (by omega)
      rw [Nat.mul_one, rowWs_cut] at hO1
      have hcap : st.length + 1 ≤ cap := by
        rcases hO.2 with ⟨h, _⟩ | ⟨g', cap', cur, h, _, _, h5, _⟩
        · cases h
        · cases h
          exact h5
      rw [waitN_snoc, hlen] at hw hwN
      rw [waitW_snoc] at hTo
      simp only at hw hwN hTo c0
      have HK : Hid (WdK n₁ n₁ w Tot st ⟨ra, rc, rels⟩ 0 (.slice (some ⟨g, 0, none⟩) st.length cap) acc wr) :=
        ⟨hO1, fun q hq => hR q (List.mem_append_left _ hq), hR _ (by simp), hBl, by rw [List.drop_zero]; exact hTo, hBel⟩
      have Hw : Hid (2 * (waitN st + elsN rels) + (st.length + 1) = M) := hw
      have HwN : Hid (waitN st + elsN rels + (st.length + 1) ≤ N + 1) := hwN
      have hrl : rels.length ≤ N := by have := elsN_len rels; omega
      have hkN : st.length ≤ N := by omega
      clear hO hR hw hwN hBl hTo hBel hO1 e0 hlen
      generalize hks : st.length = k at *
      have k0 : (0 : Int) ≤ (k : Int) := by omega
      have q0 : IntKind.i64.wrap (((k + 1 : Nat) : Int) - 1) = (k : Int) := by rw [show ((k + 1 : Nat) : Int) - 1 = (k : Int) by omega]; exact IntWalk.i64_in _ (by omega)
      have q1 : IntKind.i64.wrap ((k : Int) + 1 - 1) = (k : Int) := by rw [show (k : Int) + 1 - 1 = (k : Int) by omega]; exact IntWalk.i64_in _ (by omega)
      have q2 : (k : Int) < (k : Int) + 1 := by omega
      have q3 : (0 : Int) < (k : Int) + 1 := by omega
      have q4 : (k : Int) ≤ (cap : Int) := by omega
      go_wp2_with fail
      -- INNER
      go_loopw [4, 7, 8, 26] (fun v _ _ iv wr2 => ∃ (j : Nat) (acc2 : List UInt8), j ≤ rels.length ∧ iv = .int .i64 (j : Int) ∧ v = .slice (some ⟨g, 0, none⟩) k cap ∧ Hid (WdK n₁ n₁ w Tot st ⟨ra, rc, rels⟩ j (.slice (some ⟨g, 0, none⟩) k cap) acc2 wr2)) (fun _ _ _ iv _ => rels.length - (intOf iv).toNat)
      case atStart => exact ⟨0, acc, Nat.zero_le _, rfl, rfl, HK⟩
      case round =>
        clear HK c0
        obtain ⟨j, acc2, hj, rfl, rfl, HK⟩ := hrel
        have j0 : (0 : Int) ≤ (j : Int) := by omega
        have hsz2 : n₁ ≤ wr.heap.size := by rw [← hn1]; exact HK.out.bel.size
        by_cases hlt : j < rels.length
        · have j1 : (j : Int) < (rels.length : Int) := by omega
          obtain ⟨eb, eo, hra, heb, kd, sp, nm, xa, xn, xc, tx, ka, kc, d0, d1, d2, d3, d4, d5, htx, hkid, hrest⟩ := HK.out.row.at j hlt
          have htot := HK.out.tot
          have hcapr := HK.out.row.cap
          simp only at htot hra d0 d1 d2 d3 d4 d5 hrest hcapr htx hkid
          rw [words_at rels j hlt, htx, List.append_assoc, List.append_assoc] at htot
          have hNk := elsN_kid rels j hlt
          generalize kidsE (rels[j]'hlt) = ks at *
          subst hra
          have HKid : Hid (RowAt (· < n₁) wr ⟨ka, kc, ks⟩) := hkid
          have HRest : Hid (RowAt (· < n₁) wr ⟨if rc = j + 1 then some ⟨eb, eo, none⟩ else some ⟨eb, eo + (j + 1) * 6, none⟩, rc - (j + 1), rels.drop (j + 1)⟩) := hrest
          obtain ⟨kn, Hkn⟩ : ∃ kn, Hid (ks.length = kn) := ⟨_, rfl⟩
          rw [Hkn.out] at d5
          have HNk : Hid (elsN (rels.drop j) = elsN ks + 1 + elsN (rels.drop (j + 1))) := hNk
          have heb2 : eb < wr.heap.size := by omega
          clear htx hkid hrest hNk
          have bE := (Below.refl wr.heap.size wr).alloc (Nat.le_refl _) (.cells #[.int .i64 kd, .int .i64 sp, .string nm, .slice xa xn xc, .string tx, .slice ka kn kc] 35)
          have HX1 : Hid ((wr.alloc (.cells #[.int .i64 kd, .int .i64 sp, .string nm, .slice xa xn xc, .string tx, .slice ka kn kc] 35)).heap[wr.heap.size]? = some (.cells #[.int .i64 kd, .int .i64 sp, .string nm, .slice xa xn xc, .string tx, .slice ka kn kc] 35 (0, 0))) := World.alloc_heap_new _ _
          have HK1 : Hid (Kp n₁ n₁ wr (wr.alloc (.cells #[.int .i64 kd, .int .i64 sp, .string nm, .slice xa xn xc, .string tx, .slice ka kn kc] 35))) := Kp.of bE hsz2
          have HB1 : Hid (Bl n₁ n₁ acc2 (wr.alloc (.cells #[.int .i64 kd, .int .i64 sp, .string nm, .slice xa xn xc, .string tx, .slice ka kn kc] 35))) := HK.out.bld.below bE
          have hne1 : wr.heap.size ≠ n₁ := by
            obtain ⟨_, c, hc⟩ := HK.out.bld.block
            have := (Array.getElem?_eq_some_iff.1 hc).1
            omega
          have x0 := cell_in HX1.out 0
          have x4 := cell_in HX1.out 4
          simp at x0 x4
          by_cases hkd : kd = 2
          · subst hkd
            rw [if_pos rfl] at htot
            have g2 : ((2 : Int) == 2) = true := by decide
            have hlens := congrArg List.length htot
            rw [List.length_append, List.length_append] at hlens
            have hTl := HTl.out
            have HWr := writeString n₁ n₁ (Lib.byteCells acc2) tx _ HB1.out (by rw [Lib.byteCells_length]; have h9 : tx.data.toList.length = tx.size := (by simp); omega) (Nat.le_trans hsz2 bE.size)
            have HT2 : Hid ((acc2 ++ tx.data.toList) ++ ((wordsL ks).data.toList ++ ((wordsL (rels.drop (j + 1))).data.toList ++ waitW st)) = Tot) := by
              show _ = _
              rw [← htot]
              simp only [List.append_assoc]
            clear htot hlens hTl
            go_wp2_with fail
            generalize (wr.alloc (.cells #[.int .i64 2, .int .i64 sp, .string nm, .slice xa xn xc, .string tx, .slice ka kn kc] 35)) = w1 at *
            refine HWr.mono ?_
            rintro e w2 ⟨rfl, hI2, hb2, ho2⟩
            have HB2 : Hid (Bl n₁ n₁ (acc2 ++ tx.data.toList) w2) := by
              show Lib.IsBuilderF _ _ _ _ _ _
              rw [byteCells_app]
              exact .inr hI2
            have HK2 : Hid (Kp n₁ n₁ wr w2) := HK1.out.trans ⟨hb2, ho2⟩
            have HX2 : Hid (w2.heap[wr.heap.size]? = some (.cells #[.int .i64 2, .int .i64 sp, .string nm, .slice xa xn xc, .string tx, .slice ka kn kc] 35 (0, 0))) := Kp.obj (B := n₁) (b := n₁) ⟨hb2, ho2⟩ HX1.out (by decide) hne1
            clear HWr hI2 hb2 ho2 HK1 HB1 HX1 x0 x4 bE d0 d1 d2 d3 d4 d5
            generalize (acc2 ++ tx.data.toList) = acc3 at *
            have f5 : w2.cell? ⟨wr.heap.size, 5, none⟩ = some (.slice ka kn kc) := (cell_in HX2.out 5).trans rfl
            by_cases hz : kn = 0
            · have g1 : decide ((kn : Int) > 0) = false := decide_eq_false (by omega)
              have HKn : Hid (WdK n₁ n₁ w Tot st ⟨some ⟨eb, eo, none⟩, rc, rels⟩ (j + 1) (.slice (some ⟨g, 0, none⟩) k cap) acc3 w2) := HK.out.step HK2.out HB2.out (by
                have h := HT2.out
                rw [words_none (Hkn.out.trans hz), List.nil_append] at h
                exact h)
              clear HK HX2 HT2 HB2 HK2
              subst hz
              go_wp2_with fail
              go_roundw
              case rel => exact ⟨j + 1, acc3, by omega, by go_num, rfl, HKn⟩
              case measure => simp [intOf]; omega
            · have g1 : decide ((kn : Int) > 0) = true := decide_eq_true (by omega)
              have g2 : (0 : Int) < (kn : Int) := by omega
              have q5 : IntKind.i64.wrap ((j : Int) + 1) = (j : Int) + 1 := IntWalk.i64_in _ (by omega)
              have q6 : (j : Int) + 1 ≤ (rels.length : Int) := by omega
              have q7 : (0 : Int) ≤ (j : Int) + 1 := by omega
              have q8 : ((j : Int) + 1).toNat = j + 1 := by omega
              have hO2 := HK2.out.lists HK.out.bld HK.out.own
              rw [hks] at hO2
              have hs2 : n₁ ≤ w2.heap.size := Nat.le_trans hsz2 HK2.out.size
              have hbx : wr.heap.size < w2.heap.size := (Array.getElem?_eq_some_iff.1 HX2.out).1
              have hgs := hO2.lt g rfl
              have hng : g ≠ wr.heap.size := fun eg => by
                obtain ⟨_, _, hc⟩ := own_lists hO2 g rfl
                rw [eg, HX2.out] at hc
                injection hc with hc
                injection hc with _ ht _
                exact absurd ht (by decide)
              have h63 : k + 2 ≤ maxLen := by unfold maxLen; omega
              have hbyt : (k + 2) * 24 ≤ 140737488355328 := by omega
              have hln : (rels.drop (j + 1)).length = rels.length - (j + 1) := List.length_drop
              obtain ⟨ra', Hra⟩ : ∃ ra' : Option Addr, Hid ((if rc = j + 1 then some ⟨eb, eo, none⟩ else some ⟨eb, eo + (j + 1) * 6, none⟩) = ra') := ⟨_, rfl⟩
              have hra1 : (if rc = j + 1 then some (⟨eb, eo, none⟩ : Addr) else some ⟨eb, eo + (j + 1) * 6, none⟩) = ra' := Hra.out
              have hone : ∀ y ∈ [Value.slice ra' (rels.length - (j + 1)) (rc - (j + 1)), .slice ka kn kc], y.oneCell' = true := by simp [Value.oneCell']
              have HKid2 : Hid (RowAt (· < n₁) w2 ⟨ka, kc, ks⟩) := HKid.out.agree (fun b hb => HK2.out.bel.block b hb) HK2.out.size
              have HRest2 : Hid (RowAt (· < n₁) w2 ⟨ra', rc - (j + 1), rels.drop (j + 1)⟩) := by
                show RowAt _ _ _
                rw [← hra1]
                exact HRest.out.agree (fun b hb => HK2.out.bel.block b hb) HK2.out.size
              have HRows2 : Hid (∀ q ∈ st, RowAt (· < n₁) w2 q) := fun q hq => (HK.out.rows q hq).agree (fun b hb => HK2.out.bel.block b hb) HK2.out.size
              have HBel2 : Hid (Below n₁ w w2) := HK.out.bel.trans HK2.out.bel
              clear HX2 HK HK2 HKid HRest
              go_wp2_with fail
              go_region_held3 (fun w' => w'.cell? ⟨wr.heap.size, 5, none⟩ = some (.slice ka kn kc))
                (first
                  | go_keep
                  | (rw [hgrow.cell_far _ (by simp; omega) (by simp [Value.ownBlock]; first | exact hng | exact fun e => hng e.symm | exact Ne.symm hng)]; assumption))
                ((refine step_append_lies _ (by rfl) _ _ _ (by rfl) n₁ 25 i0 _ 1 24 Try.underlying41 hi hz0 hz1 hz2 rfl (by omega) (.slice (some ⟨g, 0, none⟩) k cap) k _ (by rfl) ((hO2.alloc _).drew)
                    ⟨w2.heap.size, 0, none⟩ 2 2 [.slice ra' (rels.length - (j + 1)) (rc - (j + 1)), .slice ka kn kc] (by rfl) (by rfl) (World.news_of_block (cs := #[.slice ra' (rels.length - (j + 1)) (rc - (j + 1)), .slice ka kn kc]) (t := 25) (fr := (0, 0)) (heap_alloc_new w2 _)) hone
                    (by omega) h63 hbyt (by simp; omega) (w2.heap.size + 1) (by simp) ?_; intro gg cap6 w7 hown7 hgrow hat hlt7))
              have hO3 := (hO2.alloc (.cells #[.slice ra' (rels.length - (j + 1)) (rc - (j + 1)), .slice ka kn kc] 25)).drew
              have hbA := ((Below.refl w2.heap.size w2).alloc (Nat.le_refl _) (.cells #[.slice ra' (rels.length - (j + 1)) (rc - (j + 1)), .slice ka kn kc] 25)).drew
              have hbW : Below n₁ w2 w7 := grown_below hO3 (((Below.refl n₁ w2).alloc hs2 _).drew) (Nat.le_refl _) hgrow (by simp; omega)
              have HB7 : Bl n₁ n₁ acc3 w7 := (HB2.out.below hbA).grown hgrow (own_lists hO3)
              have HIn : Hid (∃ m, m < M ∧ WdI n₁ n₁ w Tot (N + 1) (.slice (some ⟨gg, 0, none⟩) (k + 2) cap6) w7 m) := by
                have hw := Hw.out
                have hwN := HwN.out
                have hNk := HNk.out
                have hNd := elsN_drop_le rels j
                have hsn : waitN ((st ++ [(⟨ra', rc - (j + 1), rels.drop (j + 1)⟩ : RowW)]) ++ [(⟨ka, kc, ks⟩ : RowW)]) = waitN st + elsN (rels.drop (j + 1)) + elsN ks := by rw [waitN_snoc, waitN_snoc]
                have hl2 : ((st ++ [(⟨ra', rc - (j + 1), rels.drop (j + 1)⟩ : RowW)]) ++ [(⟨ka, kc, ks⟩ : RowW)]).length = k + 2 := by rw [List.length_append, List.length_append, hks]; rfl
                refine ⟨2 * waitN ((st ++ [(⟨ra', rc - (j + 1), rels.drop (j + 1)⟩ : RowW)]) ++ [(⟨ka, kc, ks⟩ : RowW)]) + ((st ++ [(⟨ra', rc - (j + 1), rels.drop (j + 1)⟩ : RowW)]) ++ [(⟨ka, kc, ks⟩ : RowW)]).length, by rw [hsn, hl2]; omega, _, acc3, ?_, ?_, rfl, by rw [hsn, hl2]; omega, HB7, ?_, HBel2.out.trans hbW⟩
                · rw [hl2]
                  have e1 : rowWs ((st ++ [(⟨ra', rc - (j + 1), rels.drop (j + 1)⟩ : RowW)]) ++ [(⟨ka, kc, ks⟩ : RowW)]) = rowWs st ++ [.slice ra' (rels.length - (j + 1)) (rc - (j + 1)), .slice ka kn kc] := by
                    rw [rowWs_append, rowWs_append, List.append_assoc]
                    simp [rowWs, Hkn.out]
                  rw [e1]
                  exact hown7
                · intro q hq
                  rcases List.mem_append.1 hq with hq | hq
                  · rcases List.mem_append.1 hq with hq | hq
                    · exact (HRows2.out q hq).agree (fun b hb => hbW.block b hb) hbW.size
                    · simp only [List.mem_singleton] at hq
                      subst hq
                      exact HRest2.out.agree (fun b hb => hbW.block b hb) hbW.size
                  · simp only [List.mem_singleton] at hq
                    subst hq
                    exact HKid2.out.agree (fun b hb => hbW.block b hb) hbW.size
                · rw [waitW_snoc, waitW_snoc]
                  exact HT2.out
              clear hO3 hbA hbW HB7 hgrow hown7 hat HRows2 HBel2 HKid2 HRest2 HB2 HT2 Hw HwN HNk hO2
              obtain ⟨m', hm', hI'⟩ := HIn.out
              have hlt' : μ (.slice (some ⟨gg, 0, none⟩) (k + 2) cap6, w7) < M := Nat.lt_of_le_of_lt (Hμ.out (.slice (some ⟨gg, 0, none⟩) (k + 2) cap6, w7) m' hI').2 hm'
              go_wp2_with fail
              go_roundw
              case rel => exact ⟨m', hI'⟩
              case measure =>
                show μ (_, _) < μ (_, _)
                rw [HM.out]
                exact hlt'
          · rw [if_neg hkd, List.nil_append] at htot
            have g2 : (kd == 2) = false := by simp [hkd]
            have HT2 : Hid (acc2 ++ ((wordsL ks).data.toList ++ ((wordsL (rels.drop (j + 1))).data.toList ++ waitW st)) = Tot) := htot
            have HK2 := HK1
            have HB2 := HB1
            have HX2 := HX1
            clear htot HK1 HB1 HX1
            have f5 : (wr.alloc (.cells #[.int .i64 kd, .int .i64 sp, .string nm, .slice xa xn xc, .string tx, .slice ka kn kc] 35)).cell? ⟨wr.heap.size, 5, none⟩ = some (.slice ka kn kc) := (cell_in HX2.out 5).trans rfl
            by_cases hz : kn = 0
            · have g1 : decide ((kn : Int) > 0) = false := decide_eq_false (by omega)
              have HKn : Hid (WdK n₁ n₁ w Tot st ⟨some ⟨eb, eo, none⟩, rc, rels⟩ (j + 1) (.slice (some ⟨g, 0, none⟩) k cap) acc2 (wr.alloc (.cells #[.int .i64 kd, .int .i64 sp, .string nm, .slice xa xn xc, .string tx, .slice ka kn kc] 35))) := HK.out.step HK2.out HB2.out (by
                have h := HT2.out
                rw [words_none (Hkn.out.trans hz), List.nil_append] at h
                exact h)
              clear HK HX2 HT2 HB2 HK2
              subst hz
              go_wp2_with fail
              go_roundw
              case rel => exact ⟨j + 1, acc2, by omega, by go_num, rfl, HKn⟩
              case measure => simp [intOf]; omega
            · have g1 : decide ((kn : Int) > 0) = true := decide_eq_true (by omega)
              have g2 : (0 : Int) < (kn : Int) := by omega
              have q5 : IntKind.i64.wrap ((j : Int) + 1) = (j : Int) + 1 := IntWalk.i64_in _ (by omega)
              have q6 : (j : Int) + 1 ≤ (rels.length : Int) := by omega
              have q7 : (0 : Int) ≤ (j : Int) + 1 := by omega
              have q8 : ((j : Int) + 1).toNat = j + 1 := by omega
              have hO2 := HK2.out.lists HK.out.bld HK.out.own
              rw [hks] at hO2
              have hs2 : n₁ ≤ (wr.alloc (.cells #[.int .i64 kd, .int .i64 sp, .string nm, .slice xa xn xc, .string tx, .slice ka kn kc] 35)).heap.size := Nat.le_trans hsz2 HK2.out.size
              have hbx : wr.heap.size < (wr.alloc (.cells #[.int .i64 kd, .int .i64 sp, .string nm, .slice xa xn xc, .string tx, .slice ka kn kc] 35)).heap.size := (Array.getElem?_eq_some_iff.1 HX2.out).1
              have hgs := hO2.lt g rfl
              have hng : g ≠ wr.heap.size := fun eg => by
                obtain ⟨_, _, hc⟩ := own_lists hO2 g rfl
                rw [eg, HX2.out] at hc
                injection hc with hc
                injection hc with _ ht _
                exact absurd ht (by decide)
              have h63 : k + 2 ≤ maxLen := by unfold maxLen; omega
              have hbyt : (k + 2) * 24 ≤ 140737488355328 := by omega
              have hln : (rels.drop (j + 1)).length = rels.length - (j + 1) := List.length_drop
              obtain ⟨ra', Hra⟩ : ∃ ra' : Option Addr, Hid ((if rc = j + 1 then some ⟨eb, eo, none⟩ else some ⟨eb, eo + (j + 1) * 6, none⟩) = ra') := ⟨_, rfl⟩
              have hra1 : (if rc = j + 1 then some (⟨eb, eo, none⟩ : Addr) else some ⟨eb, eo + (j + 1) * 6, none⟩) = ra' := Hra.out
              have hone : ∀ y ∈ [Value.slice ra' (rels.length - (j + 1)) (rc - (j + 1)), .slice ka kn kc], y.oneCell' = true := by simp [Value.oneCell']
              have HKid2 : Hid (RowAt (· < n₁) (wr.alloc (.cells #[.int .i64 kd, .int .i64 sp, .string nm, .slice xa xn xc, .string tx, .slice ka kn kc] 35)) ⟨ka, kc, ks⟩) := HKid.out.agree (fun b hb => HK2.out.bel.block b hb) HK2.out.size
              have HRest2 : Hid (RowAt (· < n₁) (wr.alloc (.cells #[.int .i64 kd, .int .i64 sp, .string nm, .slice xa xn xc, .string tx, .slice ka kn kc] 35)) ⟨ra', rc - (j + 1), rels.drop (j + 1)⟩) := by
                show RowAt _ _ _
                rw [← hra1]
                exact HRest.out.agree (fun b hb => HK2.out.bel.block b hb) HK2.out.size
              have HRows2 : Hid (∀ q ∈ st, RowAt (· < n₁) (wr.alloc (.cells #[.int .i64 kd, .int .i64 sp, .string nm, .slice xa xn xc, .string tx, .slice ka kn kc] 35)) q) := fun q hq => (HK.out.rows q hq).agree (fun b hb => HK2.out.bel.block b hb) HK2.out.size
              have HBel2 : Hid (Below n₁ w (wr.alloc (.cells #[.int .i64 kd, .int .i64 sp, .string nm, .slice xa xn xc, .string tx, .slice ka kn kc] 35))) := HK.out.bel.trans HK2.out.bel
              clear HX2 HK HK2 HKid HRest
              go_wp2_with fail
              generalize (wr.alloc (.cells #[.int .i64 kd, .int .i64 sp, .string nm, .slice xa xn xc, .string tx, .slice ka kn kc] 35)) = w2 at *
              go_region_held3 (fun w' => w'.cell? ⟨wr.heap.size, 5, none⟩ = some (.slice ka kn kc))
                (first
                  | go_keep
                  | (rw [hgrow.cell_far _ (by simp; omega) (by simp [Value.ownBlock]; first | exact hng | exact fun e => hng e.symm | exact Ne.symm hng)]; assumption))
                ((refine step_append_lies _ (by rfl) _ _ _ (by rfl) n₁ 25 i0 _ 1 24 Try.underlying41 hi hz0 hz1 hz2 rfl (by omega) (.slice (some ⟨g, 0, none⟩) k cap) k _ (by rfl) ((hO2.alloc _).drew)
                    ⟨w2.heap.size, 0, none⟩ 2 2 [.slice ra' (rels.length - (j + 1)) (rc - (j + 1)), .slice ka kn kc] (by rfl) (by rfl) (World.news_of_block (cs := #[.slice ra' (rels.length - (j + 1)) (rc - (j + 1)), .slice ka kn kc]) (t := 25) (fr := (0, 0)) (heap_alloc_new w2 _)) hone
                    (by omega) h63 hbyt (by simp; omega) (w2.heap.size + 1) (by simp) ?_; intro gg cap6 w7 hown7 hgrow hat hlt7))
              have hO3 := (hO2.alloc (.cells #[.slice ra' (rels.length - (j + 1)) (rc - (j + 1)), .slice ka kn kc] 25)).drew
              have hbA := ((Below.refl w2.heap.size w2).alloc (Nat.le_refl _) (.cells #[.slice ra' (rels.length - (j + 1)) (rc - (j + 1)), .slice ka kn kc] 25)).drew
              have hbW : Below n₁ w2 w7 := grown_below hO3 (((Below.refl n₁ w2).alloc hs2 _).drew) (Nat.le_refl _) hgrow (by simp; omega)
              have HB7 : Bl n₁ n₁ acc2 w7 := (HB2.out.below hbA).grown hgrow (own_lists hO3)
              have HIn : Hid (∃ m, m < M ∧ WdI n₁ n₁ w Tot (N + 1) (.slice (some ⟨gg, 0, none⟩) (k + 2) cap6) w7 m) := by
                have hw := Hw.out
                have hwN := HwN.out
                have hNk := HNk.out
                have hNd := elsN_drop_le rels j
                have hsn : waitN ((st ++ [(⟨ra', rc - (j + 1), rels.drop (j + 1)⟩ : RowW)]) ++ [(⟨ka, kc, ks⟩ : RowW)]) = waitN st + elsN (rels.drop (j + 1)) + elsN ks := by rw [waitN_snoc, waitN_snoc]
                have hl2 : ((st ++ [(⟨ra', rc - (j + 1), rels.drop (j + 1)⟩ : RowW)]) ++ [(⟨ka, kc, ks⟩ : RowW)]).length = k + 2 := by rw [List.length_append, List.length_append, hks]; rfl
                refine ⟨2 * waitN ((st ++ [(⟨ra', rc - (j + 1), rels.drop (j + 1)⟩ : RowW)]) ++ [(⟨ka, kc, ks⟩ : RowW)]) + ((st ++ [(⟨ra', rc - (j + 1), rels.drop (j + 1)⟩ : RowW)]) ++ [(⟨ka, kc, ks⟩ : RowW)]).length, by rw [hsn, hl2]; omega, _, acc2, ?_, ?_, rfl, by rw [hsn, hl2]; omega, HB7, ?_, HBel2.out.trans hbW⟩
                · rw [hl2]
                  have e1 : rowWs ((st ++ [(⟨ra', rc - (j + 1), rels.drop (j + 1)⟩ : RowW)]) ++ [(⟨ka, kc, ks⟩ : RowW)]) = rowWs st ++ [.slice ra' (rels.length - (j + 1)) (rc - (j + 1)), .slice ka kn kc] := by
                    rw [rowWs_append, rowWs_append, List.append_assoc]
                    simp [rowWs, Hkn.out]
                  rw [e1]
                  exact hown7
                · intro q hq
                  rcases List.mem_append.1 hq with hq | hq
                  · rcases List.mem_append.1 hq with hq | hq
                    · exact (HRows2.out q hq).agree (fun b hb => hbW.block b hb) hbW.size
                    · simp only [List.mem_singleton] at hq
                      subst hq
                      exact HRest2.out.agree (fun b hb => hbW.block b hb) hbW.size
                  · simp only [List.mem_singleton] at hq
                    subst hq
                    exact HKid2.out.agree (fun b hb => hbW.block b hb) hbW.size
                · rw [waitW_snoc, waitW_snoc]
                  exact HT2.out
              clear hO3 hbA hbW HB7 hgrow hown7 hat HRows2 HBel2 HKid2 HRest2 HB2 HT2 Hw HwN HNk hO2
              obtain ⟨m', hm', hI'⟩ := HIn.out
              have hlt' : μ (.slice (some ⟨gg, 0, none⟩) (k + 2) cap6, w7) < M := Nat.lt_of_le_of_lt (Hμ.out (.slice (some ⟨gg, 0, none⟩) (k + 2) cap6, w7) m' hI').2 hm'
              go_wp2_with fail
              go_roundw
              case rel => exact ⟨m', hI'⟩
              case measure =>
                show μ (_, _) < μ (_, _)
                rw [HM.out]
                exact hlt'
        · have hje : j = rels.length := by omega
          subst hje
          have g1 : decide ((rels.length : Int) < (rels.length : Int)) = false := by simp
          have HIn : Hid (∃ m, m < M ∧ WdI n₁ n₁ w Tot (N + 1) (.slice (some ⟨g, 0, none⟩) k cap) wr m) := by
            have hw := Hw.out
            have hwN := HwN.out
            have ht := HK.out.tot
            simp only at ht
            rw [List.drop_eq_nil_of_le (Nat.le_refl _), show (wordsL []).data.toList = [] from rfl, List.nil_append] at ht
            have ho := HK.out.own
            rw [hks] at ho
            exact ⟨2 * waitN st + k, by omega, st, acc2, by rw [hks]; exact ho, HK.out.rows, by rw [hks], by rw [hks]; omega, HK.out.bld, ht, HK.out.bel⟩
          clear HK Hw HwN
          obtain ⟨m', hm', hI'⟩ := HIn.out
          have hlt' : μ (.slice (some ⟨g, 0, none⟩) k cap, wr) < M := Nat.lt_of_le_of_lt (Hμ.out (.slice (some ⟨g, 0, none⟩) k cap, wr) m' hI').2 hm'
          go_wp2_with fail
          go_roundw
          case rel => exact ⟨m', hI'⟩
          case measure =>
            show μ (_, _) < μ (_, _)
            rw [HM.out]
            exact hlt'

end Go.Proofs.Ytkngdlbedelgnaa.Sg
