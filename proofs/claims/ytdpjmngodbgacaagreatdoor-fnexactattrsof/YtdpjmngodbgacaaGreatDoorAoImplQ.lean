/- Contract of the program's AttrsOf: the places at which a name is first, out of a map, sorted; each is made strict. -/
import Derived.Test.YtdpjmngodbgacaaGreatDoorAoFirstQ
import Derived.Test.YtdpjmngodbgacaaGreatDoorStImToQ
import Derived.Maps.AppendAt
import Derived.Deep.RegionHeld3
import Derived.Deep.AppendLies
namespace Go.Proofs.YtdpjmngodbgacaaGreatDoor.Sg
open Go.ChangeShapes Go.WideShapes Go.ChangeAt Go.RowKit Go.Maps Go.Sort

theorem cell_al {w : World} {b o : Nat} {v : Value} {x : Obj} (h : w.cell? ⟨b, o, none⟩ = some v) : (w.alloc x).cell? ⟨b, o, none⟩ = some v := keep_cell ((Below.refl w.heap.size w).alloc (Nat.le_refl _) _) h
theorem below_al {w0 w : World} {x : Obj} (h : Below w0.heap.size w0 w) : Below w0.heap.size w0 (w.alloc x) := h.alloc h.size _
theorem size_al {w : World} {n : Nat} {x : Obj} (h : n ≤ w.heap.size) : n ≤ (w.alloc x).heap.size := Nat.le_trans h ((Below.refl w.heap.size w).alloc (Nat.le_refl _) x).size
theorem cell_grown {W W' : World} {r : Option Nat} {b o : Nat} {v : Value} (hg : W.grownBy W' r) (hne : some b ≠ r) (h : W.cell? ⟨b, o, none⟩ = some v) : W'.cell? ⟨b, o, none⟩ = some v := (hg.cell_far ⟨b, o, none⟩ (block_lt_of_cell h) hne).trans h
theorem below_two {w0 w w' : World} (h : Below w0.heap.size w0 w) (h' : Below w.heap.size w w') : Below w0.heap.size w0 w' := h.trans (h'.mono h.size)

set_option maxRecDepth 20000 in
set_option maxHeartbeats 8000000 in
theorem implAttrsOf (l : List AttrB) (a : Option Addr) (n cap : Nat) (w : World) (ha : AttrsAt w a l) (hl : l.length = n) (hn : n ≤ 1048576) (hsz : ∀ p ∈ l, p.1.size ≤ 1048576 ∧ p.2.size ≤ 1048576) (hT : NmT w) :
    Calls Tryz.prog 7 #[.slice a n cap] w fun e w' => ∃ v, e = .returned v ∧ w'.ownsRow w.heap.size 34 2 v (attrsMade [] l).length (attrCells (attrsMade [] l)) ∧ Below w.heap.size w w' := by
  obtain ⟨i0, hi0, hz0, hz1, hz2⟩ := info_parts info_pair
  have HA : Hid (AttrsAt w a l) := ha
  have Hl : Hid (l.length = n) := hl
  have HW : Hid (∀ p ∈ l, p.1.size ≤ 1048576 ∧ p.2.size ≤ 1048576) := hsz
  have HT : Hid (NmT w) := hT
  have HF := implFirst l a n cap w ha hl hn hsz hT
  clear ha hl hsz hT
  go_enter Tryz.func7, Tryz.ntmps7
  go_wp2_with fail
  refine HF.mono ?_
  rintro e w1 ⟨rfl, ⟨m, D, hm, hM, hD⟩, b1⟩
  clear HF
  have HD : Hid (Firsts (D.del (.string [120, 109, 108, 110, 115])) (firstX (namesA l))) := (hD.del [120, 109, 108, 110, 115]).congr fun x => rfl
  clear hD
  go_wp2_with (at_delete; refine wpList_delete_own _ rfl _ _ 37 9 rfl 3 keyS Tryz.underlying37 _ w.heap.size m D rfl hM _ _ rfl (WideMaps.keyOf_string_mk Tryz.underlying9 (by decide)) ?_; intro w2 hown2 hturn2)
  have hB2 : Below w.heap.size w w2 := b1.grown hturn2.grown b1.size (fun j hj => by cases hj; exact Nat.le_refl _)
  have HB2 : Hid (Below w.heap.size w w2) := hB2
  have HM2 : Hid (OwnF w2 w.heap.size m (D.del (.string [120, 109, 108, 110, 115]))) := hown2
  clear hturn2 hM b1 hown2 hB2
  refine (values_calls _ _).mono ?_
  rintro e w3 ⟨rfl, hw3⟩
  have hB3 : Below w2.heap.size w2 w3 := by rw [hw3]; exact (Below.refl _ w2).alloc (Nat.le_refl _) _
  have hc3 : w3.cell? ⟨w2.heap.size, 0, none⟩ = some (.map (some w.heap.size)) := by rw [hw3]; simp
  have hs3 : w2.heap.size < w3.heap.size := by rw [hw3]; simp
  have hM3 : OwnF w3 w.heap.size m (D.del (.string [120, 109, 108, 110, 115])) := OwnF.below HM2.out (World.ownsMap.lt HM2.out) hB3
  have HB3 : Hid (Below w.heap.size w w3) := HB2.out.trans (hB3.mono HB2.out.size)
  have hsd : Maps.size (D.del (.string [120, 109, 108, 110, 115])) ≤ n := Nat.le_trans (World.ownsMap.size_le hM3) hm
  have HS := Tryz.slices_Sorted_int 32 #[.pointer (some ⟨w2.heap.size, 0, none⟩)] (enters_of Tryz.func32 (by kernel_rfl) rfl) _ (Maps.size (D.del (.string [120, 109, 108, 110, 115]))) (by unfold maxLen; omega) (by omega) w3 (values_gives w2.heap.size w.heap.size m _ _ HD.out w3 hs3 hc3 hM3)
  clear hw3 hc3 hM3 hB3 HM2 HB2 hsd
  go_wp2_with fail
  refine HS.mono ?_
  rintro e w4 ⟨v, ss, rfl, ⟨ks, hnd, hmem, hss⟩, hrow, -, b4⟩
  obtain ⟨pl, hpl⟩ : ∃ pl, placesN (namesA l) (namesA l).length = pl := ⟨_, rfl⟩
  have hpo := placesN_of hnd hmem
  rw [← hss, hpl] at hpo
  have hlen : ss.length = pl.length := by
    have := congrArg List.length hpo
    rw [List.length_mergeSort, List.length_map] at this
    exact this
  rw [hpo, hlen] at hrow
  have Hpn : Hid (∀ i ∈ pl, i < n) := fun i hi => by
    have := placesN_lt (hpl ▸ hi)
    rw [namesA_len, Hl.out] at this
    exact this
  have hpln : pl.length ≤ n := by
    have := placesN_len (namesA l) (namesA l).length
    rw [hpl, namesA_len, Hl.out] at this
    exact this
  have Hmade : Hid (attrsMade [] l = pl.map (mkA l)) := by
    show _ = _
    rw [attrsMade_all, ← hpl, namesA_len]
  have HB4 : Hid (Below w.heap.size w w4) := HB3.out.trans (b4.mono HB3.out.size)
  obtain ⟨va, vc, rfl⟩ : ∃ va vc, v = .slice va pl.length vc := by
    rcases hrow.2 with ⟨h, h'⟩ | ⟨g', c', _, h, _⟩
    · exact ⟨_, _, by rw [h, h']⟩
    · exact ⟨_, _, h⟩
  have Hrow : Hid (w4.ownsRow w3.heap.size 3 1 (.slice va pl.length vc) pl.length ((pl.map fun i => ((i : Nat) : Int)).map encZ)) := hrow
  clear hrow hpo hss hmem hnd hlen HS b4 HB3 HD hpl ks ss hs3
  go_wp2_with fail
  go_loopw [4, 6, 14] (fun ov _ iv wr => ∃ (j : Nat), j ≤ pl.length ∧ iv = .int .i64 (j : Int) ∧ Hid (wr.ownsRow w4.heap.size 34 2 ov ((pl.take j).map (mkA l)).length (attrCells ((pl.take j).map (mkA l)))) ∧ Hid (Below w4.heap.size w4 wr)) (fun _ _ iv _ => pl.length - (intOf iv).toNat)
  case atStart => exact ⟨0, Nat.zero_le _, rfl, ⟨rfl, .inl ⟨rfl, rfl⟩⟩, Below.refl _ _⟩
  case round =>
    obtain ⟨j, hj, rfl, HO, HB⟩ := hrel
    have j0 : (0 : Int) ≤ (j : Int) := by omega
    by_cases hlt : j < pl.length
    · have j1 : (j : Int) < (pl.length : Int) := by omega
      obtain ⟨g, rfl⟩ : ∃ g, va = some ⟨g, 0, none⟩ := by
        rcases Hrow.out.2 with ⟨h, h'⟩ | ⟨g', c', _, h, _⟩
        · omega
        · cases h
          exact ⟨g', rfl⟩
      have hcj : wr.cell? ⟨g, j, none⟩ = some (.int .i64 ((pl[j]'hlt : Nat) : Int)) := by
        have h1 := (own_cell Hrow.out (j := j) (by omega)).1
        have h2 : ((pl.map fun i => ((i : Nat) : Int)).map encZ)[j]? = some (.int .i64 ((pl[j]'hlt : Nat) : Int)) := by
          rw [List.getElem?_map, List.getElem?_map, List.getElem?_eq_getElem hlt]
          rfl
        exact (HB.out.cell (p := ⟨g, j, none⟩) (Hrow.out.lt g rfl).2).trans (h1.trans h2)
      have hip : pl[j]'hlt < n := Hpn.out _ (List.getElem_mem hlt)
      have Hst : Hid ((pl.take (j + 1)).map (mkA l) = (pl.take j).map (mkA l) ++ [mkA l (pl[j]'hlt)]) := by
        show _ = _
        rw [List.take_succ_eq_append_getElem hlt, List.map_append]
        rfl
      have hol : ((pl.take j).map (mkA l)).length = j := by rw [List.length_map, List.length_take]; omega
      generalize (pl.take j).map (mkA l) = out at *
      generalize pl[j]'hlt = i at *
      have i0' : (0 : Int) ≤ (i : Int) := by omega
      have i1 : (i : Int) < (n : Int) := by omega
      have hil : i < l.length := by rw [Hl.out]; exact hip
      have hBw : Below w.heap.size w wr := HB4.out.trans (HB.out.mono HB4.out.size)
      obtain ⟨ab, rfl, c0, c1⟩ := attrs_one (HA.out.below hBw) i hil
      have hsz := HW.out _ (List.getElem_mem hil)
      have Hmk : Hid (mkA l i = (stNameS (l[i]'hil).1, mildS (l[i]'hil).2)) := mkA_get l i hil
      generalize l[i]'hil = p at *
      obtain ⟨p1, p2⟩ := p
      simp only at c0 c1 hsz Hmk
      have HTw : NmT wr := HT.out.below hBw
      have HN : ∀ W, Below wr.heap.size wr W → Calls Tryz.prog 19 #[.string p1] W fun e w' => e = .returned (.string (stNameS p1)) ∧ Below W.heap.size W w' := fun W hW => implNameOf p1 W hsz.1 (HTw.below hW)
      have HX : ∀ W, Below wr.heap.size wr W → Calls Tryz.prog 20 #[.string p2] W fun e w' => e = .returned (.string (mildS p2)) ∧ Below W.heap.size W w' := fun W hW => implTextOf p2 W (by omega) (HTw.below hW).1
      generalize stNameS p1 = nm at *
      generalize mildS p2 = tx at *
      have hO := HO.out
      rw [hol] at hO
      have h4 := HB.out.size
      have hone := pair_one nm tx
      have h63 : j + 1 ≤ maxLen := by unfold maxLen; omega
      have hbyt : (j + 1) * 32 ≤ 140737488355328 := by omega
      have HBw : Hid (Below w.heap.size w wr) := hBw
      clear HO hBw HTw hsz Hrow
      go_wp2_with fail
      have hab : ab < w.heap.size := by
        obtain ⟨b', e', d0, _⟩ := attrs_one HA.out i hil
        cases e'
        exact block_lt_of_cell d0
      have h40 := HB4.out.size
      have n1 : some ab ≠ u4.ownBlock := fun e => by
        have := (hO.lt ab e.symm).1
        omega
      have hbr : Below wr.heap.size wr wr.drew := (Below.refl _ _).drew
      have hod : wr.drew.ownsRow w4.heap.size 34 2 u4 j (attrCells out) := hO.drew
      go_region_held3 (fun w' => w'.cell? ⟨ab, i * 2, none⟩ = some (.string p1) ∧ w'.cell? ⟨ab, i * 2 + 1, none⟩ = some (.string p2))
        (first
          | exact ⟨c0, c1⟩
          | (go_split_ands; exact ⟨keep_cell hb' (by assumption), keep_cell hb' (by assumption)⟩)
          | (go_split_ands; exact ⟨cell_al (by assumption), cell_al (by assumption)⟩)
          | (go_split_ands; exact ⟨cell_grown hgrow n1 (by assumption), cell_grown hgrow n1 (by assumption)⟩))
        (first
          | (go_at_call 19; refine (HN _ hbr).mono ?_; rintro e wn ⟨rfl, hb'⟩; have hbn := below_two hbr hb'; have hon := owns_below hod (Nat.le_refl _) hb')
          | (go_at_call 20; refine (HX _ hbn).mono ?_; rintro e wt ⟨rfl, hb'⟩; have hbt := below_two hbn hb'; have hot := owns_below hon (Nat.le_refl _) hb'; have hst := hbt.size)
          | (refine step_append_lies _ (by rfl) _ _ _ (by rfl) w4.heap.size 34 i0 _ 2 32 Tryz.underlying24 hi0 hz0 hz1 hz2 rfl (by omega) u4 j (attrCells out) (by rfl) (hot.alloc _) ⟨_, 0, none⟩ 1 1 [.string nm, .string tx] (by rfl) (by rfl) (pair_at _ _ _ _) hone (by omega) h63 hbyt (size_al (by omega)) _ rfl ?_; intro gg cap6 w7 hown7 hgrow hat hlt7))
      have hB7 : Below w4.heap.size w4 w7 := own_grownA (hot.alloc (.cells #[.string nm, .string tx] 34)) ((HB.out.trans (hbt.mono h4)).alloc (by omega) _) (Nat.le_refl _) hgrow (size_al (by omega))
      have HB7 : Hid (Below w4.heap.size w4 w7) := hB7
      have HO7 : Hid (w7.ownsRow w4.heap.size 34 2 (.slice (some ⟨gg, 0, none⟩) (j + 1) cap6) ((pl.take (j + 1)).map (mkA l)).length (attrCells ((pl.take (j + 1)).map (mkA l)))) := by
        show World.ownsRow _ _ _ _ _ _ _
        rw [Hst.out, Hmk.out, List.length_append, attrCells_more, hol]
        exact hown7
      clear hown7 hgrow hat hot hon hod hB7
      go_wp2_with fail
      go_roundw
      case rel => exact ⟨j + 1, by omega, by go_num, HO7, HB7⟩
      case measure => simp [intOf]; omega
    · have hjk : j = pl.length := by omega
      have g1 : decide ((j : Int) < (pl.length : Int)) = false := decide_eq_false (by omega)
      have HO1 : Hid (wr.ownsRow w.heap.size 34 2 u4 (attrsMade [] l).length (attrCells (attrsMade [] l))) := by
        have h1 := own_mono HO.out HB4.out.size
        rw [hjk, List.take_length, ← Hmade.out] at h1
        exact h1
      have HB5 : Hid (Below w.heap.size w wr) := HB4.out.trans (HB.out.mono HB4.out.size)
      clear HO HB
      go_wp2_with fail
      go_ret
      exact ⟨_, rfl, HO1.out, HB5.out⟩

end Go.Proofs.YtdpjmngodbgacaaGreatDoor.Sg
