/- Contract of the program's copyItems. -/
import Derived.Laws.MakeOwn
import Derived.Test.YtlnegnikedinaaaOpE
import Derived.Test.YtlnegnikedinaaaCpItems
namespace Go.Proofs.Ytlnegnikedinaaa.Sg
open Go.ChangeShapes Go.WideShapes Go.ChangeAt Go.RowKit

set_option maxRecDepth 20000 in
set_option maxHeartbeats 8000000 in
theorem implCopyItems (l : List ItB) (v : Value) (B0 : Nat) (w : World) (ho : OwnIts w B0 v l) (hn : l.length ≤ 1073741824) (hat : ∀ t ∈ l, t.ats.length ≤ 1099511627776 ∧ t.kids.length ≤ 1099511627776) :
    Calls Try.prog 51 #[v] w fun e w' => ∃ v', e = .returned v' ∧ OwnIts w' w.heap.size v' l ∧ Below w.heap.size w w' := by
  obtain ⟨i0, hi, hz0, hz1, hz2⟩ := info_parts info_it'
  obtain ⟨L0, rfl, hrow, heach⟩ := ho
  rw [List.length_map] at hn
  obtain ⟨sa, sc, rfl⟩ := own_form hrow
  obtain ⟨n, Hn⟩ : ∃ n, Hid (L0.length = n) := ⟨_, rfl⟩
  have Hrow : Hid (w.ownsRow B0 50 7 (.slice sa L0.length sc) L0.length (itCells L0)) := hrow
  have Heach : Hid (OwnEachI w B0 L0) := heach
  have Hat : Hid (∀ q ∈ L0, q.1.ats.length ≤ 1099511627776 ∧ q.1.kids.length ≤ 1099511627776) := fun q hq => hat q.1 (List.mem_map.2 ⟨q, hq, rfl⟩)
  rw [Hn.out] at Hrow hn ⊢
  obtain ⟨Wm, hmk, hem, gm⟩ := run_make_own (P := Try.prog) w w.heap.size 22 50 i0 (.agg #[.int .i64 0, .int .i64 0, .string ⟨#[]⟩, .slice none 0 0, .string ⟨#[]⟩, .int .i64 0, .slice none 0 0]) 7 Try.underlying22 hi hz0 hz1 .i64 .i64 (n + 1) (by rw [hz2]; omega) (by unfold maxLen; omega) (Nat.le_refl _)
  rw [Int.natCast_add, Int.natCast_one] at hmk
  have gw : IntKind.i64.wrap ((n : Int) + 1) = (n : Int) + 1 := IntWalk.i64_in _ (by omega)
  have HE : Hid (Wm.ownsRow w.heap.size 50 7 (.slice (some ⟨w.heap.size, 0, none⟩) 0 (n + 1)) 0 []) := hem
  have HBm : Hid (Below w.heap.size w Wm) := (Below.refl _ w).grown gm (Nat.le_refl _) (fun k e => by cases e)
  clear hem gm
  clear hrow heach hat
  go_enter Try.func51, Try.ntmps51
  go_wp2_with fail
  go_loopw [3, 12] (fun ov iv wr => ∃ (i : Nat) (L : List It3), i ≤ n ∧ iv = .int .i64 (i : Int) ∧ Hid (L.map (·.1) = (L0.map (·.1)).take i) ∧ Hid (L.length = i) ∧ Hid (wr.ownsRow w.heap.size 50 7 ov i (itCells L)) ∧ Hid (OwnEachI wr w.heap.size L) ∧ Hid (Below w.heap.size w wr)) (fun _ iv _ => n - (intOf iv).toNat)
  case atStart => exact ⟨0, [], Nat.zero_le _, rfl, rfl, rfl, HE, ⟨fun _ h => absurd h List.not_mem_nil, List.Pairwise.nil⟩, HBm.out⟩
  case round =>
    clear HE HBm hmk
    obtain ⟨i, L, hil, rfl, Hmap, HLl, HR, HEa, HB⟩ := hrel
    by_cases hlt : i < n
    · have hi0 : i < L0.length := by rw [Hn.out]; exact hlt
      have srow := owns_below Hrow.out (Nat.le_refl _) HB.out
      have sea := Heach.out.keep HB.out
      rcases srow.2 with ⟨h1, h2⟩ | ⟨g, cap, cur, hv, _⟩
      · exact absurd h2 (by omega)
      cases hv
      have cc : ∀ c, c < 7 → wr.cell? ⟨g, i * 7 + c, none⟩ = (itV (L0[i]'hi0))[c]? := fun c hc => (own_cell srow (j := i * 7 + c) (by omega)).1.trans (itCells_at L0 i c hi0 hc)
      obtain ⟨r1, r2⟩ := sea.1 _ (List.getElem_mem hi0)
      have hlen := Hat.out _ (List.getElem_mem hi0)
      have Htk : Hid ((L0.map (·.1)).take (i + 1) = (L0.map (·.1)).take i ++ [(L0[i]'hi0).1]) := by
        show _ = _
        rw [List.take_add_one, List.getElem?_map, List.getElem?_eq_getElem hi0]
        rfl
      obtain ⟨⟨t, sv, kv⟩, hpe⟩ : ∃ p : It3, L0[i]'hi0 = p := ⟨_, rfl⟩
      rw [hpe] at cc r1 r2 hlen Htk
      simp only at r1 r2 hlen Htk
      obtain ⟨ta, tc, rfl⟩ := own_form r1
      obtain ⟨ka, kc, rfl⟩ := own_form r2
      obtain ⟨kd, sp, nm, ats, tx, up, kids⟩ := t
      simp only at *
      have bb : Below wr.heap.size wr (wr.alloc (.cells #[.int .i64 kd, .int .i64 sp, .string nm, .slice ta ats.length tc, .string tx, .int .i64 up, .slice ka kids.length kc] 50)) := (Below.refl _ _).alloc (Nat.le_refl _) _
      have C := implCopyItem ⟨kd, sp, nm, ats, tx, up, kids⟩ _ _ B0 (wr.alloc (.cells #[.int .i64 kd, .int .i64 sp, .string nm, .slice ta ats.length tc, .string tx, .int .i64 up, .slice ka kids.length kc] 50)) (owns_below r1 (Nat.le_refl _) bb) (owns_below r2 (Nat.le_refl _) bb) hlen.1 hlen.2
      have HBb : Hid (Below wr.heap.size wr (wr.alloc (.cells #[.int .i64 kd, .int .i64 sp, .string nm, .slice ta ats.length tc, .string tx, .int .i64 up, .slice ka kids.length kc] 50))) := bb
      clear bb
      have c0 : wr.cell? ⟨g, i * 7, none⟩ = some (.int .i64 kd) := cc 0 (by omega)
      have c1 : wr.cell? ⟨g, i * 7 + 1, none⟩ = some (.int .i64 sp) := cc 1 (by omega)
      have c2 : wr.cell? ⟨g, i * 7 + 2, none⟩ = some (.string nm) := cc 2 (by omega)
      have c3 : wr.cell? ⟨g, i * 7 + 3, none⟩ = some (.slice ta ats.length tc) := cc 3 (by omega)
      have c4 : wr.cell? ⟨g, i * 7 + 4, none⟩ = some (.string tx) := cc 4 (by omega)
      have c5 : wr.cell? ⟨g, i * 7 + 5, none⟩ = some (.int .i64 up) := cc 5 (by omega)
      have c6 : wr.cell? ⟨g, i * 7 + 6, none⟩ = some (.slice ka kids.length kc) := cc 6 (by omega)
      have k0 : (0 : Int) ≤ (i : Int) := by omega
      have k1 : (i : Int) < (n : Int) := by omega
      clear cc srow sea r1 r2 hpe hlen
      simp only [itV] at C
      go_wp2_with fail
      refine C.mono ?_
      rintro e w1 ⟨sv', kv', rfl, o1, o2, b1⟩
      replace o1 := own_mono o1 HBb.out.size
      replace o2 := own_mono o2 HBb.out.size
      replace b1 := HBb.out.trans (b1.mono HBb.out.size)
      clear HBb
      clear C c0 c1 c2 c3 c4 c5 c6
      obtain ⟨xa, xc, rfl⟩ := own_form o1
      obtain ⟨ya, yc, rfl⟩ := own_form o2
      have hgw : w.heap.size ≤ wr.heap.size := HB.out.size
      have bl1 := b1.size
      obtain ⟨W2, HW2⟩ : ∃ W2, Hid (W2 = w1.alloc (.cells #[.int .i64 kd, .int .i64 sp, .string nm, .slice xa ats.length xc, .string tx, .int .i64 up, .slice ya kids.length yc] 50)) := ⟨_, rfl⟩
      have b2 : Below w1.heap.size w1 W2 := by rw [HW2.out]; exact (Below.refl _ _).alloc (Nat.le_refl _) _
      have hs2 : W2.heap.size = w1.heap.size + 1 := by rw [HW2.out]; simp
      have hblk : W2.heap[w1.heap.size]? = some (.cells #[.int .i64 kd, .int .i64 sp, .string nm, .slice xa ats.length xc, .string tx, .int .i64 up, .slice ya kids.length yc] 50 (0, 0)) := by
        have h := (MapKept.heap_alloc w1 (.cells #[.int .i64 kd, .int .i64 sp, .string nm, .slice xa ats.length xc, .string tx, .int .i64 up, .slice ya kids.length yc] 50)).1
        rw [← HW2.out] at h
        exact h
      have R2 := owns_below (owns_below HR.out (Nat.le_refl _) b1) (Nat.le_refl _) b2
      have E2 : Hid (OwnEachI W2 w.heap.size L) := (HEa.out.keep b1).keep b2
      have O1 : Hid (W2.ownsRow w.heap.size 84 2 (.slice xa ats.length xc) ats.length (attrCells ats)) := own_mono (owns_below o1 (Nat.le_refl _) b2) hgw
      have O2 : Hid (W2.ownsRow w.heap.size 3 1 (.slice ya kids.length yc) kids.length (intCellsI kids)) := own_mono (owns_below o2 (Nat.le_refl _) b2) hgw
      have NW : Hid (∀ q ∈ L, (∀ b, q.2.1.ownBlock = some b → (Value.slice xa ats.length xc).ownBlock ≠ some b) ∧ (∀ b, q.2.2.ownBlock = some b → (Value.slice ya kids.length yc).ownBlock ≠ some b)) := fun q hq =>
        ⟨fun b hb e => by have h1 := ((HEa.out.1 q hq).1.lt b hb).2; have h2 := (o1.lt b e).1; omega, fun b hb e => by have h1 := ((HEa.out.1 q hq).2.lt b hb).2; have h2 := (o2.lt b e).1; omega⟩
      have B2 : Hid (Below w.heap.size w W2) := (HB.out.trans (b1.mono hgw)).trans (b2.mono (Nat.le_trans hgw bl1))
      have hnews := World.news_of_block hblk
      have hone : ∀ y ∈ (#[.int .i64 kd, .int .i64 sp, .string nm, .slice xa ats.length xc, .string tx, .int .i64 up, .slice ya kids.length yc] : Array Value).toList, y.oneCell' = true := itV_one (⟨kd, sp, nm, ats, tx, up, kids⟩, .slice xa ats.length xc, .slice ya kids.length yc) rfl rfl
      have h63 : i + 1 ≤ maxLen := by unfold maxLen; omega
      have hbyt : (i + 1) * 104 ≤ 140737488355328 := by omega
      have hbas : w.heap.size ≤ W2.heap.size := by omega
      have HRr : Hid (wr.ownsRow w.heap.size 50 7 u3 i (itCells L)) := HR.out
      clear o1 o2 b1 b2 HR HEa hs2 hblk
      go_wp2_with (first
        | (at_builtin; rw [← HW2.out]; refine wpList_append_own _ rfl _ _ 22 rfl w.heap.size 50 i0 (.agg #[.int .i64 0, .int .i64 0, .string ⟨#[]⟩, .slice none 0 0, .string ⟨#[]⟩, .int .i64 0, .slice none 0 0]) 7 104 Try.underlying22 hi hz0 hz1 hz2 rfl (by decide) _ _ _ rfl R2 ⟨w1.heap.size, 0, none⟩ 1 1 (#[.int .i64 kd, .int .i64 sp, .string nm, .slice xa ats.length xc, .string tx, .int .i64 up, .slice ya kids.length yc] : Array Value).toList rfl rfl hnews hone h63 hbyt hbas ?_; intro v3 w3 o3 g3 hnil3)
        | go_in)
      have E3 : Hid (OwnEachI w3 w.heap.size (L ++ [(⟨kd, sp, nm, ats, tx, up, kids⟩, .slice xa ats.length xc, .slice ya kids.length yc)])) := each_more E2.out (fun q hq => ⟨fun b hb e => owns_apart R2 (E2.out.1 q hq).1 it_type.1 b e hb, fun b hb e => owns_apart R2 (E2.out.1 q hq).2 it_type.2.1 b e hb⟩) g3 (owns_grown O1.out g3 fun b hb e => owns_apart R2 O1.out it_type.1 b e hb) (owns_grown O2.out g3 fun b hb e => owns_apart R2 O2.out it_type.2.1 b e hb) NW.out
      have R3 : Hid (w3.ownsRow w.heap.size 50 7 v3 (i + 1) (itCells (L ++ [(⟨kd, sp, nm, ats, tx, up, kids⟩, .slice xa ats.length xc, .slice ya kids.length yc)]))) := by
        show World.ownsRow _ _ _ _ _ _ _
        rw [itCells_more]
        exact o3
      have B3 : Hid (Below w.heap.size w w3) := grown_below R2 B2.out (Nat.le_refl _) g3 hbas
      have M3 : Hid ((L ++ [((⟨kd, sp, nm, ats, tx, up, kids⟩, .slice xa ats.length xc, .slice ya kids.length yc) : It3)]).map (·.1) = (L0.map (·.1)).take (i + 1)) := by
        show _ = _
        rw [Htk.out, List.map_append, Hmap.out]
        rfl
      have L3 : Hid ((L ++ [((⟨kd, sp, nm, ats, tx, up, kids⟩, .slice xa ats.length xc, .slice ya kids.length yc) : It3)]).length = i + 1) := by show _ = _; rw [List.length_append, HLl.out]; rfl
      clear o3 g3 E2 O1 O2 NW R2 hnews hone B2 hbas
      go_roundw
      case rel => exact ⟨i + 1, _, by omega, by go_num, M3, L3, R3, E3, B3⟩
      case measure => simp [intOf]; omega
    · have hin : i = n := by omega
      subst hin
      have hfull : (L0.map (·.1)).take i = L0.map (·.1) := List.take_of_length_le (by rw [List.length_map, Hn.out]; exact Nat.le_refl _)
      have HF : Hid (OwnIts wr w.heap.size u3 (L0.map (·.1))) := ⟨L, Hmap.out.trans hfull, by rw [HLl.out]; exact HR.out, HEa.out⟩
      clear hfull
      go_wp2_with fail
      go_ret
      exact ⟨_, rfl, HF.out, HB.out⟩

end Go.Proofs.Ytlnegnikedinaaa.Sg
