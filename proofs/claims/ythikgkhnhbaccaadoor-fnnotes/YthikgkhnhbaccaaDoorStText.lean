/- Contracts of the model's TextOk and TextOf. -/
import Derived.Test.YthikgkhnhbaccaaDoorStName
namespace Go.Proofs.YthikgkhnhbaccaaDoor.Sg
open Go.ChangeShapes Go.WideShapes Go.ChangeAt Go.RowKit

theorem all_drop {p : Int → Bool} (zs : List Int) (k : Nat) (h : k < zs.length) : (zs.drop k).all p = (p (zs.getD k 0) && (zs.drop (k + 1)).all p) := by
  rw [List.drop_eq_getElem_cons h, List.all_cons]
  simp [h]

/-- Numbers that a row holds. -/
theorem Ints.of_rowIs {w : World} {g cap : Nat} {t : TypeId} {f : Nat → Value} {ys : List Int} (h : w.rowIs g t cap f) (hn : ys.length ≤ cap) (hf : ∀ i, i < ys.length → f i = .int .i64 (ys.getD i 0)) : Ints w (some ⟨g, 0, none⟩) ys :=
  .inr ⟨g, 0, rfl, h.lt, fun i hi => by rw [Nat.zero_add, h.cell (by omega), hf i hi]⟩

set_option maxHeartbeats 2000000 in
theorem specTextOf (s : ByteArray) (w : World) (hs : s.size ≤ 17592186044416) :
    Calls Tryd.prog 14 #[.string s] w fun e w' => e = .returned (.string (mildS s)) ∧ Below w.heap.size w w' := by
  have hl := signsL_length s
  have Hm : Hid (mildS s = textS ((signsL s).map mildZ)) := rfl
  go_enter Tryd.func14, Tryd.ntmps14
  go_wp2_with fail
  refine (specSigns s _ hs).mono ?_
  rintro e w1 ⟨a, cap, rfl, o1, b1⟩
  generalize signsL s = zs at *
  rcases o1 with ⟨rfl, rfl, rfl⟩ | ⟨g, cur, rfl, hB, hg, hlc, hc, ht⟩
  · go_wp2_with fail
    refine wp_loop_rounds 1 ?_
    rw [rounds_succ]
    go_wp2_with fail
    refine (specSignText [] none 0 _ (.inl rfl) (by decide)).mono ?_
    rintro e w2 ⟨rfl, b2⟩
    go_wp2_with fail
    go_ret
    exact ⟨ret_str Hm.out.symm, b1.trans (b2.mono b1.size)⟩
  have hcells : ∀ i, i < zs.length → cur[i]? = some (.int .i64 (zs.getD i 0)) := by
    intro i hi
    have h9 : (cur.toList.take zs.length)[i]? = (intCells zs)[i]? := by rw [ht]
    rw [List.getElem?_take_of_lt hi] at h9
    simpa [intCells, hi] using h9
  have Hz : Hid (∀ i, i < zs.length → cur[i]? = some (.int .i64 (zs.getD i 0))) := hcells
  clear hcells ht
  have Hlm : Hid ((zs.map mildZ).length = zs.length) := List.length_map ..
  generalize hlen : zs.length = n at *
  have Hlen : Hid (zs.length = n) := hlen
  clear hlen
  have hrow0 : w1.rowIs g 3 cap (fun i => (cur[i]?).getD (.int .i64 0)) := by
    refine ⟨cur, hg, hc, fun i hi => ?_⟩
    have hlt : i < cur.size := by omega
    simp [hlt]
  clear hg
  go_wp2_with fail
  go_loopw [4] (fun iv wr => ∃ i : Nat, i ≤ n ∧ iv = .int .i64 i ∧ Hid (wr.rowIs g 3 cap (fun j => if j < i then .int .i64 (mildZ (zs.getD j 0)) else (cur[j]?).getD (.int .i64 0))) ∧ Below w.heap.size w1 wr) (fun iv _ => n - (intOf iv).toNat)
  case atStart =>
    refine ⟨0, Nat.zero_le _, rfl, ?_, Below.refl _ _⟩
    show w1.rowIs _ _ _ _
    simpa using hrow0
  case round =>
    obtain ⟨i, hi, rfl, Hrow, hbel⟩ := hrel
    clear hrow0
    by_cases hlt : i < n
    · have h1 := Hrow.out.cell (i := i) (by omega)
      have h2 := Hrow.out.frozen i
      simp only [Nat.lt_irrefl, if_false] at h1
      rw [Hz.out i hlt] at h1
      simp only [Option.getD_some] at h1
      have hstep : ∀ (W : World) (f : Nat → Value), W.rowIs g 3 cap f → (∀ j, j < cap → j ≠ i → f j = if j < i then .int .i64 (mildZ (zs.getD j 0)) else (cur[j]?).getD (.int .i64 0)) → f i = .int .i64 (mildZ (zs.getD i 0)) →
          Hid (W.rowIs g 3 cap (fun j => if j < i + 1 then .int .i64 (mildZ (zs.getD j 0)) else (cur[j]?).getD (.int .i64 0))) := by
        intro W f hW h3 h4
        refine hW.congr fun j hj => ?_
        by_cases e : j = i
        · subst e
          rw [if_pos (by omega), h4]
        · rw [h3 j hj e]
          by_cases e2 : j < i
          · rw [if_pos e2, if_pos (by omega)]
          · rw [if_neg e2, if_neg (by omega)]
      have Hstep : Hid (∀ (W : World) (f : Nat → Value), W.rowIs g 3 cap f → (∀ j, j < cap → j ≠ i → f j = if j < i then .int .i64 (mildZ (zs.getD j 0)) else (cur[j]?).getD (.int .i64 0)) → f i = .int .i64 (mildZ (zs.getD i 0)) →
          Hid (W.rowIs g 3 cap (fun j => if j < i + 1 then .int .i64 (mildZ (zs.getD j 0)) else (cur[j]?).getD (.int .i64 0)))) := hstep
      clear hstep
      generalize hzz : zs.getD i 0 = z at *
      have Hzz : Hid (zs.getD i 0 = z) := hzz
      clear hzz
      by_cases h12 : z = 12
      · subst h12
        go_wp2_with fail
        go_roundw
        case rel =>
          refine ⟨i + 1, by omega, by go_num, Hstep.out _ _ (Hrow.out.set i _) (fun j _ e => if_neg e) (if_pos rfl), hbel.setCell hB _⟩
        case measure => simp [intOf]; omega
      · have g12 : (z == 12) = false := by simp [h12]
        have Hf := fun W => specIsText z W
        cases hf : textB z
        · have Hm' : Hid (mildZ z = 65533) := by show _ = _; unfold mildZ; rw [if_neg h12, if_neg (by rw [hf]; simp)]
          rw [hf] at Hf
          clear hf h12
          go_wp2_with fail
          refine (Hf _).mono ?_
          rintro e w2 ⟨rfl, rfl⟩
          go_wp2_with fail
          go_roundw
          case rel =>
            refine ⟨i + 1, by omega, by go_num, Hstep.out _ _ (Hrow.out.set i _) (fun j _ e => if_neg e) (by rw [Hm'.out]; exact if_pos rfl), hbel.setCell hB _⟩
          case measure => simp [intOf]; omega
        · have Hm' : Hid (mildZ z = z) := by show _ = _; unfold mildZ; rw [if_neg h12, if_pos hf]
          rw [hf] at Hf
          clear hf h12
          go_wp2_with fail
          refine (Hf _).mono ?_
          rintro e w2 ⟨rfl, rfl⟩
          go_wp2_with fail
          go_roundw
          case rel =>
            refine ⟨i + 1, by omega, by go_num, Hstep.out _ _ Hrow.out (fun j _ _ => rfl) ?_, hbel⟩
            rw [Hm'.out, if_neg (Nat.lt_irrefl _), Hz.out i hlt, Hzz.out]
            rfl
          case measure => simp [intOf]; omega
    · have hin : i = n := by omega
      subst hin
      have hI : Ints wr (some ⟨g, 0, none⟩) (zs.map mildZ) := Ints.of_rowIs Hrow.out (by rw [Hlm.out]; exact hlc) fun j hj => by
        rw [Hlm.out] at hj
        rw [if_pos hj]
        congr 1
        rw [List.getD_eq_getElem?_getD, List.getD_eq_getElem?_getD, List.getElem?_map, List.getElem?_eq_getElem (by rw [Hlen.out]; exact hj)]
        rfl
      have Hc := specSignText (zs.map mildZ) (some ⟨g, 0, none⟩) cap wr hI (by rw [Hlm.out]; omega)
      rw [Hlm.out] at Hc
      clear hI Hrow Hz
      go_wp2_with fail
      refine Hc.mono ?_
      rintro e w2 ⟨rfl, b2⟩
      go_wp2_with fail
      go_ret
      have hbel2 : Below w.heap.size w wr := b1.trans hbel
      exact ⟨ret_str Hm.out.symm, hbel2.trans (b2.mono hbel2.size)⟩

end Go.Proofs.YthikgkhnhbaccaaDoor.Sg
