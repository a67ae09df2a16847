/- Contract of the model's XmlAttr. -/
import Derived.Test.YtbmmghkieolpkaaGreatDoorMR2315
namespace Go.Proofs.YtbmmghkieolpkaaGreatDoor.Sg
open Go.ChangeShapes Go.WideShapes Go.ChangeAt Go.RowKit

/-- What the model's XmlAttr hands back. -/
def attrV (s : ByteArray) (k : Nat) : Option (Nat × List UInt8 × Nat) → Value
  | none => .tuple #[.agg #[.string ⟨#[]⟩, .string ⟨#[]⟩], .int .i64 (-1)]
  | some r => .tuple #[.agg #[.string (s.extract k r.1), .string (strB r.2.1)], .int .i64 ((r.2.2 + 1 : Nat) : Int)]
/-- Two cells of a block, as they lie and when they are written. -/
structure Box2 (W : World) (b : Nat) : Prop where
  c0 : W.cell? ⟨b, 0, none⟩ = some (.string ⟨#[]⟩)
  c1 : W.cell? ⟨b, 1, none⟩ = some (.string ⟨#[]⟩)
  f0 : W.frozen? ⟨b, 0, none⟩ = false
  f1 : W.frozen? ⟨b, 1, none⟩ = false
  s0 : ∀ x y : Value, ((W.setCell ⟨b, 0, none⟩ x).setCell ⟨b, 1, none⟩ y).cell? ⟨b, 0, none⟩ = some x
  s1 : ∀ x y : Value, ((W.setCell ⟨b, 0, none⟩ x).setCell ⟨b, 1, none⟩ y).cell? ⟨b, 1, none⟩ = some y
theorem Box2.of {w W : World} {t : TypeId} (h : Below (w.alloc (.cells #[.string ⟨#[]⟩, .string ⟨#[]⟩] t)).heap.size (w.alloc (.cells #[.string ⟨#[]⟩, .string ⟨#[]⟩] t)) W) : Box2 W w.heap.size := by
  have hb : W.heap[w.heap.size]? = some (.cells #[.string ⟨#[]⟩, .string ⟨#[]⟩] t) := by
    refine (h.block _ (by simp)).trans ?_
    show (w.heap.push _)[w.heap.size]? = _
    simp
  have h0 : W.cell? ⟨w.heap.size, 0, none⟩ = some (.string ⟨#[]⟩) := by simp [World.cell?, hb]
  have h1 : W.cell? ⟨w.heap.size, 1, none⟩ = some (.string ⟨#[]⟩) := by simp [World.cell?, hb]
  have h2 : ∀ x : Value, (W.setCell ⟨w.heap.size, 0, none⟩ x).cell? ⟨w.heap.size, 1, none⟩ = some (.string ⟨#[]⟩) := fun x => (World.cell?_setCell_other _ _ _ _ (by simp)).trans h1
  exact ⟨h0, h1, by simp [World.frozen?, hb], by simp [World.frozen?, hb], fun x y => (World.cell?_setCell_other _ _ _ _ (by simp)).trans (World.cell?_setCell_same _ _ _ h0), fun x y => World.cell?_setCell_same _ _ _ (h2 x)⟩
theorem below_box {w W : World} {o : Obj} (h : Below (w.alloc o).heap.size (w.alloc o) W) : Below w.heap.size w W := ((Below.refl _ _).alloc (Nat.le_refl _) _).trans (h.mono (by simp))
theorem ends_find {l : List UInt8} {b : UInt8} : (findL b l = none ∧ l.contains b = false) ∨ ∃ q, findL b l = some q ∧ l.contains b = true := by
  have h := findL_in b l
  cases hf : findL b l with
  | none => exact .inl ⟨rfl, by rw [h, hf]; rfl⟩
  | some q => exact .inr ⟨q, rfl, by rw [h, hf]; rfl⟩

set_option maxHeartbeats 1000000 in
theorem specXmlAttr_out (s : ByteArray) (at' : Int) (w : World) (h : at' < 0 ∨ (s.size : Int) < at') :
    Calls Tryz.prog 66 #[.string s, .int .i64 at'] w fun e w' => e = .returned (.tuple #[.agg #[.string ⟨#[]⟩, .string ⟨#[]⟩], .int .i64 (-1)]) ∧ Below w.heap.size w w' := by
  have HN : ∀ W, Calls Tryz.prog 37 #[.string s, .int .i64 at'] W fun e w' => e = .returned (.tuple #[.string ⟨#[]⟩, .int .i64 at']) ∧ Below W.heap.size W w' := fun W => (specXmlName_out s at' W h).mono fun e w' h => ⟨h.1, h.2 ▸ Below.refl _ _⟩
  have ge : ((⟨#[]⟩ : ByteArray).toList == []) = true := by rw [ByteArray.toList_mk]; rfl
  clear h
  go_enter Tryz.func66, Tryz.ntmps66
  go_wp2_with fail
  refine (HN _).mono ?_
  rintro e w1 ⟨rfl, b1⟩
  have X : Hid (Box2 _ w.heap.size) := Box2.of b1
  have B : Hid (Below w.heap.size w _) := below_box b1
  clear b1
  have t0 := X.out.s0 (.string ⟨#[]⟩) (.string ⟨#[]⟩)
  have t1 := X.out.s1 (.string ⟨#[]⟩) (.string ⟨#[]⟩)
  obtain ⟨hx, hy, hf, hg, _, _⟩ := X.out
  go_wp2_with fail
  refine bodyPost_ret (v := .tuple #[.agg #[.string ⟨#[]⟩, .string ⟨#[]⟩], .int .i64 (-1)]) ?_ rfl ⟨rfl, ?_⟩
  · simp [results, Tryz.results66, go_sem, t0, t1]
  · exact (B.out.setCell (Nat.le_refl _) _).setCell (Nat.le_refl _) _

set_option maxRecDepth 20000 in
set_option maxHeartbeats 4000000 in
theorem specXmlAttr_in (s : ByteArray) (k : Nat) (w : World) (hk : k ≤ s.size) (hs : s.size ≤ 1073741824) :
    Calls Tryz.prog 66 #[.string s, .int .i64 (k : Int)] w fun e w' => e = .returned (attrV s k (xattrR s k)) ∧ Below w.heap.size w w' := by
  have HN := fun W => specXmlName_in s k W hk (by omega)
  have hn := xnameE_le s _ k true (Nat.le_refl _) hk
  obtain ⟨n, HnE⟩ : ∃ n, Hid (xnameE s true k = n) := ⟨_, rfl⟩
  rw [HnE.out] at hn HN
  have hsz : (s.extract k n).size = n - k := by rw [ByteArray.size_extract]; omega
  by_cases hnk : n = k
  · have ex : s.extract k n = ⟨#[]⟩ := empty_of (by rw [hsz, hnk]; omega)
    have ge : ((s.extract k n).toList == []) = true := by rw [ex, ByteArray.toList_mk]; rfl
    clear ex
    have Hx : Hid (xattrR s k = none) := by show _ = _; unfold xattrR; simp only; rw [HnE.out, if_pos (.inl hnk)]
    clear hnk hsz
    go_enter Tryz.func66, Tryz.ntmps66
    go_wp2_with fail
    refine (HN _).mono ?_
    rintro e w1 ⟨rfl, b1⟩
    have X : Hid (Box2 _ w.heap.size) := Box2.of b1
    have B : Hid (Below w.heap.size w _) := below_box b1
    clear b1
    have t0 := X.out.s0 (.string ⟨#[]⟩) (.string ⟨#[]⟩)
    have t1 := X.out.s1 (.string ⟨#[]⟩) (.string ⟨#[]⟩)
    obtain ⟨hx, hy, hf, hg, _, _⟩ := X.out
    go_wp2_with fail
    refine bodyPost_ret (v := .tuple #[.agg #[.string ⟨#[]⟩, .string ⟨#[]⟩], .int .i64 (-1)]) ?_ rfl ⟨by rw [Hx.out]; rfl, ?_⟩
    · simp [results, Tryz.results66, go_sem, t0, t1]
    · exact (B.out.setCell (Nat.le_refl _) _).setCell (Nat.le_refl _) _
  have ge : ((s.extract k n).toList == []) = false := not_empty (by rw [hsz]; omega)
  clear hsz
  have HS := fun W => specStands s n eqB W (by omega) (by omega) (by decide)
  cases hst : standsB s n eqB
  · have Hx : Hid (xattrR s k = none) := by show _ = _; unfold xattrR; simp only; rw [HnE.out, if_pos (.inr hst)]
    rw [hst] at HS
    clear hst hnk
    go_enter Tryz.func66, Tryz.ntmps66
    go_wp2_with fail
    refine (HN _).mono ?_
    rintro e w1 ⟨rfl, b1⟩
    go_wp2_with fail
    refine (HS _).mono ?_
    rintro e w2 ⟨rfl, rfl⟩
    have X : Hid (Box2 _ w.heap.size) := Box2.of b1
    have B : Hid (Below w.heap.size w _) := below_box b1
    clear b1
    have t0 := X.out.s0 (.string ⟨#[]⟩) (.string ⟨#[]⟩)
    have t1 := X.out.s1 (.string ⟨#[]⟩) (.string ⟨#[]⟩)
    obtain ⟨hx, hy, hf, hg, _, _⟩ := X.out
    go_wp2_with fail
    refine bodyPost_ret (v := .tuple #[.agg #[.string ⟨#[]⟩, .string ⟨#[]⟩], .int .i64 (-1)]) ?_ rfl ⟨by rw [Hx.out]; rfl, ?_⟩
    · simp [results, Tryz.results66, go_sem, t0, t1]
    · exact (B.out.setCell (Nat.le_refl _) _).setCell (Nat.le_refl _) _
  have hl := stands_le hst
  have hl2 : n + 2 ≤ s.size := hl
  have HT : ∀ W, Calls Tryz.prog 70 #[.string s, .int .i64 ((n : Int) + 2), .string ⟨#[34]⟩] W fun e w' => e = .returned (textV (xtextR s [34] (n + 2))) ∧ Below W.heap.size W w' := fun W => specXmlText_in s (n + 2) ⟨#[34]⟩ W hl2 (by omega) (by decide)
  have Hd : Hid (xattrR s k = match xtextR s [34] (n + 2) with | none => none | some (v, m) => if ¬ m < s.size ∨ ((s.extract (n + 2) m).data.toList.contains 9 || (s.extract (n + 2) m).data.toList.contains 10) = true then none else some (n, v, m)) := by show _ = _; unfold xattrR; simp only; rw [HnE.out, if_neg (fun h => h.elim hnk (fun h => by rw [hst] at h; cases h))]; rfl
  rw [hst] at HS
  clear hst hl HnE hnk
  have q1 : IntKind.i64.wrap ((n : Int) + 2) = (n : Int) + 2 := IntWalk.i64_in _ (by omega)
  cases hx : xtextR s [34] (n + 2) with
  | none =>
    have Hx : Hid (xattrR s k = none) := by show _ = _; rw [Hd.out, hx]
    rw [hx] at HT
    clear hx Hd
    go_enter Tryz.func66, Tryz.ntmps66
    go_wp2_with fail
    refine (HN _).mono ?_
    rintro e w1 ⟨rfl, b1⟩
    go_wp2_with fail
    refine (HS _).mono ?_
    rintro e w2 ⟨rfl, rfl⟩
    go_wp2_with fail
    refine (HT _).mono ?_
    rintro e w3 ⟨rfl, b3⟩
    simp only [textV]
    replace b1 := b1.trans (b3.mono b1.size)
    clear b3
    have X : Hid (Box2 _ w.heap.size) := Box2.of b1
    have B : Hid (Below w.heap.size w _) := below_box b1
    clear b1
    have t0 := X.out.s0 (.string ⟨#[]⟩) (.string ⟨#[]⟩)
    have t1 := X.out.s1 (.string ⟨#[]⟩) (.string ⟨#[]⟩)
    obtain ⟨hx, hy, hf, hg, _, _⟩ := X.out
    go_wp2_with fail
    refine bodyPost_ret (v := .tuple #[.agg #[.string ⟨#[]⟩, .string ⟨#[]⟩], .int .i64 (-1)]) ?_ rfl ⟨by rw [Hx.out]; rfl, ?_⟩
    · simp [results, Tryz.results66, go_sem, t0, t1]
    · exact (B.out.setCell (Nat.le_refl _) _).setCell (Nat.le_refl _) _
  | some r =>
    obtain ⟨v, m⟩ := r
    have hm := xtextR_le s [34] _ (n + 2) (v, m) (Nat.le_refl _) hl2 hx
    simp only at hm
    have Hd2 : Hid (xattrR s k = if ¬ m < s.size ∨ ((s.extract (n + 2) m).data.toList.contains 9 || (s.extract (n + 2) m).data.toList.contains 10) = true then none else some (n, v, m)) := by show _ = _; rw [Hd.out, hx]
    rw [hx] at HT
    clear hx Hd
    have g0 : decide ((m : Int) < 0) = false := decide_eq_false (by omega)
    by_cases hlt : m < s.size
    · have g1 : decide ((s.size : Int) ≤ (m : Int)) = false := decide_eq_false (by omega)
      have p1 : (0 : Int) ≤ (n : Int) + 2 := by omega
      have p2 : (n : Int) + 2 ≤ (m : Int) := by omega
      have p3 : (m : Int) ≤ (s.size : Int) := by omega
      have p4 : ((n : Int) + 2).toNat = n + 2 := by omega
      have p5 : IntKind.i64.wrap ((m : Int) + 1) = (m : Int) + 1 := IntWalk.i64_in _ (by omega)
      have p6 : (0 : Int) ≤ (m : Int) := by omega
      have hz : (s.extract (n + 2) m).size ≤ 17592186044416 := by rw [ByteArray.size_extract]; omega
      have H9 := fun W => specFind (s.extract (n + 2) m) 0 9 W (Nat.zero_le _) hz
      have H10 := fun W => specFind (s.extract (n + 2) m) 0 10 W (Nat.zero_le _) hz
      rw [findE_zero] at H9 H10
      clear hz
      rcases ends_find (l := (s.extract (n + 2) m).data.toList) (b := 9) with ⟨e9, c9⟩ | ⟨q, e9, c9⟩
      · rw [e9] at H9
        rcases ends_find (l := (s.extract (n + 2) m).data.toList) (b := 10) with ⟨e10, c10⟩ | ⟨q, e10, c10⟩
        · rw [e10] at H10
          have Hx : Hid (xattrR s k = some (n, v, m)) := by show _ = _; rw [Hd2.out, if_neg (fun h => h.elim (fun h => h hlt) (fun h => by rw [c9, c10] at h; cases h))]
          clear e9 e10 c9 c10 Hd2
          go_enter Tryz.func66, Tryz.ntmps66
          go_wp2_with fail
          refine (HN _).mono ?_
          rintro e w1 ⟨rfl, b1⟩
          go_wp2_with fail
          refine (HS _).mono ?_
          rintro e w2 ⟨rfl, rfl⟩
          go_wp2_with fail
          refine (HT _).mono ?_
          rintro e w3 ⟨rfl, b3⟩
          simp only [textV]
          replace b1 := b1.trans (b3.mono b1.size)
          clear b3
          go_wp2_with fail
          refine (H9 _).mono ?_
          rintro e w4 ⟨rfl, rfl⟩
          simp only [findV]
          go_wp2_with fail
          refine (H10 _).mono ?_
          rintro e w4 ⟨rfl, rfl⟩
          simp only [findV]
          have X : Hid (Box2 _ w.heap.size) := Box2.of b1
          have B : Hid (Below w.heap.size w _) := below_box b1
          clear b1
          have t0 := X.out.s0 (.string (s.extract k n)) (.string (strB v))
          have t1 := X.out.s1 (.string (s.extract k n)) (.string (strB v))
          obtain ⟨hx, hy, hf, hg, _, _⟩ := X.out
          go_wp2_with fail
          refine bodyPost_ret (v := .tuple #[.agg #[.string (s.extract k n), .string (strB v)], .int .i64 ((m + 1 : Nat) : Int)]) ?_ rfl ⟨by rw [Hx.out]; rfl, ?_⟩
          · simp [results, Tryz.results66, go_sem, t0, t1]
          · exact (B.out.setCell (Nat.le_refl _) _).setCell (Nat.le_refl _) _
        · rw [e10] at H10
          have gq : decide ((0 : Int) ≤ (q : Int)) = true := decide_eq_true (by omega)
          have Hx : Hid (xattrR s k = none) := by show _ = _; rw [Hd2.out, if_pos (.inr (by rw [c9, c10]; rfl))]
          clear e9 e10 c9 c10 Hd2
          go_enter Tryz.func66, Tryz.ntmps66
          go_wp2_with fail
          refine (HN _).mono ?_
          rintro e w1 ⟨rfl, b1⟩
          go_wp2_with fail
          refine (HS _).mono ?_
          rintro e w2 ⟨rfl, rfl⟩
          go_wp2_with fail
          refine (HT _).mono ?_
          rintro e w3 ⟨rfl, b3⟩
          simp only [textV]
          replace b1 := b1.trans (b3.mono b1.size)
          clear b3
          go_wp2_with fail
          refine (H9 _).mono ?_
          rintro e w4 ⟨rfl, rfl⟩
          simp only [findV]
          go_wp2_with fail
          refine (H10 _).mono ?_
          rintro e w4 ⟨rfl, rfl⟩
          simp only [findV]
          have X : Hid (Box2 _ w.heap.size) := Box2.of b1
          have B : Hid (Below w.heap.size w _) := below_box b1
          clear b1
          have t0 := X.out.s0 (.string ⟨#[]⟩) (.string ⟨#[]⟩)
          have t1 := X.out.s1 (.string ⟨#[]⟩) (.string ⟨#[]⟩)
          obtain ⟨hx, hy, hf, hg, _, _⟩ := X.out
          go_wp2_with fail
          refine bodyPost_ret (v := .tuple #[.agg #[.string ⟨#[]⟩, .string ⟨#[]⟩], .int .i64 (-1)]) ?_ rfl ⟨by rw [Hx.out]; rfl, ?_⟩
          · simp [results, Tryz.results66, go_sem, t0, t1]
          · exact (B.out.setCell (Nat.le_refl _) _).setCell (Nat.le_refl _) _
      · rw [e9] at H9
        have gq : decide ((0 : Int) ≤ (q : Int)) = true := decide_eq_true (by omega)
        have Hx : Hid (xattrR s k = none) := by show _ = _; rw [Hd2.out, if_pos (.inr (by rw [c9]; rfl))]
        clear e9 c9 Hd2 H10
        go_enter Tryz.func66, Tryz.ntmps66
        go_wp2_with fail
        refine (HN _).mono ?_
        rintro e w1 ⟨rfl, b1⟩
        go_wp2_with fail
        refine (HS _).mono ?_
        rintro e w2 ⟨rfl, rfl⟩
        go_wp2_with fail
        refine (HT _).mono ?_
        rintro e w3 ⟨rfl, b3⟩
        simp only [textV]
        replace b1 := b1.trans (b3.mono b1.size)
        clear b3
        go_wp2_with fail
        refine (H9 _).mono ?_
        rintro e w4 ⟨rfl, rfl⟩
        simp only [findV]
        have X : Hid (Box2 _ w.heap.size) := Box2.of b1
        have B : Hid (Below w.heap.size w _) := below_box b1
        clear b1
        have t0 := X.out.s0 (.string ⟨#[]⟩) (.string ⟨#[]⟩)
        have t1 := X.out.s1 (.string ⟨#[]⟩) (.string ⟨#[]⟩)
        obtain ⟨hx, hy, hf, hg, _, _⟩ := X.out
        go_wp2_with fail
        refine bodyPost_ret (v := .tuple #[.agg #[.string ⟨#[]⟩, .string ⟨#[]⟩], .int .i64 (-1)]) ?_ rfl ⟨by rw [Hx.out]; rfl, ?_⟩
        · simp [results, Tryz.results66, go_sem, t0, t1]
        · exact (B.out.setCell (Nat.le_refl _) _).setCell (Nat.le_refl _) _
    · have g1 : decide ((s.size : Int) ≤ (m : Int)) = true := decide_eq_true (by omega)
      have Hx : Hid (xattrR s k = none) := by show _ = _; rw [Hd2.out, if_pos (.inl hlt)]
      clear Hd2
      go_enter Tryz.func66, Tryz.ntmps66
      go_wp2_with fail
      refine (HN _).mono ?_
      rintro e w1 ⟨rfl, b1⟩
      go_wp2_with fail
      refine (HS _).mono ?_
      rintro e w2 ⟨rfl, rfl⟩
      go_wp2_with fail
      refine (HT _).mono ?_
      rintro e w3 ⟨rfl, b3⟩
      simp only [textV]
      replace b1 := b1.trans (b3.mono b1.size)
      clear b3
      have X : Hid (Box2 _ w.heap.size) := Box2.of b1
      have B : Hid (Below w.heap.size w _) := below_box b1
      clear b1
      have t0 := X.out.s0 (.string ⟨#[]⟩) (.string ⟨#[]⟩)
      have t1 := X.out.s1 (.string ⟨#[]⟩) (.string ⟨#[]⟩)
      obtain ⟨hx, hy, hf, hg, _, _⟩ := X.out
      go_wp2_with fail
      refine bodyPost_ret (v := .tuple #[.agg #[.string ⟨#[]⟩, .string ⟨#[]⟩], .int .i64 (-1)]) ?_ rfl ⟨by rw [Hx.out]; rfl, ?_⟩
      · simp [results, Tryz.results66, go_sem, t0, t1]
      · exact (B.out.setCell (Nat.le_refl _) _).setCell (Nat.le_refl _) _

end Go.Proofs.YtbmmghkieolpkaaGreatDoor.Sg
