/- Contract of the model's Attrs. -/
import Derived.Test.YtlaidaghmhmgbaaDoorTkAttrPQ
import Derived.Test.YtlaidaghmhmgbaaDoorM03
namespace Go.Proofs.YtlaidaghmhmgbaaDoor.Sg
open Go.ChangeShapes Go.WideShapes Go.ChangeAt Go.RowKit

theorem info_attr : (Tryd.prog.info? 37).map (fun i => (i.zero, i.size, i.bytes)) = some (some (.agg #[.string ⟨#[]⟩, .string ⟨#[]⟩]), 2, 32) := by kernel_rfl

theorem two_at (w : World) (x y : Value) (t : TypeId) : ∀ j u, ([x, y])[j]? = some u → (w.alloc (.cells #[x, y] t)).cell? ((⟨w.heap.size, 0, none⟩ : Addr).add j) = some u := by
  intro j u hj
  match j, hj with
  | 0, hj => simp at hj; subst hj; simp [Addr.add]
  | 1, hj => simp at hj; subst hj; simp [Addr.add]
theorem two_one (x y : ByteArray) : ∀ u ∈ [Value.string x, Value.string y], u.oneCell' = true := by
  intro u hu
  simp at hu
  rcases hu with rfl | rfl <;> rfl

theorem selfE_no {s : ByteArray} {k m : Nat} (h : m < s.size) : selfE s k m = false := by
  unfold selfE
  rw [decide_eq_false (by omega)]
  rfl
theorem selfE_at {s : ByteArray} {k m : Nat} (h : m = s.size) (hk : k < m) (h1 : m - 1 < s.size) : selfE s k m = decide ((s[m - 1]'h1).toNat = 47) := by
  unfold selfE
  rw [decide_eq_true h, decide_eq_true hk, head_at h1]
  simp

theorem attrAt_val {s : ByteArray} {m e q r : Nat} (he : nameE false s m = e) (hq : runE blankU s e = q) (h : q < s.size) (h61 : (s[q]'h).toNat = 61) (hr : runE blankU s (q + 1) = r) :
    attrAt s m = ((smallS (s.extract m e), strB (refsL true (valE s r).1.data.toList)), (valE s r).2) := by
  unfold attrAt
  rw [he, hq, hr, head_at h, if_pos (by simp [h61])]
theorem attrAt_none {s : ByteArray} {m e q : Nat} (he : nameE false s m = e) (hq : runE blankU s e = q) (h : q < s.size) (h61 : (s[q]'h).toNat ≠ 61) : attrAt s m = ((smallS (s.extract m e), ⟨#[]⟩), e) := by
  unfold attrAt
  rw [he, hq, head_at h, if_neg (by simp [h61])]
theorem attrAt_last {s : ByteArray} {m e q : Nat} (he : nameE false s m = e) (hq : runE blankU s e = q) (h : ¬ q < s.size) : attrAt s m = ((smallS (s.extract m e), ⟨#[]⟩), e) := by
  unfold attrAt
  rw [he, hq, head_end h, if_neg (by simp)]

/-- What the model's Attrs hands back. -/
def AttrsBack (w : World) (base : Nat) (r : List AttrB × Bool) (e : Ending) (w' : World) : Prop :=
  ∃ v, e = .returned (.tuple #[v, .bool r.2]) ∧ w'.ownsRow base 37 2 v r.1.length (attrCells r.1) ∧ Below w.heap.size w w'

theorem own_grown2 {w w2 : World} {B : Nat} {e : TypeId} {z : Nat} {v : Value} {n : Nat} {xs : List Value} {B0 : Nat} {w0 : World} (hown : w.ownsRow B e z v n xs) (hb : Below B0 w0 w) (hB : B0 ≤ B) (hg : w.grownBy w2 v.ownBlock) (hsz : B0 ≤ w.heap.size) : Below B0 w0 w2 :=
  hb.grown hg hsz (by
    intro r hr
    obtain ⟨_, h⟩ := hown
    rcases h with ⟨h, _⟩ | ⟨g, _, _, h, hg, _⟩
    · rw [h] at hr
      simp [Value.ownBlock] at hr
    · rw [h] at hr
      simp [Value.ownBlock] at hr
      omega)

theorem cell_lt {w : World} {b i : Nat} {v : Value} (h : w.cell? ⟨b, i, none⟩ = some v) : b < w.heap.size := by
  unfold World.cell? at h
  simp only at h
  cases hh : w.heap[b]? with
  | none => rw [hh] at h; cases h
  | some o => exact (Array.getElem?_eq_some_iff.1 hh).1

theorem attrs_ret {w w' : World} {base : Nat} {r : List AttrB × Bool} {out : List AttrB} {b : Bool} {v : Value} (h : r = (out, b)) (ho : w'.ownsRow base 37 2 v out.length (attrCells out)) (hb : Below w.heap.size w w') :
    AttrsBack w base r (.returned (.tuple #[v, .bool b])) w' := by
  subst h
  exact ⟨v, rfl, ho, hb⟩

set_option maxRecDepth 20000 in
set_option maxHeartbeats 8000000 in
theorem specAttrs (s : ByteArray) (w : World) (hs : s.size ≤ 1099511627776) :
    Calls Tryd.prog 12 #[.string s] w fun e w' => AttrsBack w w.heap.size (attrsE s 0 [] false) e w' := by
  obtain ⟨i0, hi0, hz0, hz1, hz2⟩ := info_parts info_attr
  have Hi : Hid (Tryd.prog.info? 37 = some i0) := hi0
  have Hz0 : Hid (i0.zero = some (.agg #[.string ⟨#[]⟩, .string ⟨#[]⟩])) := hz0
  have Hz1 : Hid (i0.size = 2) := hz1
  have Hz2 : Hid (i0.bytes = 32) := hz2
  clear hi0 hz0 hz1 hz2
  go_enter Tryd.func12, Tryd.ntmps12
  go_wp2
  go_loopw [4, 5, 6] (fun v sv kv wr => ∃ (k : Nat) (out : List AttrB) (self : Bool), k ≤ s.size ∧ out.length ≤ k ∧ kv = .int .i64 (k : Int) ∧ sv = .bool self ∧ wr.ownsRow w.heap.size 37 2 v out.length (attrCells out) ∧ Below w.heap.size w wr ∧ Hid (attrsE s 0 [] false = attrsE s k out self)) (fun _ _ kv _ => s.size - (intOf kv).toNat)
  case atStart =>
    refine ⟨0, [], false, Nat.zero_le _, Nat.le_refl _, rfl, rfl, ⟨rfl, .inr ⟨w.heap.size, 0, #[], rfl, Nat.le_refl _, ?_, Nat.le_refl _, Nat.zero_le _, rfl, rfl⟩⟩, (Below.refl _ _).alloc (Nat.le_refl _) _, rfl⟩
    show (w.heap.push _)[w.heap.size]? = _
    simp
  case round =>
    obtain ⟨k, out, self, hk, hol, rfl, rfl, hown, hbel, Hsp⟩ := hrel
    by_cases hlt : k < s.size
    · have hm := runE_le (p := skipU) hk
      have Hk1 := fun w : World => specSkip s k w hk (by omega)
      obtain ⟨m, He1⟩ : ∃ m, Hid (runE skipU s k = m) := ⟨_, rfl⟩
      rw [He1.out] at hm Hk1
      by_cases h2 : m < s.size
      · have hst := Hsp.out.trans (attrsE_goes hlt He1.out h2)
        have hat := attrAt_le He1.out h2
        have g1 : ((m : Int) == (s.size : Int)) = false := by simp; omega
        have g1' : ¬ m = s.size := by omega
        have hn := nameE_le (angle := false) hm.2
        have Hn1 := fun w : World => specName s m false w hm.2 (by omega)
        obtain ⟨en, Hen⟩ : ∃ en, Hid (nameE false s m = en) := ⟨_, rfl⟩
        rw [Hen.out] at hn Hn1
        have hb := runE_le (p := blankU) hn.2
        have Hb2 := fun w : World => specBlanks s en w hn.2 (by omega)
        obtain ⟨q, Heq⟩ : ∃ q, Hid (runE blankU s en = q) := ⟨_, rfl⟩
        rw [Heq.out] at hb Hb2
        have g2 : (m : Int) ≤ (en : Int) := by omega
        have g3 : (en : Int) ≤ (s.size : Int) := by omega
        have Hsm : Hid (∀ w : World, Calls Tryd.prog 40 #[.string (s.extract m en)] w fun e w' => e = .returned (.string (smallS (s.extract m en))) ∧ Below w.heap.size w w') := fun w => specSmall _ w (by simp only [ByteArray.size_extract]; omega)
        have hv0 := fun h => attrAt_last (s := s) (m := m) Hen.out Heq.out h
        have hv1 := fun h h61 => attrAt_none (s := s) (m := m) Hen.out Heq.out h h61
        have hv2 := fun r h h61 hr => attrAt_val (s := s) (m := m) (r := r) Hen.out Heq.out h h61 hr
        generalize smallS (s.extract m en) = nm at *
        clear Hsp He1 Hen Heq
        by_cases h4 : q < s.size
        · have g4 : (q : Int) < (s.size : Int) := by omega
          by_cases q61 : (s[q]'h4).toNat = 61
          · have g61 : (((s[q]'h4).toNat : Int) == 61) = true := by simp [q61]
            have hr := runE_le (p := blankU) (s := s) (k := q + 1) h4
            have Hb3 : Hid (∀ w : World, Calls Tryd.prog 41 #[.string s, .int .i64 ((q : Int) + 1)] w fun e w' => e = .returned (.int .i64 (runE blankU s (q + 1) : Int)) ∧ w' = w) := fun w => specBlanks s (q + 1) w h4 (by omega)
            obtain ⟨r, Her⟩ : ∃ r, Hid (runE blankU s (q + 1) = r) := ⟨_, rfl⟩
            rw [Her.out] at hr Hb3
            rw [hv2 r h4 q61 Her.out] at hst hat
            have hvl := valE_le hr.2
            have Hvl := fun w : World => specValue s r w hr.2 (by omega)
            have Hrf : Hid (∀ w : World, Calls Tryd.prog 23 #[.string (valE s r).1, .bool true] w fun e w' => e = .returned (.string (strB (refsL true (valE s r).1.data.toList))) ∧ Below w.heap.size w w') := fun w => specRefs _ true w (by omega)
            generalize strB (refsL true (valE s r).1.data.toList) = vl at *
            generalize valE s r = vr at *
            obtain ⟨vx, kt⟩ := vr
            simp only at hst hat hvl Hvl Hrf
            clear hv0 hv1 hv2 q61 Her
            go_wp2_with fail
            refine (Hk1 _).mono ?_
            rintro e w1 ⟨rfl, rfl⟩
            go_wp2_with fail
            refine (Hn1 _).mono ?_
            rintro e w1 ⟨rfl, rfl⟩
            go_wp2_with fail
            refine (Hsm.out _).mono ?_
            rintro e w1 ⟨rfl, b1⟩
            have hown1 := owns_below hown (Nat.le_refl _) b1
            have hbel1 : Below w.heap.size w w1 := hbel.trans (b1.mono hbel.size)
            clear hown hbel b1
            go_wp2_with fail
            refine (Hb2 _).mono ?_
            rintro e w2 ⟨rfl, hw2⟩
            have k0 : w2.cell? ⟨w1.heap.size, 0, none⟩ = some (.string nm) := by rw [hw2]; simp
            have k1 : w2.cell? ⟨w1.heap.size, 1, none⟩ = some (.string ⟨#[]⟩) := by rw [hw2]; simp
            have kf : w2.frozen? ⟨w1.heap.size, 1, none⟩ = false := by rw [hw2]; simp
            have kb : Below w1.heap.size w1 w2 := by rw [hw2]; first | exact (Below.refl _ _).alloc (Nat.le_refl _) _ | exact ((Below.refl _ _).alloc (Nat.le_refl _) _).setCell (Nat.le_refl _) _ | exact (((Below.refl _ _).alloc (Nat.le_refl _) _).setCell (Nat.le_refl _) _).setCell (Nat.le_refl _) _
            clear hw2
            go_wp2_with fail
            refine (Hb3.out _).mono ?_
            rintro e w3 ⟨rfl, rfl⟩
            go_wp2_with fail
            refine (Hvl _).mono ?_
            rintro e w3 ⟨rfl, rfl⟩
            go_wp2_with fail
            refine (Hrf.out _).mono ?_
            rintro e w4 ⟨rfl, b4⟩
            have kz : w1.heap.size < w3.heap.size := cell_lt k0
            have j0 : w4.cell? ⟨w1.heap.size, 0, none⟩ = some (.string nm) := (b4.cell kz).trans k0
            have j1 : w4.cell? ⟨w1.heap.size, 1, none⟩ = some (.string ⟨#[]⟩) := (b4.cell kz).trans k1
            have jf : w4.frozen? ⟨w1.heap.size, 1, none⟩ = false := (b4.frozen kz).trans kf
            have kb4 : Below w1.heap.size w1 (w4.setCell ⟨w1.heap.size, 1, none⟩ (.string vl)) := (kb.trans (b4.mono kb.size)).setCell (Nat.le_refl _) _
            have m0 : (w4.setCell ⟨w1.heap.size, 1, none⟩ (.string vl)).cell? ⟨w1.heap.size, 0, none⟩ = some (.string nm) := (World.cell?_setCell_other _ _ _ _ (by simp)).trans j0
            have m1 : (w4.setCell ⟨w1.heap.size, 1, none⟩ (.string vl)).cell? ⟨w1.heap.size, 1, none⟩ = some (.string vl) := World.cell?_setCell_same _ _ _ j1
            have hownW := owns_below hown1 (Nat.le_refl _) kb4
            have hbelW : Below w.heap.size w (w4.setCell ⟨w1.heap.size, 1, none⟩ (.string vl)) := hbel1.trans (kb4.mono hbel1.size)
            clear hown1 hbel1 kb b4 kz k0 k1 kf kb4
            obtain ⟨a, cap, rfl, hAt⟩ := attrs_of_own hownW
            have Hhas : Hid (∀ W : World, W = w4.setCell ⟨w1.heap.size, 1, none⟩ (.string vl) → Calls Tryd.prog 43 #[.slice a out.length cap, .string nm] W fun e w' => e = .returned (.bool (hasA out nm)) ∧ w' = W) := fun W hW => by subst hW; exact specHas out nm a out.length cap _ hAt rfl (by omega)
            clear hAt
            go_wp2_with fail
            cases hh : hasA out nm
            · have Hst : Hid (attrsE s 0 [] false = attrsE s kt (out ++ [(nm, vl)]) false) := by
                show _ = _
                rw [hst, hh]
                rfl
              rw [hh] at Hhas
              clear hst hh
              refine (Hhas.out _ rfl).mono ?_
              rintro e w6 ⟨rfl, h6⟩
              rw [← h6] at m0 m1 hownW hbelW
              clear h6
              go_wp2_with (at_builtin; refine wpList_append_own _ rfl (.tmp 83) (.tmp 85) 28 rfl w.heap.size 37 i0 (.agg #[.string ⟨#[]⟩, .string ⟨#[]⟩]) 2 32 Tryd.underlying28 Hi.out Hz0.out Hz1.out Hz2.out rfl (by decide) _ out.length (attrCells out) rfl (hownW.alloc _) ⟨_, 0, none⟩ 1 1 [.string nm, .string vl] rfl rfl (two_at _ _ _ _) (two_one _ _) ?c3 ?c4 ?c5 ?_)
              case c3 => unfold maxLen; omega
              case c4 => omega
              case c5 => have := hbelW.size; first | omega | (simp; omega)
              intro v' w5 hown' hgrow _
              have hbel5 : Below w.heap.size w w5 := own_grown2 (hownW.alloc _) (hbelW.alloc hbelW.size _) (Nat.le_refl _) hgrow (by have := hbelW.size; simp; omega)
              have hown5 : w5.ownsRow w.heap.size 37 2 v' (out ++ [(nm, vl)]).length (attrCells (out ++ [(nm, vl)])) := by
                rw [List.length_append, attrCells_more]
                exact hown'
              clear hown' hgrow hownW hbelW
              go_wp2
              go_roundw
              case rel => exact ⟨kt, out ++ [(nm, vl)], false, by omega, by rw [List.length_append]; show out.length + 1 ≤ kt; omega, by go_num, rfl, hown5, hbel5, Hst⟩
              case measure => simp [intOf]; omega
            · have Hst : Hid (attrsE s 0 [] false = attrsE s kt out false) := by
                show _ = _
                rw [hst, hh]
                rfl
              rw [hh] at Hhas
              clear hst hh
              refine (Hhas.out _ rfl).mono ?_
              rintro e w6 ⟨rfl, h6⟩
              rw [← h6] at hownW hbelW
              clear h6
              go_wp2
              go_roundw
              case rel => exact ⟨kt, out, false, by omega, by omega, by go_num, rfl, hownW, hbelW, Hst⟩
              case measure => simp [intOf]; omega
          · have g61 : (((s[q]'h4).toNat : Int) == 61) = false := by simp; omega
            rw [hv1 h4 q61] at hst hat
            clear hv0 hv1 hv2 q61
            go_wp2_with fail
            refine (Hk1 _).mono ?_
            rintro e w1 ⟨rfl, rfl⟩
            go_wp2_with fail
            refine (Hn1 _).mono ?_
            rintro e w1 ⟨rfl, rfl⟩
            go_wp2_with fail
            refine (Hsm.out _).mono ?_
            rintro e w1 ⟨rfl, b1⟩
            have hown1 := owns_below hown (Nat.le_refl _) b1
            have hbel1 : Below w.heap.size w w1 := hbel.trans (b1.mono hbel.size)
            clear hown hbel b1
            go_wp2_with fail
            refine (Hb2 _).mono ?_
            rintro e w2 ⟨rfl, hw2⟩
            have k0 : w2.cell? ⟨w1.heap.size, 0, none⟩ = some (.string nm) := by rw [hw2]; simp
            have k1 : w2.cell? ⟨w1.heap.size, 1, none⟩ = some (.string ⟨#[]⟩) := by rw [hw2]; simp
            have kf : w2.frozen? ⟨w1.heap.size, 1, none⟩ = false := by rw [hw2]; simp
            have kb : Below w1.heap.size w1 w2 := by rw [hw2]; first | exact (Below.refl _ _).alloc (Nat.le_refl _) _ | exact ((Below.refl _ _).alloc (Nat.le_refl _) _).setCell (Nat.le_refl _) _ | exact (((Below.refl _ _).alloc (Nat.le_refl _) _).setCell (Nat.le_refl _) _).setCell (Nat.le_refl _) _
            clear hw2
            have hownW := owns_below hown1 (Nat.le_refl _) kb
            have hbelW : Below w.heap.size w w2 := hbel1.trans (kb.mono hbel1.size)
            clear hown1 hbel1 kb
            obtain ⟨a, cap, rfl, hAt⟩ := attrs_of_own hownW
            have Hhas : Hid (∀ W : World, W = w2 → Calls Tryd.prog 43 #[.slice a out.length cap, .string nm] W fun e w' => e = .returned (.bool (hasA out nm)) ∧ w' = W) := fun W hW => by subst hW; exact specHas out nm a out.length cap _ hAt rfl (by omega)
            clear hAt
            go_wp2_with fail
            cases hh : hasA out nm
            · have Hst : Hid (attrsE s 0 [] false = attrsE s en (out ++ [(nm, (⟨#[]⟩ : ByteArray))]) false) := by
                show _ = _
                rw [hst, hh]
                rfl
              rw [hh] at Hhas
              clear hst hh
              refine (Hhas.out _ rfl).mono ?_
              rintro e w6 ⟨rfl, h6⟩
              rw [← h6] at k0 k1 hownW hbelW
              clear h6
              go_wp2_with (at_builtin; refine wpList_append_own _ rfl (.tmp 83) (.tmp 85) 28 rfl w.heap.size 37 i0 (.agg #[.string ⟨#[]⟩, .string ⟨#[]⟩]) 2 32 Tryd.underlying28 Hi.out Hz0.out Hz1.out Hz2.out rfl (by decide) _ out.length (attrCells out) rfl (hownW.alloc _) ⟨_, 0, none⟩ 1 1 [.string nm, .string (⟨#[]⟩ : ByteArray)] rfl rfl (two_at _ _ _ _) (two_one _ _) ?c3 ?c4 ?c5 ?_)
              case c3 => unfold maxLen; omega
              case c4 => omega
              case c5 => have := hbelW.size; first | omega | (simp; omega)
              intro v' w5 hown' hgrow _
              have hbel5 : Below w.heap.size w w5 := own_grown2 (hownW.alloc _) (hbelW.alloc hbelW.size _) (Nat.le_refl _) hgrow (by have := hbelW.size; simp; omega)
              have hown5 : w5.ownsRow w.heap.size 37 2 v' (out ++ [(nm, (⟨#[]⟩ : ByteArray))]).length (attrCells (out ++ [(nm, (⟨#[]⟩ : ByteArray))])) := by
                rw [List.length_append, attrCells_more]
                exact hown'
              clear hown' hgrow hownW hbelW
              go_wp2
              go_roundw
              case rel => exact ⟨en, out ++ [(nm, (⟨#[]⟩ : ByteArray))], false, by omega, by rw [List.length_append]; show out.length + 1 ≤ en; omega, by go_num, rfl, hown5, hbel5, Hst⟩
              case measure => simp [intOf]; omega
            · have Hst : Hid (attrsE s 0 [] false = attrsE s en out false) := by
                show _ = _
                rw [hst, hh]
                rfl
              rw [hh] at Hhas
              clear hst hh
              refine (Hhas.out _ rfl).mono ?_
              rintro e w6 ⟨rfl, h6⟩
              rw [← h6] at hownW hbelW
              clear h6
              go_wp2
              go_roundw
              case rel => exact ⟨en, out, false, by omega, by omega, by go_num, rfl, hownW, hbelW, Hst⟩
              case measure => simp [intOf]; omega
        · rw [hv0 h4] at hst hat
          clear hv0 hv1 hv2
          have g4 : decide ((q : Int) < (s.size : Int)) = false := decide_eq_false (by omega)
          go_wp2_with fail
          refine (Hk1 _).mono ?_
          rintro e w1 ⟨rfl, rfl⟩
          go_wp2_with fail
          refine (Hn1 _).mono ?_
          rintro e w1 ⟨rfl, rfl⟩
          go_wp2_with fail
          refine (Hsm.out _).mono ?_
          rintro e w1 ⟨rfl, b1⟩
          have hown1 := owns_below hown (Nat.le_refl _) b1
          have hbel1 : Below w.heap.size w w1 := hbel.trans (b1.mono hbel.size)
          clear hown hbel b1
          go_wp2_with fail
          refine (Hb2 _).mono ?_
          rintro e w2 ⟨rfl, hw2⟩
          have k0 : w2.cell? ⟨w1.heap.size, 0, none⟩ = some (.string nm) := by rw [hw2]; simp
          have k1 : w2.cell? ⟨w1.heap.size, 1, none⟩ = some (.string ⟨#[]⟩) := by rw [hw2]; simp
          have kf : w2.frozen? ⟨w1.heap.size, 1, none⟩ = false := by rw [hw2]; simp
          have kb : Below w1.heap.size w1 w2 := by rw [hw2]; first | exact (Below.refl _ _).alloc (Nat.le_refl _) _ | exact ((Below.refl _ _).alloc (Nat.le_refl _) _).setCell (Nat.le_refl _) _ | exact (((Below.refl _ _).alloc (Nat.le_refl _) _).setCell (Nat.le_refl _) _).setCell (Nat.le_refl _) _
          clear hw2
          have hownW := owns_below hown1 (Nat.le_refl _) kb
          have hbelW : Below w.heap.size w w2 := hbel1.trans (kb.mono hbel1.size)
          clear hown1 hbel1 kb
          obtain ⟨a, cap, rfl, hAt⟩ := attrs_of_own hownW
          have Hhas : Hid (∀ W : World, W = w2 → Calls Tryd.prog 43 #[.slice a out.length cap, .string nm] W fun e w' => e = .returned (.bool (hasA out nm)) ∧ w' = W) := fun W hW => by subst hW; exact specHas out nm a out.length cap _ hAt rfl (by omega)
          clear hAt
          go_wp2_with fail
          cases hh : hasA out nm
          · have Hst : Hid (attrsE s 0 [] false = attrsE s en (out ++ [(nm, (⟨#[]⟩ : ByteArray))]) false) := by
              show _ = _
              rw [hst, hh]
              rfl
            rw [hh] at Hhas
            clear hst hh
            refine (Hhas.out _ rfl).mono ?_
            rintro e w6 ⟨rfl, h6⟩
            rw [← h6] at k0 k1 hownW hbelW
            clear h6
            go_wp2_with (at_builtin; refine wpList_append_own _ rfl (.tmp 83) (.tmp 85) 28 rfl w.heap.size 37 i0 (.agg #[.string ⟨#[]⟩, .string ⟨#[]⟩]) 2 32 Tryd.underlying28 Hi.out Hz0.out Hz1.out Hz2.out rfl (by decide) _ out.length (attrCells out) rfl (hownW.alloc _) ⟨_, 0, none⟩ 1 1 [.string nm, .string (⟨#[]⟩ : ByteArray)] rfl rfl (two_at _ _ _ _) (two_one _ _) ?c3 ?c4 ?c5 ?_)
            case c3 => unfold maxLen; omega
            case c4 => omega
            case c5 => have := hbelW.size; first | omega | (simp; omega)
            intro v' w5 hown' hgrow _
            have hbel5 : Below w.heap.size w w5 := own_grown2 (hownW.alloc _) (hbelW.alloc hbelW.size _) (Nat.le_refl _) hgrow (by have := hbelW.size; simp; omega)
            have hown5 : w5.ownsRow w.heap.size 37 2 v' (out ++ [(nm, (⟨#[]⟩ : ByteArray))]).length (attrCells (out ++ [(nm, (⟨#[]⟩ : ByteArray))])) := by
              rw [List.length_append, attrCells_more]
              exact hown'
            clear hown' hgrow hownW hbelW
            go_wp2
            go_roundw
            case rel => exact ⟨en, out ++ [(nm, (⟨#[]⟩ : ByteArray))], false, by omega, by rw [List.length_append]; show out.length + 1 ≤ en; omega, by go_num, rfl, hown5, hbel5, Hst⟩
            case measure => simp [intOf]; omega
          · have Hst : Hid (attrsE s 0 [] false = attrsE s en out false) := by
              show _ = _
              rw [hst, hh]
              rfl
            rw [hh] at Hhas
            clear hst hh
            refine (Hhas.out _ rfl).mono ?_
            rintro e w6 ⟨rfl, h6⟩
            rw [← h6] at hownW hbelW
            clear h6
            go_wp2
            go_roundw
            case rel => exact ⟨en, out, false, by omega, by omega, by go_num, rfl, hownW, hbelW, Hst⟩
            case measure => simp [intOf]; omega
      · have h1 : m - 1 < s.size := by omega
        have hme : m = s.size := by omega
        have hst := Hsp.out.trans (attrsE_last hlt He1.out h2)
        rw [selfE_at hme (by omega) h1] at hst
        have g1 : ((m : Int) == (s.size : Int)) = true := by simp [hme]
        have g2 : (k : Int) < (m : Int) := by omega
        have g3 : (m : Int) - 1 < (s.size : Int) := by omega
        have g4 : (0 : Int) ≤ (m : Int) - 1 := by omega
        have g5 : ((m : Int) - 1).toNat = m - 1 := by omega
        by_cases q47 : (s[m - 1]'h1).toNat = 47
        · rw [decide_eq_true q47] at hst
          have Hst : Hid (attrsE s 0 [] false = (out, true)) := hst
          have g47 : (((s[m - 1]'h1).toNat : Int) == 47) = true := by simp [q47]
          clear hst q47 Hsp He1 hme h2
          go_wp2_with fail
          refine (Hk1 _).mono ?_
          rintro e w1 ⟨rfl, rfl⟩
          go_wp2
          go_ret2
          exact attrs_ret Hst.out hown hbel
        · rw [decide_eq_false q47] at hst
          have Hst : Hid (attrsE s 0 [] false = (out, false)) := hst
          have g47 : (((s[m - 1]'h1).toNat : Int) == 47) = false := by simp; omega
          clear hst q47 Hsp He1 hme h2
          go_wp2_with fail
          refine (Hk1 _).mono ?_
          rintro e w1 ⟨rfl, rfl⟩
          go_wp2
          go_ret2
          exact attrs_ret Hst.out hown hbel
    · have Hst : Hid (attrsE s 0 [] false = (out, self)) := Hsp.out.trans (attrsE_end hlt)
      have g0 : decide ((k : Int) < (s.size : Int)) = false := decide_eq_false (by omega)
      clear Hsp
      go_wp2
      go_ret2
      exact attrs_ret Hst.out hown hbel

end Go.Proofs.YtlaidaghmhmgbaaDoor.Sg
