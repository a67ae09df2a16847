/- Contract of the program's ElSize. Contract of the program's ElOk. Contract of the program's fewEls. Contract of the program's isTagAmongNotes; plain: when elements are a document. Contract of the program's DocOk. Contracts of the laws' marks of attributes: a slice that the call owns is marked, and the marks are found. Contract of the laws' marks of elements. Contract of the laws' look at marks of elements. The law of Read, out of the program's contract. -/
import Derived.Test.YtkngdlbedelgnaaGreatDoorRwRows
import Derived.Test.YtkngdlbedelgnaaGreatDoorEmRow
import Derived.Test.YtkngdlbedelgnaaGreatDoorMAG16
import Derived.Test.YtkngdlbedelgnaaGreatDoorMAG01
import Derived.Deep.RegionHeld3
namespace Go.Proofs.YtkngdlbedelgnaaGreatDoor.Sg
open Go.ChangeShapes Go.WideShapes Go.ChangeAt Go.RowKit Go.Shelf

attribute [local go_sem] Oper.semAt_some

theorem lenR_le {els0 : List ElB} {pre rest : List (List ElB × Nat)} (h : Vis [(els0, 1)] (pre ++ rest)) : lenR pre ≤ elsN els0 := by
  have h1 := vis_len h
  have h2 : lenR (pre ++ rest) = lenR pre + lenR rest := by simp [lenR]
  have h3 : wN [(els0, 1)] = elsN els0 := by simp [wN]
  omega

/-- Four blocks, one behind the other. -/
theorem four_blocks (w : World) (o0 o1 o2 o3 : Obj) : ((((w.alloc o0).alloc o1).alloc o2).alloc o3).heap.size = w.heap.size + 4 ∧ Below w.heap.size w ((((w.alloc o0).alloc o1).alloc o2).alloc o3) ∧ ((((w.alloc o0).alloc o1).alloc o2).alloc o3).heap[w.heap.size + 1]? = some o1 ∧ ((((w.alloc o0).alloc o1).alloc o2).alloc o3).heap[w.heap.size + 2]? = some o2 ∧ ((((w.alloc o0).alloc o1).alloc o2).alloc o3).heap[w.heap.size + 3]? = some o3 := by
  refine ⟨by simp, ((((Below.refl _ w).alloc (Nat.le_refl _) _).alloc (by simp) _).alloc (by simp; omega) _).alloc (by simp; omega) _, ?_, ?_, ?_⟩
  · have := World.alloc_heap_new (w.alloc o0) o1
    rw [World.size_alloc] at this
    exact (Below.heap_alloc _ _ _ (by simp)).trans ((Below.heap_alloc _ _ _ (by simp)).trans this)
  · have := World.alloc_heap_new ((w.alloc o0).alloc o1) o2
    rw [World.size_alloc, World.size_alloc] at this
    exact (Below.heap_alloc _ _ _ (by simp)).trans this
  · have := World.alloc_heap_new (((w.alloc o0).alloc o1).alloc o2) o3
    rw [World.size_alloc, World.size_alloc, World.size_alloc] at this
    exact this

end Go.Proofs.YtkngdlbedelgnaaGreatDoor.Sg

namespace Go.Proofs.YtkngdlbedelgnaaGreatDoor.Sg
open Go.ChangeShapes Go.WideShapes Go.ChangeAt Go.RowKit Go.Shelf

attribute [local go_sem] Oper.semAt_some

/-- A row that may be asked for. -/
def SmallR (r : List ElB × Nat) : Prop := ElsSmall r.1 ∧ r.1.length ≤ 16777216
theorem small_kids : ∀ {e : ElB}, ElSmall e → ElsSmall (kidsE e) ∧ (kidsE e).length ≤ 16777216
  | .mk kd sp nm ats tx ks, h => by
    unfold ElSmall at h
    exact ⟨h.2.2.2.2.2, h.2.2.2.2.1⟩
theorem push_small (d : Nat) : ∀ (els : List ElB), ElsSmall els → ∀ r ∈ pushP d els, SmallR r
  | [], _, r, h => nomatch h
  | e :: es, hs, r, h => by
    unfold ElsSmall at hs
    rw [pushP] at h
    split at h
    · exact push_small d es hs.2 r h
    · rcases List.mem_cons.1 h with rfl | h
      · exact small_kids hs.1
      · exact push_small d es hs.2 r h
theorem vis_small {st ys : List (List ElB × Nat)} (h : Vis st ys) : (∀ r ∈ st, SmallR r) → ∀ r ∈ ys, SmallR r := by
  induction h with
  | nil => intro _ r hr; cases hr
  | pop st r ys _ ih =>
    intro hs x hx
    have hr := hs r (by simp)
    rcases List.mem_cons.1 hx with rfl | hx
    · exact hr
    · exact ih (fun q hq => by
        rcases List.mem_append.1 hq with hq | hq
        · exact hs q (by simp [hq])
        · exact push_small _ _ hr.1 q hq) x hx
theorem keeps_below {B : Nat} {A C : World} (h : Below A.heap.size A C) : KeepsFrom B A C := ⟨h.size, fun k _ _ hk _ => (h.block k (Array.getElem?_eq_some_iff.1 hk).1).trans hk⟩
theorem good_snoc (pre : List RowX) (x : RowX) : ((pre ++ [x]).map RowX.p).all goodR = ((pre.map RowX.p).all goodR && (decide (x.deep ≤ 60) && rowOk false x.els)) := by
  rw [List.map_append, List.all_append]
  simp [goodR, RowX.p]

set_option maxRecDepth 100000 in
set_option maxHeartbeats 4000000 in
theorem implElOk (z : ElB) (lo : Nat) (v : Value) (w : World) (hx : ElV (QA lo) (lo ≤ ·) w v z) (hsm : ElSmall z) (hN : elN z ≤ 1099511627776) (hT : StLib w) :
    Calls Tryz.prog 41 #[v] w fun r w' => r = .returned (.bool (decide (elD z ≤ 60) && okE z)) ∧ Below w.heap.size w w' := by
  refine (callsIn_wide (n := 4)).1 ?_
  obtain ⟨c0, c1, c2, c3a, c3n, c3c, c4, c5a, c5n, c5c, rfl⟩ : ∃ c0 c1 c2 c3a c3n c3c c4 c5a c5n c5c, v = .agg #[.int .i64 c0, .int .i64 c1, .string c2, .slice c3a c3n c3c, .string c4, .slice c5a c5n c5c] := by
    obtain ⟨kd, sp, nm, ats, tx, ks⟩ := z
    obtain ⟨av, ka, kc, e, ⟨xa, xc, rfl, _⟩, _⟩ := hx
    exact ⟨_, _, _, _, _, _, _, _, _, _, e⟩
  have HV : Hid (ElV (QB (w.heap.size + 3)) (· < w.heap.size + 3) w (.agg #[.int .i64 c0, .int .i64 c1, .string c2, .slice c3a c3n c3c, .string c4, .slice c5a c5n c5c]) z) := (elV_first hx).widen (by omega)
  have HT : Hid (StLib w) := hT
  have HS : Hid (∀ r ∈ [([z], 1)], SmallR r) := fun r hr => by
    simp only [List.mem_singleton] at hr
    subst hr
    exact ⟨by unfold ElsSmall; exact ⟨hsm, by unfold ElsSmall; trivial⟩, by simp⟩
  have hVb := elV_first hx
  clear hx hT hsm
  refine callsIn_of_wp_marks Tryz.func41 rfl trivial ?_ rfl
  simp only [Tryz.ntmps41, List.size_toArray, List.length_cons, List.length_nil, Nat.reduceAdd, Nat.reduceSub, Array.replicate_succ, Array.replicate_zero, List.push_toArray, List.append_toArray, List.nil_append, List.cons_append]
  gi_wp2_with (refine ⟨trivial, ?_⟩; gi_at_call 71; refine (implRowsOf _ _ _ _ _).mono ?_; rintro e w' ⟨rfl, rfl⟩)
  obtain ⟨hsz, hB0, hm0, hlit, hbx⟩ := four_blocks w (.cells #[.int .i64 c0, .int .i64 c1, .string c2, .slice c3a c3n c3c, .string c4, .slice c5a c5n c5c] 39) (.cells #[.bool false] 4) (.cells #[.int .i64 c0, .int .i64 c1, .string c2, .slice c3a c3n c3c, .string c4, .slice c5a c5n c5c] 39) (.cells #[.slice (some ⟨w.heap.size + 2, 0, none⟩) 1 1] 25)
  simp only [show w.heap.size + 1 + 1 + 1 = w.heap.size + 3 from rfl, show w.heap.size + 1 + 1 = w.heap.size + 2 from rfl]
  generalize ((((w.alloc (.cells #[.int .i64 c0, .int .i64 c1, .string c2, .slice c3a c3n c3c, .string c4, .slice c5a c5n c5c] 39)).alloc (.cells #[.bool false] 4)).alloc (.cells #[.int .i64 c0, .int .i64 c1, .string c2, .slice c3a c3n c3c, .string c4, .slice c5a c5n c5c] 39)).alloc (.cells #[.slice (some ⟨w.heap.size + 2, 0, none⟩) 1 1] 25)) = W0 at *
  have HK : KidsIn (QB (w.heap.size + 3)) (· < w.heap.size + 3) W0 (some ⟨w.heap.size + 2, 0, none⟩) [z] :=
    kids_oneB ((hVb.agree (QB.liesP _) (fun b hb => hB0.block b hb) hB0.size).widen (by omega)) (by omega) ⟨_, _, _, _, _, _, rfl, hlit⟩
  have hNz : elsN [z] ≤ 1099511627776 := by simp only [elsN]; omega
  clear hVb
  refine range_own (α := RowX) rfl (by decide) (gf := 102) (lb := #[.pointer (some ⟨w.heap.size + 3, 0, none⟩)]) rfl trivial (enters_of Tryz.func102 (by kernel_rfl) rfl)
    (rows_seq 3 (by decide) (QB (w.heap.size + 3)) (· < w.heap.size + 3) (QB.liesP _) (fun h => h.slice) (fun b => b = w.heap.size + 5) (w.heap.size + 3) [z] hNz (some ⟨w.heap.size + 2, 0, none⟩) 1 W0 (fun b hb => by omega) (fun b hb => by omega) (by simp [World.cell?, hbx]) HK)
    (fun h k => h.trans k) (fun W o' => Kb.of_grown (grownBy_putObj' W _ o') (fun k e => by cases e; omega)) (fun _ => rfl)
    (fun pre W => Hid ((pre.map RowX.p).all goodR = true) ∧ Boxed W (w.heap.size + 1) 4 (.bool false) ∧ Below w.heap.size w W)
    (fun c pre W => c = .ret ∧ Hid ((pre.map RowX.p).all goodR = false) ∧ Boxed W (w.heap.size + 1) 4 (.bool false) ∧ Below w.heap.size w W)
    (fun s A B h hb => ⟨h.1, (hb.block _ (by omega)).trans h.2.1, h.2.2.trans (hb.mono (by omega))⟩) (fun _ s A B h hb => ⟨h.1, h.2.1, (hb.block _ (by omega)).trans h.2.2.1, h.2.2.2.trans (hb.mono (by omega))⟩)
    ⟨rfl, hm0, hB0⟩
    (fun pre x a' W => ∃ Bx, W0.heap.size + 2 ≤ Bx ∧ W.heap[Bx]? = some (.cells #[.slice x.a x.els.length x.cap, .int .i64 (x.deep : Int)] 101 (0, 0)) ∧ Hid (KidsIn (QB (w.heap.size + 3)) (· < w.heap.size + 3) W x.a x.els) ∧ Hid (∃ rest, Vis [([z], 1)] ((pre ++ [x]).map RowX.p ++ rest)) ∧ a' = { tmps := #[(.agg #[.int .i64 c0, .int .i64 c1, .string c2, .slice c3a c3n c3c, .string c4, .slice c5a c5n c5c]), .pointer (some ⟨w.heap.size, 0, none⟩), .pointer (some ⟨w.heap.size + 1, 0, none⟩), .pointer (some ⟨Bx, 0, none⟩), (.agg #[.int .i64 c0, .int .i64 c1, .string c2, .slice c3a c3n c3c, .string c4, .slice c5a c5n c5c]), .slice (some ⟨w.heap.size + 2, 0, none⟩) 1 1, .func (.func 102) #[] #[.pointer (some ⟨w.heap.size + 3, 0, none⟩)], .agg #[.slice x.a x.els.length x.cap, .int .i64 (x.deep : Int)], undef, undef, undef, undef, undef, undef, undef, undef, undef], defers := [] })
    (fun pre x a' W o' h => by
      obtain ⟨Bx, h1, h2, h3, h4, h5⟩ := h
      exact ⟨Bx, h1, (World.putObj_heap_other (by omega)).trans h2, h3.out.agree (QB.liesP _) (fun b hb => World.putObj_heap_other (by omega)) (by simp), h4, h5⟩)
    ?assign ?body ?done ?stop
  case assign =>
    intro l pre x W K hi hok hs2 hK
    simp only [encR]
    gi_wp2
    have hb : Below W.heap.size W (W.alloc (.cells #[.slice x.a x.els.length x.cap, .int .i64 (x.deep : Int)] 101)) := (Below.refl _ W).alloc (Nat.le_refl _) _
    exact hK _ _ ((KeepsOthers.alloc _ _).from _) (Kb.of_below hb _) ⟨hi.1, hi.2.1.alloc _, hi.2.2.trans (hb.mono hi.2.2.size)⟩ ⟨W.heap.size, hs2, World.alloc_heap_new _ _, hok.1.agree (QB.liesP _) (fun b hb' => hb.block b (by omega)) hb.size, hok.2, rfl⟩
  case body =>
    rintro l pre x a' W ⟨hg, hm, hB⟩ ⟨Bx, hBx, hx, hk, hvis, rfl⟩ hs2
    have hvs : SmallR (x.els, x.deep) := by
      obtain ⟨rest, hv⟩ := hvis.out
      exact vis_small hv HS.out _ (by simp [RowX.p])
    have HL : Hid (((pre ++ [x]).map RowX.p).all goodR = (decide (x.deep ≤ 60) && rowOk false x.els)) := by show _ = _; rw [good_snoc, hg.out, Bool.true_and]
    have m0 := hm.cell
    have m1 := hm.frozen
    have x0 : W.cell? ⟨Bx, 0, none⟩ = some (.slice x.a x.els.length x.cap) := by simp [World.cell?, hx]
    have x1 : W.cell? ⟨Bx, 1, none⟩ = some (.int .i64 (x.deep : Int)) := by simp [World.cell?, hx]
    have HR := implStrictRow (w.heap.size + 3) x.els x.a x.cap W hk.out hvs.1 hvs.2 (HT.out.below hB) (by omega)
    have HB : Hid (Below w.heap.size w W) := hB
    clear hvis hg hvs hk
    generalize rowOk false x.els = r at *
    by_cases hd : x.deep ≤ 60
    · have g1 : decide ((x.deep : Int) > 60) = false := decide_eq_false (by omega)
      have g2 : decide ((60 : Int) < (x.deep : Int)) = false := decide_eq_false (by omega)
      cases r
      · have HF : Hid (((pre ++ [x]).map RowX.p).all goodR = false) := by show _ = _; rw [HL.out]; simp
        clear HL
        gi_wp2_with (refine ⟨trivial, ?_⟩; gi_at_call 72; refine (((callsIn_wide (n := _)).2 HR).inRound _).mono ?_; rintro e w1 ⟨rfl, b1⟩; have m2 := (b1.cell (p := ⟨w.heap.size + 1, 0, none⟩) hm.lt).trans m0; have m3 : w1.frozen? ⟨w.heap.size + 1, 0, none⟩ = false := Boxed.frozen (t := 4) (v := .bool false) ((b1.block _ hm.lt).trans hm))
        have hb3 : Boxed w1 (w.heap.size + 1) 4 (.bool false) := (b1.block _ hm.lt).trans hm
        refine ⟨(keeps_below b1).trans ((KeepsOthers.setCell _ _ _).from _), rfl, HF, hb3.set _, (HB.out.trans (b1.mono HB.out.size)).setCell (p := ⟨w.heap.size + 1, 0, none⟩) (by simp) _⟩
      · have HF : Hid (((pre ++ [x]).map RowX.p).all goodR = true) := by show _ = _; rw [HL.out, decide_eq_true hd]; rfl
        clear HL
        gi_wp2_with (refine ⟨trivial, ?_⟩; gi_at_call 72; refine (((callsIn_wide (n := _)).2 HR).inRound _).mono ?_; rintro e w1 ⟨rfl, b1⟩; have m2 := (b1.cell (p := ⟨w.heap.size + 1, 0, none⟩) hm.lt).trans m0; have m3 : w1.frozen? ⟨w.heap.size + 1, 0, none⟩ = false := Boxed.frozen (t := 4) (v := .bool false) ((b1.block _ hm.lt).trans hm))
        have hb3 : Boxed w1 (w.heap.size + 1) 4 (.bool false) := (b1.block _ hm.lt).trans hm
        exact ⟨keeps_below b1, Kb.of_below b1 _, HF, hb3, HB.out.trans (b1.mono HB.out.size)⟩
    · have g1 : decide ((x.deep : Int) > 60) = true := decide_eq_true (by omega)
      have g2 : decide ((60 : Int) < (x.deep : Int)) = true := decide_eq_true (by omega)
      have HF : Hid (((pre ++ [x]).map RowX.p).all goodR = false) := by show _ = _; rw [HL.out, decide_eq_false hd]; rfl
      clear HL HR
      gi_wp2
      refine ⟨trivial, ?_⟩
      gi_wp2
      exact ⟨(KeepsOthers.setCell _ _ _).from _, rfl, HF, hm.set _, HB.out.setCell (p := ⟨w.heap.size + 1, 0, none⟩) (by simp) _⟩
  case done =>
    rintro D ys W hD hS ⟨hg, hm, hB⟩ hK
    have Hl : Hid ((decide (elD z ≤ 60) && okE z) = true) := by show _ = _; rw [strict_rows hS, hg.out]
    have m0 := hm.cell
    have m1 := hm.frozen
    gi_wp2
    have hK' := (KeepsOthers.setCell W ⟨w.heap.size + 1, 0, none⟩ (.bool true)).same D _ hK rfl
    refine ⟨by simp, .inl ⟨_, _, rfl, run_takeDeferred hK', ?_⟩⟩
    have hc5 := cell_kept (World.cell?_setCell_same' W ⟨w.heap.size + 1, 0, none⟩ (.bool true) (by rw [m0]; rfl)) (grownBy_putObj' _ D (.deferred none)) (fun r e => by cases e; exact ⟨_, hK', rfl⟩)
    refine ⟨.bool true, ?_, by rw [Hl.out], (hB.setCell (p := ⟨w.heap.size + 1, 0, none⟩) (by simp) _).trans (belowK_b (w := w) (Nat.le_refl _) _ D _ _ (by omega) hK' rfl rfl)⟩
    simp [results, Tryz.f41, go_sem, hc5]
  case stop =>
    rintro D c pre W hD ⟨rest, hS⟩ ⟨rfl, hg, hm, hB⟩ hK
    have Hl : Hid ((decide (elD z ≤ 60) && okE z) = false) := by
      show _ = _
      rw [strict_rows hS, List.all_append, hg.out, Bool.false_and]
    have m0 := hm.cell
    gi_wp2
    refine ⟨by simp, .inl ⟨_, _, rfl, run_takeDeferred hK, ?_⟩⟩
    have hc5 := cell_kept m0 (grownBy_putObj' _ D (.deferred none)) (fun r e => by cases e; exact ⟨_, hK, rfl⟩)
    refine ⟨.bool false, ?_, by rw [Hl.out], hB.trans (belowK_b (w := w) (Nat.le_refl _) W D _ _ (by omega) hK rfl rfl)⟩
    simp [results, Tryz.f41, go_sem, hc5]

end Go.Proofs.YtkngdlbedelgnaaGreatDoor.Sg

namespace Go.Proofs.YtkngdlbedelgnaaGreatDoor.Sg
open Go.ChangeShapes Go.WideShapes Go.ChangeAt Go.RowKit Go.Shelf

attribute [local go_sem] Oper.semAt_some

/-- Three blocks, one behind the other. -/
theorem three_blocks (w : World) (o0 o1 o2 : Obj) : (((w.alloc o0).alloc o1).alloc o2).heap.size = w.heap.size + 3 ∧ Below w.heap.size w (((w.alloc o0).alloc o1).alloc o2) ∧ (((w.alloc o0).alloc o1).alloc o2).heap[w.heap.size]? = some o0 ∧ (((w.alloc o0).alloc o1).alloc o2).heap[w.heap.size + 1]? = some o1 ∧ (((w.alloc o0).alloc o1).alloc o2).heap[w.heap.size + 2]? = some o2 := by
  refine ⟨by simp, (((Below.refl _ w).alloc (Nat.le_refl _) _).alloc (by simp) _).alloc (by simp; omega) _, ?_, ?_, ?_⟩
  · exact (Below.heap_alloc _ _ _ (by simp; omega)).trans ((Below.heap_alloc _ _ _ (by simp)).trans (World.alloc_heap_new w o0))
  · have := World.alloc_heap_new (w.alloc o0) o1
    rw [World.size_alloc] at this
    exact (Below.heap_alloc _ _ _ (by simp)).trans this
  · have := World.alloc_heap_new ((w.alloc o0).alloc o1) o2
    rw [World.size_alloc, World.size_alloc] at this
    exact this

set_option maxRecDepth 100000 in
set_option maxHeartbeats 4000000 in
theorem implFewEls (l : List ElB) (lo : Nat) (a : Option Addr) (cap : Nat) (w : World) (hx : KidsIn (QA lo) (lo ≤ ·) w a l) (hN : elsN l ≤ 1099511627776) :
    Calls Tryz.prog 42 #[.slice a l.length cap] w fun r w' => r = .returned (.bool (decide (elsN l ≤ 3000))) ∧ Below w.heap.size w w' := by
  refine (callsIn_wide (n := 4)).1 ?_
  have HV : Hid (KidsIn QSh (· < w.heap.size) w a l) := by
    rcases hx with h | ⟨kb, ko, e, hp, h⟩
    · exact .inl h
    · by_cases hz : l.length = 0
      · exact .inl hz
      · exact .inr ⟨kb, ko, e, ElsIn.lt hz h, ElsIn.wider (fun v l h => by obtain ⟨x, c, e, _⟩ := h; exact ⟨x, c, e⟩) (fun b hb => hb.2) l kb ko (ElsIn.lts l kb ko h)⟩
  clear hx
  refine callsIn_of_wp_marks Tryz.func42 rfl trivial ?_ rfl
  simp only [Tryz.ntmps42, List.size_toArray, List.length_cons, List.length_nil, Nat.reduceAdd, Nat.reduceSub, Array.replicate_succ, Array.replicate_zero, List.push_toArray, List.append_toArray, List.nil_append, List.cons_append]
  gi_wp2_with (refine ⟨trivial, ?_⟩; gi_at_call 71; refine (implRowsOf _ _ _ _ _).mono ?_; rintro e w' ⟨rfl, rfl⟩)
  obtain ⟨hsz, hB0, hr0, hm0, hbx⟩ := three_blocks w (.cells #[.bool false] 4) (.cells #[.int .i64 0] 3) (.cells #[.slice a l.length cap] 25)
  simp only [show w.heap.size + 1 + 1 = w.heap.size + 2 from rfl]
  generalize (((w.alloc (.cells #[.bool false] 4)).alloc (.cells #[.int .i64 0] 3)).alloc (.cells #[.slice a l.length cap] 25)) = W0 at *
  have HK : KidsIn QSh (· < w.heap.size) W0 a l := HV.out.agree (QSh.liesP _) (fun b hb => hB0.block b hb) hB0.size
  refine range_own (α := RowX) rfl (by decide) (gf := 102) (lb := #[.pointer (some ⟨w.heap.size + 2, 0, none⟩)]) rfl trivial (enters_of Tryz.func102 (by kernel_rfl) rfl)
    (rows_seq 3 (by decide) QSh (· < w.heap.size) (QSh.liesP _) (fun h => h) (fun b => b = w.heap.size + 1 ∨ b = w.heap.size + 4) (w.heap.size + 2) l hN a cap W0 (fun b hb => by omega) (fun b hb => by omega) (by simp [World.cell?, hbx]) HK)
    (fun h k => h.trans k) (fun W o' => Kb.of_grown (grownBy_putObj' W _ o') (fun k e => by cases e; exact .inr (by omega))) (fun _ => rfl)
    (fun pre W => Boxed W (w.heap.size + 1) 3 (.int .i64 (lenR (pre.map RowX.p) : Int)) ∧ Boxed W w.heap.size 4 (.bool false) ∧ Hid (lenR (pre.map RowX.p) ≤ 3000) ∧ Below w.heap.size w W)
    (fun c pre W => c = .ret ∧ Hid (3000 < lenR (pre.map RowX.p)) ∧ Boxed W w.heap.size 4 (.bool false) ∧ Below w.heap.size w W)
    (fun s A B h hb => ⟨(hb.block _ (by omega)).trans h.1, (hb.block _ (by omega)).trans h.2.1, h.2.2.1, h.2.2.2.trans (hb.mono (by omega))⟩) (fun _ s A B h hb => ⟨h.1, h.2.1, (hb.block _ (by omega)).trans h.2.2.1, h.2.2.2.trans (hb.mono (by omega))⟩)
    ⟨hm0, hr0, Nat.zero_le _, hB0⟩
    (fun pre x a' W => ∃ Bx, W0.heap.size + 2 ≤ Bx ∧ W.heap[Bx]? = some (.cells #[.slice x.a x.els.length x.cap, .int .i64 (x.deep : Int)] 101 (0, 0)) ∧ (∃ rest, Vis [(l, 1)] ((pre ++ [x]).map RowX.p ++ rest)) ∧ a' = { tmps := #[.slice a l.length cap, undef, .pointer (some ⟨w.heap.size, 0, none⟩), .pointer (some ⟨w.heap.size + 1, 0, none⟩), .pointer (some ⟨Bx, 0, none⟩), .slice a l.length cap, .func (.func 102) #[] #[.pointer (some ⟨w.heap.size + 2, 0, none⟩)], .agg #[.slice x.a x.els.length x.cap, .int .i64 (x.deep : Int)], undef, undef, undef, undef, undef, undef, undef], defers := [] })
    (fun pre x a' W o' h => by
      obtain ⟨Bx, h1, h2, h3, h4⟩ := h
      exact ⟨Bx, h1, (World.putObj_heap_other (by omega)).trans h2, h3, h4⟩)
    ?assign ?body ?done ?stop
  case assign =>
    intro l' pre x W K hi hok hs2 hK
    simp only [encR]
    gi_wp2
    have hb : Below W.heap.size W (W.alloc (.cells #[.slice x.a x.els.length x.cap, .int .i64 (x.deep : Int)] 101)) := (Below.refl _ W).alloc (Nat.le_refl _) _
    exact hK _ _ ((KeepsOthers.alloc _ _).from _) (Kb.of_below hb _) ⟨hi.1.alloc _, hi.2.1.alloc _, hi.2.2.1, hi.2.2.2.trans (hb.mono hi.2.2.2.size)⟩ ⟨W.heap.size, hs2, World.alloc_heap_new _ _, hok.2, rfl⟩
  case body =>
    rintro l' pre x a' W ⟨hm, hr, h3, hB⟩ ⟨Bx, hBx, hx, hvis, rfl⟩ hs2
    obtain ⟨rest, hvis⟩ := hvis
    have hle := lenR_le hvis
    rw [List.map_append, List.map_singleton, lenR_snoc] at hle
    have HL : Hid (lenR ((pre ++ [x]).map RowX.p) = lenR (pre.map RowX.p) + x.els.length) := by show _ = _; rw [List.map_append, List.map_singleton, lenR_snoc]; rfl
    have hle2 : lenR (pre.map RowX.p) + x.els.length ≤ 1099511627776 := Nat.le_trans hle hN
    obtain ⟨o, Ho⟩ : ∃ o, Hid (lenR (pre.map RowX.p) = o) := ⟨_, rfl⟩
    rw [Ho.out] at HL hle2 hm h3
    have m0 := hm.cell
    have m1 := hm.frozen
    have m2 := hr.cell
    have m3 := hr.frozen
    have x0 : W.cell? ⟨Bx, 0, none⟩ = some (.slice x.a x.els.length x.cap) := by simp [World.cell?, hx]
    have q1 : IntKind.i64.wrap ((o : Int) + (x.els.length : Int)) = (o : Int) + (x.els.length : Int) := IntWalk.i64_in _ (by omega)
    have hm' : Boxed (W.setCell ⟨w.heap.size + 1, 0, none⟩ (.int .i64 ((o : Int) + (x.els.length : Int)))) (w.heap.size + 1) 3 (.int .i64 ((o : Int) + (x.els.length : Int))) := hm.set _
    have hr' : Boxed (W.setCell ⟨w.heap.size + 1, 0, none⟩ (.int .i64 ((o : Int) + (x.els.length : Int)))) w.heap.size 4 (.bool false) := hr.other (by omega) _
    have n0 := hm'.cell
    have n2 := hr'.cell
    have n3 := hr'.frozen
    have hks : KeepsOthers W (W.setCell ⟨w.heap.size + 1, 0, none⟩ (.int .i64 ((o : Int) + (x.els.length : Int)))) := KeepsOthers.setCell _ _ _
    have hkb : Kb W (W.setCell ⟨w.heap.size + 1, 0, none⟩ (.int .i64 ((o : Int) + (x.els.length : Int)))) (fun b => b = w.heap.size + 1 ∨ b = w.heap.size + 4) := Kb.of_grown (grownBy_setCell' W _ _) (fun k e => by cases e; exact .inl rfl)
    have hB' : Below w.heap.size w (W.setCell ⟨w.heap.size + 1, 0, none⟩ (.int .i64 ((o : Int) + (x.els.length : Int)))) := hB.setCell (p := ⟨w.heap.size + 1, 0, none⟩) (by simp) _
    have Hk1 : Hid _ := hks
    have Hk2 : Hid _ := hkb
    clear hvis hle hks hkb
    by_cases hd : o + x.els.length ≤ 3000
    · have g1 : decide ((o : Int) + (x.els.length : Int) > 3000) = false := decide_eq_false (by omega)
      have g2 : decide ((3000 : Int) < (o : Int) + (x.els.length : Int)) = false := decide_eq_false (by omega)
      gi_wp2
      refine ⟨Hk1.out.from _, Hk2.out, ?_, hr', ?_, hB'⟩
      · rw [HL.out]
        simpa using hm'
      · show _ ≤ _
        rw [HL.out]
        exact hd
    · have g1 : decide ((o : Int) + (x.els.length : Int) > 3000) = true := decide_eq_true (by omega)
      have g2 : decide ((3000 : Int) < (o : Int) + (x.els.length : Int)) = true := decide_eq_true (by omega)
      gi_wp2
      refine ⟨(Hk1.out.from _).trans ((KeepsOthers.setCell _ _ _).from _), rfl, ?_, hr'.set _, hB'.setCell (p := ⟨w.heap.size, 0, none⟩) (by simp) _⟩
      show _ < _
      rw [HL.out]
      omega
  case done =>
    rintro D ys W hD hS ⟨hm, hr, h3, hB⟩ hK
    have hl := vis_len hS
    have h4 : wN [(l, 1)] = elsN l := by simp [wN]
    have Hl : Hid (decide (elsN l ≤ 3000) = true) := decide_eq_true (by rw [← h4, ← hl]; exact h3.out)
    have m0 := hr.cell
    have m1 := hr.frozen
    gi_wp2
    have hK' := (KeepsOthers.setCell W ⟨w.heap.size, 0, none⟩ (.bool true)).same D _ hK rfl
    refine ⟨by simp, .inl ⟨_, _, rfl, run_takeDeferred hK', ?_⟩⟩
    have hc5 := cell_kept (World.cell?_setCell_same' W ⟨w.heap.size, 0, none⟩ (.bool true) (by rw [m0]; rfl)) (grownBy_putObj' _ D (.deferred none)) (fun r e => by cases e; exact ⟨_, hK', rfl⟩)
    refine ⟨.bool true, ?_, by rw [Hl.out], (hB.setCell (p := ⟨w.heap.size, 0, none⟩) (by simp) _).trans (belowK_b (w := w) (Nat.le_refl _) _ D _ _ (by omega) hK' rfl rfl)⟩
    simp [results, Tryz.f42, go_sem, hc5]
  case stop =>
    rintro D c pre W hD ⟨rest, hS⟩ ⟨rfl, hg, hr, hB⟩ hK
    have hl := lenR_le hS
    have Hl : Hid (decide (elsN l ≤ 3000) = false) := decide_eq_false (by have := hg.out; omega)
    have m0 := hr.cell
    gi_wp2
    refine ⟨by simp, .inl ⟨_, _, rfl, run_takeDeferred hK, ?_⟩⟩
    have hc5 := cell_kept m0 (grownBy_putObj' _ D (.deferred none)) (fun r e => by cases e; exact ⟨_, hK, rfl⟩)
    refine ⟨.bool false, ?_, by rw [Hl.out], hB.trans (belowK_b (w := w) (Nat.le_refl _) W D _ _ (by omega) hK rfl rfl)⟩
    simp [results, Tryz.f42, go_sem, hc5]

end Go.Proofs.YtkngdlbedelgnaaGreatDoor.Sg

namespace Go.Proofs.YtkngdlbedelgnaaGreatDoor.Sg
open Go.ChangeShapes Go.WideShapes Go.ChangeAt Go.RowKit

/-- What an element is behind the interface: 1 a tag, 2 a text, 3 a note, 0 none. -/
def kI : ElB → Nat
  | .mk kd sp nm ats tx ks => if kd = 1 ∧ tx.size = 0 then 1 else if kd = 2 ∧ (sp = 0 ∧ nm.size = 0 ∧ ats.length = 0 ∧ ks.length = 0) then 2 else if kd = 3 ∧ (sp = 0 ∧ nm.size = 0 ∧ ats.length = 0 ∧ ks.length = 0) then 3 else 0
theorem kI_mk (kd sp : Int) (nm : ByteArray) (ats : List AttrB) (tx : ByteArray) (ks : List ElB) : kI (.mk kd sp nm ats tx ks) = if kd = 1 ∧ tx.size = 0 then 1 else if kd = 2 ∧ (sp = 0 ∧ nm.size = 0 ∧ ats.length = 0 ∧ ks.length = 0) then 2 else if kd = 3 ∧ (sp = 0 ∧ nm.size = 0 ∧ ats.length = 0 ∧ ks.length = 0) then 3 else 0 := rfl
theorem kI_cases (kd sp : Int) (nm : ByteArray) (xa : Option Addr) (ats : List AttrB) (xc : Nat) (tx : ByteArray) (ks : List ElB) :
    (elI kd sp nm xa ats.length xc tx ks.length = .iface 106 (.agg #[.int .i64 sp, .string nm, .slice xa ats.length xc]) ∧ kI (.mk kd sp nm ats tx ks) = 1) ∨
    (elI kd sp nm xa ats.length xc tx ks.length = .iface 129 (.agg #[.string tx]) ∧ kI (.mk kd sp nm ats tx ks) = 2) ∨
    (elI kd sp nm xa ats.length xc tx ks.length = .iface 108 (.agg #[.string tx]) ∧ kI (.mk kd sp nm ats tx ks) = 3) ∨
    (elI kd sp nm xa ats.length xc tx ks.length = .iface 131 (.agg #[]) ∧ kI (.mk kd sp nm ats tx ks) = 0) := by
  rw [kI_mk]
  unfold elI
  split
  · exact .inl ⟨rfl, rfl⟩
  split
  · exact .inr (.inl ⟨rfl, rfl⟩)
  split
  · exact .inr (.inr (.inl ⟨rfl, rfl⟩))
  · exact .inr (.inr (.inr ⟨rfl, rfl⟩))
/-- What is strict alone is of its kind. -/
theorem kI_alone : ∀ {e : ElB}, aloneK e = true → (kindE e = 1 ∧ kI e = 1) ∨ (kindE e = 2 ∧ kI e = 2) ∨ (kindE e = 3 ∧ kI e = 3)
  | .mk kd sp nm ats tx ks, h => by
    rw [aloneK] at h
    rw [kindE]
    unfold okSelf at h
    rw [kI_mk]
    have hp : plainE sp nm ats ks.length = true → (sp = 0 ∧ nm.size = 0 ∧ ats.length = 0 ∧ ks.length = 0) := fun h => by
      unfold plainE at h
      simp only [Bool.and_eq_true, decide_eq_true_iff] at h
      exact h
    by_cases k1 : kd = 1
    · rw [if_pos k1] at h
      simp only [Bool.and_eq_true, decide_eq_true_iff] at h
      rw [if_pos ⟨k1, h.2.2.2⟩]
      exact .inl ⟨k1, rfl⟩
    rw [if_neg k1] at h
    rw [if_neg (fun h => k1 h.1)]
    by_cases k2 : kd = 2
    · rw [if_pos k2, Bool.and_eq_true] at h
      rw [if_pos ⟨k2, hp h.1⟩]
      exact .inr (.inl ⟨k2, rfl⟩)
    rw [if_neg k2] at h
    rw [if_neg (fun h => k2 h.1)]
    by_cases k3 : kd = 3
    · rw [if_pos k3, Bool.and_eq_true] at h
      rw [if_pos ⟨k3, hp h.1⟩]
      exact .inr (.inr ⟨k3, rfl⟩)
    rw [if_neg k3] at h
    cases h
/-- One tag among notes, behind so many tags. -/
def tagsF : Nat → List ElB → Bool
  | t, [] => decide (t = 1)
  | t, e :: es => if kI e = 1 then tagsF (t + 1) es else if kI e = 3 then tagsF t es else false
theorem tagsF_drop {es : List ElB} {k : Nat} (h : k < es.length) (t : Nat) : tagsF t (es.drop k) = if kI (es[k]'h) = 1 then tagsF (t + 1) (es.drop (k + 1)) else if kI (es[k]'h) = 3 then tagsF t (es.drop (k + 1)) else false := by
  rw [List.drop_eq_getElem_cons h, tagsF]
theorem docF_parts : ∀ (es : List ElB) (t s : Nat), docF t s es = (decide (s + elsN es ≤ 3000) && (tagsF t es && es.all strictE))
  | [], t, s => by
    rw [docF, tagsF, elsN, List.all_nil, Nat.add_zero, Bool.and_true, Bool.and_comm]
  | e :: es, t, s => by
    rw [docF, docF_parts es, tagsF, elsN, List.all_cons]
    cases hs : strictE e
    · rw [if_neg (by simp)]
      simp
    · have ha : aloneK e = true := by
        unfold strictE at hs
        rw [okE_alone] at hs
        simp only [Bool.and_eq_true] at hs
        exact hs.2.2
      rcases kI_alone ha with ⟨h1, h2⟩ | ⟨h1, h2⟩ | ⟨h1, h2⟩
      · rw [if_pos ⟨rfl, by rw [h1]; decide⟩, if_pos h1, if_pos h2, Nat.add_assoc, Bool.true_and]
      · rw [if_neg (fun h => h.2 h1), if_neg (by rw [h2]; decide), if_neg (by rw [h2]; decide)]
        simp
      · rw [if_pos ⟨rfl, by rw [h1]; decide⟩, if_neg (by rw [h1]; decide), if_neg (by rw [h2]; decide), if_pos h2, Nat.add_assoc, Bool.true_and]
        rfl

theorem em_to_tag (v : Value) (W : World) : (Instr.typeAssert (.iface 106 v) 103 106 true).run Tryz.prog W = .ok (.tuple #[v, .bool true]) W := by kernel_rfl
theorem em_text_tag (v : Value) (W : World) : (Instr.typeAssert (.iface 129 v) 103 106 true).run Tryz.prog W = .ok (.tuple #[.agg #[.int .i64 0, .string ⟨#[]⟩, .slice none 0 0], .bool false]) W := by kernel_rfl
theorem em_note_tag (v : Value) (W : World) : (Instr.typeAssert (.iface 108 v) 103 106 true).run Tryz.prog W = .ok (.tuple #[.agg #[.int .i64 0, .string ⟨#[]⟩, .slice none 0 0], .bool false]) W := by kernel_rfl
theorem em_none_tag (v : Value) (W : World) : (Instr.typeAssert (.iface 131 v) 103 106 true).run Tryz.prog W = .ok (.tuple #[.agg #[.int .i64 0, .string ⟨#[]⟩, .slice none 0 0], .bool false]) W := by kernel_rfl
theorem em_to_note (v : Value) (W : World) : (Instr.typeAssert (.iface 108 v) 103 108 true).run Tryz.prog W = .ok (.tuple #[v, .bool true]) W := by kernel_rfl
theorem em_text_note (v : Value) (W : World) : (Instr.typeAssert (.iface 129 v) 103 108 true).run Tryz.prog W = .ok (.tuple #[.agg #[.string ⟨#[]⟩], .bool false]) W := by kernel_rfl
theorem em_none_note (v : Value) (W : World) : (Instr.typeAssert (.iface 131 v) 103 108 true).run Tryz.prog W = .ok (.tuple #[.agg #[.string ⟨#[]⟩], .bool false]) W := by kernel_rfl

set_option maxRecDepth 20000 in
set_option maxHeartbeats 8000000 in
theorem implTagAmongNotes (els : List ElB) (lo : Nat) (a : Option Addr) (cap : Nat) (w : World) (hK : KidsIn (QA lo) (lo ≤ ·) w a els) (hlen : els.length ≤ 1099511627776) :
    Calls Tryz.prog 43 #[.slice a els.length cap] w fun e w' => e = .returned (.bool (tagsF 0 els)) ∧ Below w.heap.size w w' := by
  have HK : Hid (KidsIn (QA lo) (lo ≤ ·) w a els) := hK
  obtain ⟨R, HR⟩ : ∃ R, Hid (tagsF 0 (els.drop 0) = R) := ⟨_, rfl⟩
  have HR0 : tagsF 0 els = R := HR.out
  rw [HR0]
  have i1 := em_to_tag
  have i2 := em_text_tag
  have i3 := em_note_tag
  have i4 := em_none_tag
  have s1 := em_to_note
  have s2 := em_text_note
  have s3 := em_none_note
  clear hK HR0
  go_enter Tryz.func43, Tryz.ntmps43
  go_wp2_with fail
  go_loopw [3, 5, 8] (fun tv _ iv wr => ∃ (k t : Nat), k ≤ els.length ∧ t ≤ k ∧ iv = .int .i64 (k : Int) ∧ tv = .int .i64 (t : Int) ∧ Hid (tagsF t (els.drop k) = R) ∧ Hid (Below w.heap.size w wr)) (fun _ _ iv _ => els.length - (intOf iv).toNat)
  case atStart => exact ⟨0, 0, Nat.zero_le _, Nat.le_refl _, rfl, rfl, HR, Below.refl _ _⟩
  case round =>
    clear HR
    obtain ⟨k, t, hk, ht, rfl, rfl, HR, HB⟩ := hrel
    have k0 : (0 : Int) ≤ (k : Int) := by omega
    by_cases hlt : k < els.length
    · have k1 : (k : Int) < (els.length : Int) := by omega
      rcases HK.out.keep (QA.lies _) HB.out with h | ⟨b, off, rfl, _, hc⟩
      · omega
      have hE := hc.get k hlt
      have hst := tagsF_drop hlt t
      rw [HR.out] at hst
      generalize els[k]'hlt = e at *
      obtain ⟨kd, sp, nm, ats, tx, ks⟩ := e
      unfold ElIn at hE
      obtain ⟨c0, c1, c2, ⟨av, c3, hQ⟩, c4, ka, kc, c5, _⟩ := hE
      obtain ⟨xa, xc, rfl, _⟩ := hQ
      have hbx : Below wr.heap.size wr (wr.alloc (.cells #[.int .i64 kd, .int .i64 sp, .string nm, .slice xa ats.length xc, .string tx, .slice ka ks.length kc] 39)) := (Below.refl _ wr).alloc (Nat.le_refl _) _
      have HE := implElementOf kd sp nm xa ats.length xc tx ka ks.length kc (wr.alloc (.cells #[.int .i64 kd, .int .i64 sp, .string nm, .slice xa ats.length xc, .string tx, .slice ka ks.length kc] 39))
      clear hc HR
      go_wp2_with fail
      refine HE.mono ?_
      rintro e w1 ⟨rfl, b1⟩
      have hb1 : Below wr.heap.size wr w1 := hbx.trans (b1.mono hbx.size)
      have B1 : Hid (Below w.heap.size w w1) := HB.out.trans (hb1.mono HB.out.size)
      clear HE b1 hbx c0 c1 c2 c3 c4 c5
      rcases kI_cases kd sp nm xa ats xc tx ks with ⟨ev, hki⟩ | ⟨ev, hki⟩ | ⟨ev, hki⟩ | ⟨ev, hki⟩
      · rw [hki, if_pos rfl] at hst
        have HR2 : Hid (tagsF (t + 1) (els.drop (k + 1)) = R) := hst.symm
        have q1 : IntKind.i64.wrap ((t : Int) + 1) = (t : Int) + 1 := IntWalk.i64_in _ (by omega)
        rw [ev]
        clear hst ev hki hb1
        go_wp2_with fail
        go_roundw
        case rel => exact ⟨k + 1, t + 1, by omega, by omega, by go_num, by go_num, HR2, B1⟩
        case measure => simp [intOf]; omega
      · rw [hki, if_neg (by decide), if_neg (by decide)] at hst
        have Hf : Hid (R = false) := hst
        rw [ev]
        clear hst ev hki hb1
        go_wp2_with fail
        go_ret
        exact ⟨ret_bool Hf.out.symm, B1.out⟩
      · rw [hki, if_neg (by decide), if_pos rfl] at hst
        have HR2 : Hid (tagsF t (els.drop (k + 1)) = R) := hst.symm
        rw [ev]
        clear hst ev hki hb1
        go_wp2_with fail
        go_roundw
        case rel => exact ⟨k + 1, t, by omega, by omega, by go_num, rfl, HR2, B1⟩
        case measure => simp [intOf]; omega
      · rw [hki, if_neg (by decide), if_neg (by decide)] at hst
        have Hf : Hid (R = false) := hst
        rw [ev]
        clear hst ev hki hb1
        go_wp2_with fail
        go_ret
        exact ⟨ret_bool Hf.out.symm, B1.out⟩
    · have hkl : k = els.length := by omega
      subst hkl
      have g1 : decide ((els.length : Int) < (els.length : Int)) = false := by simp
      have hR := HR.out
      rw [List.drop_length, tagsF] at hR
      clear HR
      by_cases h1 : t = 1
      · subst h1
        have Hf : Hid (R = true) := by show _ = _; rw [← hR]; rfl
        clear hR
        go_wp2_with fail
        go_ret
        exact ⟨ret_bool Hf.out.symm, HB.out⟩
      · have Hf : Hid (R = false) := by show _ = _; rw [← hR]; exact decide_eq_false h1
        have g2 : ((t : Int) == 1) = false := by rw [beq_eq_false_iff_ne]; omega
        clear hR
        go_wp2_with fail
        go_ret
        exact ⟨ret_bool Hf.out.symm, HB.out⟩

end Go.Proofs.YtkngdlbedelgnaaGreatDoor.Sg

namespace Go.Proofs.YtkngdlbedelgnaaGreatDoor.Sg
open Go.ChangeShapes Go.WideShapes Go.ChangeAt Go.RowKit

set_option maxHeartbeats 2000000 in
theorem implNotOk (z : ElB) (lo : Nat) (v : Value) (w : World) (hx : ElV (QA lo) (lo ≤ ·) w v z) (hsm : ElSmall z) (hN : elN z ≤ 1099511627776) (hT : StLib w) :
    Calls Tryz.prog 40 #[v] w fun r w' => r = .returned (.bool (!strictE z)) ∧ Below w.heap.size w w' := by
  have HX := fun W (hW : Below w.heap.size w W) => implElOk z lo v W (hx.keep (QA.lies _) hW) hsm hN (hT.below hW)
  have es : (decide (elD z ≤ 60) && okE z) = strictE z := rfl
  rw [es] at HX
  obtain ⟨c0, c1, c2, c3a, c3n, c3c, c4, c5a, c5n, c5c, rfl⟩ : ∃ c0 c1 c2 c3a c3n c3c c4 c5a c5n c5c, v = .agg #[.int .i64 c0, .int .i64 c1, .string c2, .slice c3a c3n c3c, .string c4, .slice c5a c5n c5c] := by
    obtain ⟨kd, sp, nm, ats, tx, ks⟩ := z
    obtain ⟨av, ka, kc, e, ⟨xa, xc, rfl, _⟩, _⟩ := hx
    exact ⟨_, _, _, _, _, _, _, _, _, _, e⟩
  have hb0 : Below w.heap.size w (w.alloc (.cells #[.int .i64 c0, .int .i64 c1, .string c2, .slice c3a c3n c3c, .string c4, .slice c5a c5n c5c] 39)) := (Below.refl w.heap.size w).alloc (Nat.le_refl _) _
  have H0 := HX _ hb0
  generalize strictE z = s at *
  clear hx hsm hT HX es
  go_enter Tryz.func40, Tryz.ntmps40
  go_wp2_with fail
  refine H0.mono ?_
  rintro e w1 ⟨rfl, b1⟩
  have B1 : Hid (Below w.heap.size w w1) := hb0.trans (b1.mono hb0.size)
  clear H0 b1 hb0
  go_wp2_with fail
  go_ret
  exact ⟨rfl, B1.out⟩

theorem all_step (l : List ElB) (k : Nat) (h : k < l.length) : (l.drop k).all strictE = (strictE (l[k]'h) && (l.drop (k + 1)).all strictE) := by
  rw [List.drop_eq_getElem_cons h, List.all_cons]

set_option maxRecDepth 20000 in
set_option maxHeartbeats 4000000 in
theorem implElIndex (l : List ElB) (lo : Nat) (a : Option Addr) (cap : Nat) (w : World) (hk : KidsIn (QA lo) (lo ≤ ·) w a l) (hs : ElsSmall l) (hN : elsN l ≤ 1099511627776) (hT : StLib w) :
    Calls Tryz.prog 74 #[.slice a l.length cap, .func (.func 40) #[] #[]] w fun e w' => (∃ z : Int, e = .returned (.int .i64 z) ∧ decide (0 ≤ z) = !l.all strictE) ∧ Below w.heap.size w w' := by
  have HK : Hid (KidsIn (QA lo) (lo ≤ ·) w a l) := hk
  have HS : Hid (ElsSmall l) := hs
  have HT : Hid (StLib w) := hT
  have hlen : l.length ≤ 1099511627776 := by have := elsN_len l; omega
  obtain ⟨R, HR⟩ : ∃ R, Hid ((l.drop 0).all strictE = R) := ⟨_, rfl⟩
  have HR0 : l.all strictE = R := HR.out
  rw [HR0]
  clear hk hs hT HR0
  go_enter Tryz.func74, Tryz.ntmps74
  go_wp2_with fail
  go_loopw [5, 8] (fun _ iv wr => ∃ k : Nat, k ≤ l.length ∧ iv = .int .i64 (k : Int) ∧ Hid ((l.drop k).all strictE = R) ∧ Hid (Below w.heap.size w wr)) (fun _ iv _ => l.length - (intOf iv).toNat)
  case atStart => exact ⟨0, Nat.zero_le _, rfl, HR, Below.refl _ _⟩
  case round =>
    clear HR
    obtain ⟨k, hk, rfl, HR, HB⟩ := hrel
    have k0 : (0 : Int) ≤ (k : Int) := by omega
    by_cases hlt : k < l.length
    · have k1 : (k : Int) < (l.length : Int) := by omega
      rcases HK.out.keep (QA.lies _) HB.out with h | ⟨b, off, rfl, _, hc⟩
      · omega
      obtain ⟨v1, v2, v3, v4, v5, c0, c1, c2, c3, c4, c5, hV⟩ := (hc.get k hlt).cellsK
      have hNk := elsN_get l k hlt
      have HI := implNotOk _ lo _ wr hV (HS.out.get _ (List.getElem_mem hlt)) (by omega) (HT.out.below HB.out)
      have Hs := all_step l k hlt
      rw [HR.out] at Hs
      clear hc hV hNk
      generalize strictE (l[k]'hlt) = s at *
      generalize kindE (l[k]'hlt) = kk at *
      cases s
      · have Hf : Hid (R = false) := by show _ = _; rw [Hs]; rfl
        clear Hs HR
        go_wp2_with fail
        refine HI.mono ?_
        rintro e w1 ⟨rfl, b1⟩
        have B1 : Hid (Below w.heap.size w w1) := HB.out.trans (b1.mono HB.out.size)
        clear HI b1 HB c0 c1 c2 c3 c4 c5
        go_wp2_with fail
        go_ret
        exact ⟨⟨_, rfl, by rw [Hf.out]; simp⟩, B1.out⟩
      · have HR2 : Hid ((l.drop (k + 1)).all strictE = R) := by show _ = _; rw [Hs]; rfl
        clear Hs HR
        go_wp2_with fail
        refine HI.mono ?_
        rintro e w1 ⟨rfl, b1⟩
        have B1 : Hid (Below w.heap.size w w1) := HB.out.trans (b1.mono HB.out.size)
        clear HI b1 HB c0 c1 c2 c3 c4 c5
        go_wp2_with fail
        go_roundw
        case rel => exact ⟨k + 1, by omega, by go_num, HR2, B1⟩
        case measure => simp [intOf]; omega
    · have hkl : k = l.length := by omega
      subst hkl
      have g1 : decide ((l.length : Int) < (l.length : Int)) = false := by simp
      have Hf : Hid (R = true) := by show _ = _; rw [← HR.out, List.drop_length]; rfl
      clear HR
      go_wp2_with fail
      go_ret
      exact ⟨⟨_, rfl, by rw [Hf.out]; simp⟩, HB.out⟩

set_option maxHeartbeats 1000000 in
theorem implElContains (l : List ElB) (lo : Nat) (a : Option Addr) (cap : Nat) (w : World) (hk : KidsIn (QA lo) (lo ≤ ·) w a l) (hs : ElsSmall l) (hN : elsN l ≤ 1099511627776) (hT : StLib w) :
    Calls Tryz.prog 44 #[.slice a l.length cap, .func (.func 40) #[] #[]] w fun e w' => e = .returned (.bool (!l.all strictE)) ∧ Below w.heap.size w w' := by
  have HI := implElIndex l lo a cap w hk hs hN hT
  generalize (!l.all strictE) = R at *
  clear hk hs hT
  go_enter Tryz.func44, Tryz.ntmps44
  go_wp2_with fail
  refine HI.mono ?_
  rintro e w1 ⟨⟨z, rfl, hz⟩, b1⟩
  clear HI
  go_wp2_with fail
  go_ret
  exact ⟨rfl, b1⟩

set_option maxRecDepth 20000 in
set_option maxHeartbeats 4000000 in
theorem implDocOk (l : List ElB) (lo : Nat) (a : Option Addr) (cap : Nat) (w : World) (hk : KidsIn (QA lo) (lo ≤ ·) w a l) (hs : ElsSmall l) (hN : elsN l ≤ 1099511627776) (hT : StLib w) :
    Calls Tryz.prog 21 #[.slice a l.length cap] w fun r w' => r = .returned (.bool (docF 0 0 l)) ∧ Below w.heap.size w w' := by
  have hlen : l.length ≤ 1099511627776 := by have := elsN_len l; omega
  have H1 := implFewEls l lo a cap w hk hN
  have H2 : Hid (∀ W, Below w.heap.size w W → Calls Tryz.prog 43 #[.slice a l.length cap] W fun e w' => e = .returned (.bool (tagsF 0 l)) ∧ Below W.heap.size W w') := fun W hW => implTagAmongNotes l lo a cap W (hk.keep (QA.lies _) hW) hlen
  have H3 : Hid (∀ W, Below w.heap.size w W → Calls Tryz.prog 44 #[.slice a l.length cap, .func (.func 40) #[] #[]] W fun e w' => e = .returned (.bool (!l.all strictE)) ∧ Below W.heap.size W w') := fun W hW => implElContains l lo a cap W (hk.keep (QA.lies _) hW) hs hN (hT.below hW)
  have Hd : Hid (docF 0 0 l = (decide (elsN l ≤ 3000) && (tagsF 0 l && l.all strictE))) := by show _ = _; rw [docF_parts, Nat.zero_add]
  generalize docF 0 0 l = R at *
  generalize decide (elsN l ≤ 3000) = d1 at *
  generalize tagsF 0 l = d2 at *
  generalize l.all strictE = d3 at *
  clear hk hs hT
  cases d1
  · have Hf : Hid (R = false) := Hd.out
    clear Hd H2 H3
    go_enter Tryz.func21, Tryz.ntmps21
    go_wp2_with fail
    refine H1.mono ?_
    rintro e w1 ⟨rfl, b1⟩
    clear H1
    go_wp2_with fail
    go_ret
    exact ⟨ret_bool Hf.out.symm, b1⟩
  cases d2
  · have Hf : Hid (R = false) := Hd.out
    clear Hd H3
    go_enter Tryz.func21, Tryz.ntmps21
    go_wp2_with fail
    refine H1.mono ?_
    rintro e w1 ⟨rfl, b1⟩
    have K2 := H2.out w1 b1
    clear H1 H2
    go_wp2_with fail
    refine K2.mono ?_
    rintro e w2 ⟨rfl, b2⟩
    clear K2
    go_wp2_with fail
    go_ret
    exact ⟨ret_bool Hf.out.symm, b1.trans (b2.mono b1.size)⟩
  · have Hf : Hid (R = d3) := Hd.out
    clear Hd
    go_enter Tryz.func21, Tryz.ntmps21
    go_wp2_with fail
    refine H1.mono ?_
    rintro e w1 ⟨rfl, b1⟩
    have K2 := H2.out w1 b1
    clear H1 H2
    go_wp2_with fail
    refine K2.mono ?_
    rintro e w2 ⟨rfl, b2⟩
    have b12 := b1.trans (b2.mono b1.size)
    have K3 := H3.out w2 b12
    clear K2 H3
    go_wp2_with fail
    refine K3.mono ?_
    rintro e w3 ⟨rfl, b3⟩
    clear K3
    go_wp2_with fail
    go_ret
    exact ⟨by rw [Hf.out]; cases d3 <;> rfl, b12.trans (b3.mono b12.size)⟩

end Go.Proofs.YtkngdlbedelgnaaGreatDoor.Sg

namespace Go.Proofs.YtkngdlbedelgnaaGreatDoor.Sg
open Go.ChangeShapes Go.WideShapes Go.ChangeAt Go.RowKit

end Go.Proofs.YtkngdlbedelgnaaGreatDoor.Sg

namespace Go.Proofs.YtkngdlbedelgnaaGreatDoor.Sg
open Go.ChangeShapes Go.WideShapes Go.ChangeAt Go.RowKit

end Go.Proofs.YtkngdlbedelgnaaGreatDoor.Sg

namespace Go.Proofs.YtkngdlbedelgnaaGreatDoor.Sg
open Go.ChangeShapes Go.WideShapes Go.ChangeAt Go.RowKit

end Go.Proofs.YtkngdlbedelgnaaGreatDoor.Sg

namespace Go.Proofs.YtkngdlbedelgnaaGreatDoor.Sg
open Go.ChangeShapes Go.WideShapes Go.ChangeAt Go.RowKit

/-- What is read, nothing where all is refused. -/
def readL (s : ByteArray) : List ElB := (readR s).getD []
theorem readL_size (s : ByteArray) : (readL s).length + elsW (readL s) ≤ 1000000 := by
  unfold readL
  cases h : readR s with
  | none => simp [elsW]
  | some l => exact (readR_size h).1
/-- What the program's Read is to leave. -/
def ReadOwn (s : ByteArray) (W : World) (r : Ending) (w' : World) : Prop :=
  Below W.heap.size W w' ∧ ∃ v n F, r = .returned (.tuple #[v, .bool (readR s).isSome]) ∧ OwnS w' W.heap.size n (readL s) v F ∧ ∀ b, F b → W.heap.size ≤ b

end Go.Proofs.YtkngdlbedelgnaaGreatDoor.Sg
