/- Contract of the program's ElSize. -/
import Derived.Test.YtgpfekdfomlljaaRwRows
namespace Go.Proofs.Ytgpfekdfomlljaa.Sg
open Go.ChangeShapes Go.WideShapes Go.ChangeAt Go.RowKit Go.Shelf

attribute [local go_sem] Oper.semAt_some

theorem box2_of {W : World} {B : Nat} {v : Value} {t : TypeId} (h : W.heap[B]? = some (.cells #[v] t (0, 0))) : W.cell? ⟨B, 0, none⟩ = some v ∧ W.frozen? ⟨B, 0, none⟩ = false := by
  constructor <;> simp [World.cell?, World.frozen?, h]
/-- One element in a slice of its own. -/
theorem kids_one {W : World} {Pb : Nat → Prop} {z : ElB} {v : Value} {b : Nat} (hV : ElV QSh Pb W v z) (hb : Pb b) (hc : ∃ v0 v1 v2 v3 v4 v5, v = .agg #[v0, v1, v2, v3, v4, v5] ∧ W.heap[b]? = some (.cells #[v0, v1, v2, v3, v4, v5] 31 (0, 0))) : KidsIn QSh Pb W (some ⟨b, 0, none⟩) [z] := by
  obtain ⟨v0, v1, v2, v3, v4, v5, rfl, hh⟩ := hc
  refine .inr ⟨b, 0, rfl, hb, ?_⟩
  unfold ElsIn
  refine ⟨hV.cells ?_ ?_ ?_ ?_ ?_ ?_, by unfold ElsIn; trivial⟩ <;> simp [World.cell?, hh]
theorem lenR_le {els0 : List ElB} {pre rest : List (List ElB × Nat)} (h : Vis [(els0, 1)] (pre ++ rest)) : lenR pre ≤ elsN els0 := by
  have h1 := vis_len h
  have h2 : lenR (pre ++ rest) = lenR pre + lenR rest := by simp [lenR]
  have h3 : wN [(els0, 1)] = elsN els0 := by simp [wN]
  omega

/-- Four blocks, one behind the other. -/
theorem four_blocks (w : World) (o0 o1 o2 o3 : Obj) : ((((w.alloc o0).alloc o1).alloc o2).alloc o3).heap.size = w.heap.size + 4 ∧ Below w.heap.size w ((((w.alloc o0).alloc o1).alloc o2).alloc o3) ∧ ((((w.alloc o0).alloc o1).alloc o2).alloc o3).heap[w.heap.size + 1]? = some o1 ∧ ((((w.alloc o0).alloc o1).alloc o2).alloc o3).heap[w.heap.size + 2]? = some o2 ∧ ((((w.alloc o0).alloc o1).alloc o2).alloc o3).heap[w.heap.size + 3]? = some o3 := by
  refine ⟨by simp, ((((Below.refl _ w).alloc (Nat.le_refl _) _).alloc (by simp) _).alloc (by simp; omega) _).alloc (by simp; omega) _, ?_, ?_, ?_⟩
  · have := World.alloc_heap_new (w.alloc o0) o1
    rw [World.size_alloc] at this
    exact (Below.heap_alloc _ _ _ (by simp)).trans ((Below.heap_alloc _ _ _ (by simp)).trans this)
  · have := World.alloc_heap_new ((w.alloc o0).alloc o1) o2
    rw [World.size_alloc, World.size_alloc] at this
    exact (Below.heap_alloc _ _ _ (by simp)).trans this
  · have := World.alloc_heap_new (((w.alloc o0).alloc o1).alloc o2) o3
    rw [World.size_alloc, World.size_alloc, World.size_alloc] at this
    exact this

set_option maxRecDepth 100000 in
set_option maxHeartbeats 4000000 in
theorem implElSize (z : ElB) (lo : Nat) (v : Value) (w : World) (hx : ElV (QA lo) (lo ≤ ·) w v z) (hN : elN z ≤ 1099511627776) :
    Calls Try.prog 9 #[v] w fun r w' => r = .returned (.int .i64 (elN z : Int)) ∧ Below w.heap.size w w' := by
  refine (callsIn_wide (n := 4)).1 ?_
  obtain ⟨c0, c1, c2, c3a, c3n, c3c, c4, c5a, c5n, c5c, rfl⟩ : ∃ c0 c1 c2 c3a c3n c3c c4 c5a c5n c5c, v = .agg #[.int .i64 c0, .int .i64 c1, .string c2, .slice c3a c3n c3c, .string c4, .slice c5a c5n c5c] := by
    obtain ⟨kd, sp, nm, ats, tx, ks⟩ := z
    obtain ⟨av, ka, kc, e, ⟨xa, xc, rfl, _⟩, _⟩ := hx
    exact ⟨_, _, _, _, _, _, _, _, _, _, e⟩
  have HV : Hid (ElV QSh (fun b => b < w.heap.size) w (.agg #[.int .i64 c0, .int .i64 c1, .string c2, .slice c3a c3n c3c, .string c4, .slice c5a c5n c5c]) z) :=
    (hx.lts).wider (fun v l h => by obtain ⟨x, c, e, _⟩ := h; exact ⟨x, c, e⟩) (fun b hb => hb.2)
  clear hx
  refine callsIn_of_wp_marks Try.func9 rfl trivial ?_ rfl
  simp only [Try.ntmps9, List.size_toArray, List.length_cons, List.length_nil, Nat.reduceAdd, Nat.reduceSub, Array.replicate_succ, Array.replicate_zero, List.push_toArray, List.append_toArray, List.nil_append, List.cons_append]
  gi_wp2_with (refine ⟨trivial, ?_⟩; gi_at_call 19; refine (implRowsOf _ _ _ _ _).mono ?_; rintro e w' ⟨rfl, rfl⟩)
  obtain ⟨hsz, hB0, hm0, hlit, hbx⟩ := four_blocks w (.cells #[.int .i64 c0, .int .i64 c1, .string c2, .slice c3a c3n c3c, .string c4, .slice c5a c5n c5c] 31) (.cells #[.int .i64 0] 3) (.cells #[.int .i64 c0, .int .i64 c1, .string c2, .slice c3a c3n c3c, .string c4, .slice c5a c5n c5c] 31) (.cells #[.slice (some ⟨w.heap.size + 2, 0, none⟩) 1 1] 29)
  simp only [show w.heap.size + 1 + 1 + 1 = w.heap.size + 3 from rfl, show w.heap.size + 1 + 1 = w.heap.size + 2 from rfl]
  generalize ((((w.alloc (.cells #[.int .i64 c0, .int .i64 c1, .string c2, .slice c3a c3n c3c, .string c4, .slice c5a c5n c5c] 31)).alloc (.cells #[.int .i64 0] 3)).alloc (.cells #[.int .i64 c0, .int .i64 c1, .string c2, .slice c3a c3n c3c, .string c4, .slice c5a c5n c5c] 31)).alloc (.cells #[.slice (some ⟨w.heap.size + 2, 0, none⟩) 1 1] 29)) = W0 at *
  have HK : KidsIn QSh (fun b => b < w.heap.size ∨ b = w.heap.size + 2) W0 (some ⟨w.heap.size + 2, 0, none⟩) [z] :=
    kids_one ((HV.out.agree (QSh.liesP _) (fun b hb => hB0.block b hb) hB0.size).wider (fun v l h => h) (fun b hb => .inl hb)) (.inr rfl) ⟨_, _, _, _, _, _, rfl, hlit⟩
  have hNz : elsN [z] ≤ 1099511627776 := by simp only [elsN]; omega
  have HN : Hid (elN z = elsN [z]) := by show _ = _; simp only [elsN]; omega
  refine range_own (α := RowX) rfl (by decide) (gf := 28) (lb := #[.pointer (some ⟨w.heap.size + 3, 0, none⟩)]) rfl trivial (enters_of Try.func28 (by kernel_rfl) rfl)
    (rows_seq 3 (by decide) QSh (fun b => b < w.heap.size ∨ b = w.heap.size + 2) (QSh.liesP _) (fun h => h) (fun b => b = w.heap.size + 1 ∨ b = w.heap.size + 5) (w.heap.size + 3) [z] hNz (some ⟨w.heap.size + 2, 0, none⟩) 1 W0 (fun b hb => by omega) (fun b hb => by omega) (by simp [World.cell?, hbx]) HK)
    (fun h k => h.trans k) (fun W o' => Kb.of_grown (grownBy_putObj' W _ o') (fun k e => by cases e; exact .inr (by omega))) (fun _ => rfl)
    (fun pre W => Boxed W (w.heap.size + 1) 3 (.int .i64 (lenR (pre.map RowX.p) : Int)) ∧ Below w.heap.size w W)
    (fun _ _ _ => False)
    (fun s A B h hb => ⟨(hb.block _ (by omega)).trans h.1, h.2.trans (hb.mono (by omega))⟩) (fun _ _ _ _ h _ => h)
    ⟨hm0, hB0⟩
    (fun pre x a' W => ∃ Bx, W0.heap.size + 2 ≤ Bx ∧ W.heap[Bx]? = some (.cells #[.slice x.a x.els.length x.cap, .int .i64 (x.deep : Int)] 44 (0, 0)) ∧ (∃ rest, Vis [([z], 1)] ((pre ++ [x]).map RowX.p ++ rest)) ∧ a' = { tmps := #[(.agg #[.int .i64 c0, .int .i64 c1, .string c2, .slice c3a c3n c3c, .string c4, .slice c5a c5n c5c]), .pointer (some ⟨w.heap.size, 0, none⟩), .int .i64 0, .pointer (some ⟨w.heap.size + 1, 0, none⟩), .pointer (some ⟨Bx, 0, none⟩), (.agg #[.int .i64 c0, .int .i64 c1, .string c2, .slice c3a c3n c3c, .string c4, .slice c5a c5n c5c]), .slice (some ⟨w.heap.size + 2, 0, none⟩) 1 1, .func (.func 28) #[] #[.pointer (some ⟨w.heap.size + 3, 0, none⟩)], .agg #[.slice x.a x.els.length x.cap, .int .i64 (x.deep : Int)], undef, undef, undef, undef, undef, undef], defers := [] })
    (fun pre x a' W o' h => by
      obtain ⟨Bx, h1, h2, h3, h4⟩ := h
      exact ⟨Bx, h1, (World.putObj_heap_other (by omega)).trans h2, h3, h4⟩)
    ?assign ?body ?done ?stop
  case assign =>
    intro l pre x W K hi hok hs2 hK
    simp only [encR]
    gi_wp2
    have hb : Below W.heap.size W (W.alloc (.cells #[.slice x.a x.els.length x.cap, .int .i64 (x.deep : Int)] 44)) := (Below.refl _ W).alloc (Nat.le_refl _) _
    exact hK _ _ ((KeepsOthers.alloc _ _).from _) (Kb.of_below hb _) ⟨hi.1.alloc _, hi.2.trans (hb.mono hi.2.size)⟩ ⟨W.heap.size, hs2, World.alloc_heap_new _ _, hok.2, rfl⟩
  case body =>
    rintro l pre x a' W ⟨hm, hB⟩ ⟨Bx, hBx, hx, hvis, rfl⟩ hs2
    obtain ⟨rest, hvis⟩ := hvis
    have hle := lenR_le hvis
    rw [List.map_append, List.map_singleton, lenR_snoc] at hle
    have HL : Hid (lenR ((pre ++ [x]).map RowX.p) = lenR (pre.map RowX.p) + x.els.length) := by show _ = _; rw [List.map_append, List.map_singleton, lenR_snoc]; rfl
    have hle2 : lenR (pre.map RowX.p) + x.els.length ≤ 1099511627776 := Nat.le_trans hle hNz
    have m0 := hm.cell
    have m1 := hm.frozen
    have x0 : W.cell? ⟨Bx, 0, none⟩ = some (.slice x.a x.els.length x.cap) := by simp [World.cell?, hx]
    have q1 : IntKind.i64.wrap ((lenR (pre.map RowX.p) : Int) + (x.els.length : Int)) = (lenR (pre.map RowX.p) : Int) + (x.els.length : Int) := IntWalk.i64_in _ (by omega)
    clear hvis hle
    gi_wp2
    refine ⟨(KeepsOthers.setCell _ _ _).from _, Kb.of_grown (grownBy_setCell' W _ _) (fun k e => by cases e; exact .inl rfl), ?_, hB.setCell (p := ⟨w.heap.size + 1, 0, none⟩) (by simp) _⟩
    rw [HL.out]
    have := hm.set (.int .i64 ((lenR (pre.map RowX.p) : Int) + (x.els.length : Int)))
    simpa using this
  case done =>
    rintro D ys W hD hS ⟨hm, hB⟩ hK
    have hl := vis_len hS
    have h3 : wN [([z], 1)] = elsN [z] := by simp [wN]
    have Hl : Hid (lenR (ys.map RowX.p) = elN z) := by show _ = _; rw [hl, h3, HN.out]
    have m0 := hm.cell
    rw [Hl.out] at m0
    gi_wp2
    refine ⟨by simp, .inl ⟨_, _, rfl, run_takeDeferred hK, ?_⟩⟩
    exact ⟨_, results_tmp rfl _ _ _, rfl, hB.trans (belowK_b (w := w) (Nat.le_refl _) W D _ _ (by omega) hK rfl rfl)⟩
  case stop =>
    rintro D c pre W _ _ h _
    exact h.elim

end Go.Proofs.Ytgpfekdfomlljaa.Sg
