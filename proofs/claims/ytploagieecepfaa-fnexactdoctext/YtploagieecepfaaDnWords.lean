/- Contract of the program's WordsOf: a range over all elements. -/
import Derived.Test.YtploagieecepfaaDnRows
namespace Go.Proofs.Ytploagieecepfaa.Sg
open Go.ChangeShapes Go.WideShapes Go.ChangeAt Go.RowKit Go.Shelf

attribute [local go_sem] Oper.semAt_some

theorem Bl.fi {B b n : Nat} {acc : List UInt8} {w w' : World} (h : Bl B b acc w) (hf : Fi n w w') : Bl B b acc w' := by
  have key : ∀ p, Lib.BuilderAtF 40 5 B b p (Lib.byteCells acc) w → Lib.BuilderAtF 40 5 B b p (Lib.byteCells acc) w' := by
    rintro p ⟨hB, v, hk, ho, hn⟩
    refine ⟨hB, v, hf.cel _ _ _ _ hk (by decide), ?_, hn⟩
    obtain ⟨h1, h2⟩ := ho
    refine ⟨h1, ?_⟩
    rcases h2 with h2 | ⟨k, cap, cur, fz, e, h3, h4, h5⟩
    · exact .inl h2
    · exact .inr ⟨k, cap, cur, fz, e, h3, hf.cel _ _ _ _ h4 (by decide), h5⟩
  exact h.imp (key _) (key _)
/-- What a write leaves, as the range wants it. -/
theorem Kp.ku {B b n : Nat} {S : Nat → Prop} {w w' : World} (h : Kp B b w w') (hS : ∀ k, k < n → ¬ S k → k < B) (hb : b < n) : Ku n S w w' :=
  ⟨h.size, fun k hk _ hs => h.bel.block k (hS k hk hs), fun k c t f hk hc ht => h.obj hc ht (by omega)⟩
theorem Kp.from {B b n : Nat} {w w' : World} (h : Kp B b w w') (hb : ∀ o, w.heap[b]? = some o → o.isCells = true) : KeepsFrom n w w' :=
  ⟨h.size, fun k o _ hk ho => h.oth k o hk (fun e => by
      cases e
      rw [hb o hk] at ho
      cases ho) (fun c f e => by
      subst e
      cases ho)⟩
theorem two_new (w : World) (o0 o1 : Obj) : ((w.alloc o0).alloc o1).heap.size = w.heap.size + 2 ∧ Below w.heap.size w ((w.alloc o0).alloc o1) ∧ ((w.alloc o0).alloc o1).heap[w.heap.size + 1]? = some o1 := by
  refine ⟨by simp, ((Below.refl _ w).alloc (Nat.le_refl _) _).alloc (by simp) _, ?_⟩
  have := World.alloc_heap_new (w.alloc o0) o1
  rw [World.size_alloc] at this
  exact this

set_option maxRecDepth 100000 in
set_option maxHeartbeats 8000000 in
theorem implWordsOf (z : List ElB) (lo n : Nat) (a0 : Option Addr) (w : World) (hx : KidsIn (QA lo) (lo ≤ ·) w a0 z) (hc : CapK (lo ≤ ·) w a0 z) (hn : z.length ≤ n) (hN : elsN z ≤ 1099511627776) (hT : (wordsL z).size ≤ 1099511627776) :
    Calls Try.prog 8 #[.slice a0 z.length n] w fun e w' => e = .returned (.string (wordsL z)) ∧ Below w.heap.size w w' := by
  refine (callsIn_wide (n := 4)).1 ?_
  have hr0 := rowAt_of hx hc hn
  have HW : Hid ((wordsL z).data.toList = (preL z 1).flatMap wordT) := words_preL z 1
  have hTl : (wordsL z).data.toList.length = (wordsL z).size := Array.length_toList
  obtain ⟨R, HR⟩ : ∃ R, Hid (wordsL z = R) := ⟨_, rfl⟩
  rw [HR.out] at HW hT hTl ⊢
  clear hx hc
  refine callsIn_of_wp_marks Try.func8 rfl trivial ?_ rfl
  simp only [Try.ntmps8, List.size_toArray, List.length_cons, List.length_nil, Nat.reduceAdd, Nat.reduceSub, Array.replicate_succ, Array.replicate_zero, List.push_toArray, List.append_toArray, List.nil_append, List.cons_append]
  gi_wp2_with (refine ⟨trivial, ?_⟩; gi_at_call 14; refine (implDownEls _ _ _ _ _).mono ?_; rintro e w' ⟨rfl, rfl⟩)
  have hBl1 : Bl w.heap.size w.heap.size [] (w.alloc (.cells #[.pointer none, .slice none 0 0] 40)) := Lib.IsBuilderF.of (Lib.fresh_isBuilder 40 5 w)
  have hBl0 := hBl1.below ((Below.refl _ (w.alloc (.cells #[.pointer none, .slice none 0 0] 40))).alloc (Nat.le_refl _) (.cells #[.slice a0 z.length n] 25))
  obtain ⟨hsz, hB0, hbx⟩ := two_new w (.cells #[.pointer none, .slice none 0 0] 40) (.cells #[.slice a0 z.length n] 25)
  clear hBl1
  generalize (w.alloc (.cells #[.pointer none, .slice none 0 0] 40)).alloc (.cells #[.slice a0 z.length n] 25) = W0 at *
  refine range_dn (α := DnX) rfl (by decide) (gf := 25) (lb := #[.pointer (some ⟨w.heap.size + 1, 0, none⟩)]) rfl trivial (enters_of Try.func25 (by kernel_rfl) rfl)
    (down_seq 3 (by decide) (fun b => b < w.heap.size) (fun b => w.heap.size ≤ b ∧ b < w.heap.size + 4) (w.heap.size + 1) z hN a0 n W0 (fun b hb => by omega) (by simp [World.cell?, hbx]) (hr0.agree (fun b hb => hB0.block b hb) hB0.size))
    (fun h k => h.trans k) (fun W o' => Ku.put W o' (by omega) (by omega)) (fun _ => rfl)
    (fun pre W => Bl w.heap.size w.heap.size ((pre.map DnX.p).flatMap wordT) W ∧ Below w.heap.size w W)
    (fun _ _ _ => False)
    (fun s A B h hb => ⟨h.1.fi hb, h.2.trans (hb.bel.mono (by omega))⟩) (fun _ _ _ _ h _ => h)
    ⟨hBl0, hB0⟩
    (fun pre x a' W => ∃ Bx, W0.heap.size + 2 ≤ Bx ∧ W.heap[Bx]? = some (.cells #[.int .i64 x.kd, .int .i64 x.sp, .string x.nm, .slice x.xa x.xn x.xc, .string x.tx, .slice x.ka x.kn x.kc] 35 (0, 0)) ∧ (∃ rest, (pre ++ [x]).map DnX.p ++ rest = preL z 1) ∧ a' = { tmps := #[.slice a0 z.length n, undef, .string ⟨#[]⟩, .pointer (some ⟨w.heap.size, 0, none⟩), undef, .pointer (some ⟨Bx, 0, none⟩), .slice a0 z.length n, .func (.func 25) #[] #[.pointer (some ⟨w.heap.size + 1, 0, none⟩)], .int .i64 (x.deep : Int), .agg #[.int .i64 x.kd, .int .i64 x.sp, .string x.nm, .slice x.xa x.xn x.xc, .string x.tx, .slice x.ka x.kn x.kc], undef, undef, undef, undef, undef, undef, undef], defers := [] })
    (fun pre x a' W o' h => by
      obtain ⟨Bx, h1, h2, h3, h4⟩ := h
      exact ⟨Bx, h1, (World.putObj_heap_other (by omega)).trans h2, h3, h4⟩)
    ?assign ?body ?done ?stop
  case assign =>
    intro l pre x W K hi hok hs2 hK
    simp only [encD]
    gi_wp2
    have hb : Below W.heap.size W (W.alloc (.cells #[.int .i64 x.kd, .int .i64 x.sp, .string x.nm, .slice x.xa x.xn x.xc, .string x.tx, .slice x.ka x.kn x.kc] 35)) := (Below.refl _ W).alloc (Nat.le_refl _) _
    exact hK _ _ ((KeepsOthers.alloc _ _).from _) (Ku.of hb) ⟨hi.1.below hb, hi.2.trans (hb.mono hi.2.size)⟩ ⟨W.heap.size, hs2, World.alloc_heap_new _ _, hok, rfl⟩
  case body =>
    rintro l pre x a' W ⟨hm, hB⟩ ⟨Bx, hBx, hx, hvis, rfl⟩ hs2
    obtain ⟨rest, hvis⟩ := hvis
    have HL : Hid (((pre ++ [x]).map DnX.p).flatMap wordT = ((pre.map DnX.p).flatMap wordT) ++ wordT x.p) := by show _ = _; rw [List.map_append, List.flatMap_append]; simp
    have hle : (((pre ++ [x]).map DnX.p).flatMap wordT).length ≤ 1099511627776 := by
      have h1 := HW.out
      rw [← hvis, List.flatMap_append] at h1
      have h2 := congrArg List.length h1
      rw [List.length_append] at h2
      omega
    rw [HL.out, List.length_append] at hle
    have x0 : W.cell? ⟨Bx, 0, none⟩ = some (.int .i64 x.kd) := by simp [World.cell?, hx]
    have x4 : W.cell? ⟨Bx, 4, none⟩ = some (.string x.tx) := by simp [World.cell?, hx]
    have hsz2 := hB.size
    have HM : Hid (Bl w.heap.size w.heap.size ((pre.map DnX.p).flatMap wordT) W) := hm
    clear hvis hx
    by_cases hk : x.kd = 2
    · have g1 : (x.kd == 2) = true := by simp [hk]
      have hw : wordT x.p = x.tx.data.toList := by unfold wordT DnX.p; rw [if_pos hk]
      rw [hw] at HL hle
      have htl : x.tx.data.toList.length = x.tx.size := Array.length_toList
      have HWr := writeString w.heap.size w.heap.size (Lib.byteCells ((pre.map DnX.p).flatMap wordT)) x.tx W hm (by rw [Lib.byteCells_length]; omega) hsz2
      clear hm
      gi_wp2_with (refine ⟨trivial, ?_⟩; gi_at_call 15; refine (((callsIn_wide (n := _)).2 HWr).inRound _).mono ?_; rintro e w1 ⟨rfl, hI2, hb2, ho2⟩)
      have hKp : Kp w.heap.size w.heap.size W w1 := ⟨hb2, ho2⟩
      refine ⟨hKp.from (fun o ho => ?_), hKp.ku (fun k _ hk => by omega) (by omega), ?_, hB.trans hb2⟩
      · obtain ⟨_, c, hc⟩ := HM.out.block
        rw [hc] at ho
        cases ho
        rfl
      · rw [HL.out]
        show Lib.IsBuilderF _ _ _ _ _ _
        rw [byteCells_app]
        exact .inr hI2
    · have g1 : (x.kd == 2) = false := by simp [hk]
      have hw : wordT x.p = [] := by unfold wordT DnX.p; rw [if_neg hk]
      rw [hw, List.append_nil] at HL
      clear hm
      gi_wp2_with (refine ⟨trivial, ?_⟩; fail)
      refine ⟨(KeepsOthers.refl W).from _, Ku.of (Below.refl _ _), ?_, hB⟩
      rw [HL.out]
      exact HM.out
  case done =>
    rintro D ys W hD hS ⟨hm, hB⟩ hK
    rw [hS, ← HW.out] at hm
    have HF := Try.Builder_String_any_k w.heap.size w.heap.size _ W hm hB.size
    rw [show (⟨R.data.toList.toArray⟩ : ByteArray) = R by cases R; rfl] at HF
    gi_wp2_with (refine ⟨trivial, ?_⟩; gi_at_call 16; refine ((callsIn_wide (n := _)).2 HF).mono ?_; rintro e w2 ⟨rfl, _, hb2, ho2⟩)
    have hne : w.heap.size ≠ D := by
      obtain ⟨_, c, hc⟩ := hm.block
      rintro e
      rw [← e, hc] at hK
      cases hK
    have hK' : w2.heap[D]? = some (.deferred (some [])) := ho2 D _ hK (fun e => hne (Option.some.inj e).symm) (fun c f e => by cases e)
    refine ⟨by simp, .inl ⟨_, _, rfl, run_takeDeferred hK', ?_⟩⟩
    exact ⟨_, results_tmp rfl _ _ _, rfl, (hB.trans hb2).trans (belowK_b (w := w) (Nat.le_refl _) w2 D _ _ (by omega) hK' rfl rfl)⟩
  case stop =>
    rintro D c pre W _ _ h _
    exact h.elim

end Go.Proofs.Ytploagieecepfaa.Sg
