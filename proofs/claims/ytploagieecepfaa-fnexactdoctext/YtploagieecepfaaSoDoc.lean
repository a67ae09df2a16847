/- Contract of the program's DocText: a range over all elements, a line each. -/
import Derived.Test.YtploagieecepfaaDnWords
import Derived.Test.YtploagieecepfaaDnShow
import Derived.Test.YtploagieecepfaaSoDeep
import Derived.Stop.RegionWithIn
namespace Go.Proofs.Ytploagieecepfaa.Sg
open Go.ChangeShapes Go.WideShapes Go.ChangeAt Go.RowKit Go.Shelf

attribute [local go_sem] Oper.semAt_some

theorem ShB.fi {B b n : Nat} {acc : List UInt8} {ln : List ByteArray} {w w' : World} (h : ShB B b acc ln w) (hf : Fi n w w') : ShB B b acc ln w' := by
  have key : ∀ p, ShA B b p acc ln w → ShA B b p acc ln w' := by
    rintro p ⟨hB, v, hk, ho⟩
    refine ⟨hB, v, hf.cel _ _ _ _ hk (by decide), ?_⟩
    obtain ⟨h1, h2⟩ := ho
    refine ⟨h1, ?_⟩
    rcases h2 with h2 | ⟨k, cap, cur, fz, e, h3, h4, h5⟩
    · exact .inl h2
    · exact .inr ⟨k, cap, cur, fz, e, h3, hf.cel _ _ _ _ h4 (by decide), h5⟩
  exact h.imp (key _) (key _)
theorem ShB.isCells {B b : Nat} {acc : List UInt8} {ln : List ByteArray} {w : World} (h : ShB B b acc ln w) : ∀ o, w.heap[b]? = Option.some o → o.isCells = true := by
  intro o ho
  rcases h with ⟨_, v, hk, _⟩ | ⟨_, v, hk, _⟩
  · rw [hk] at ho
    cases ho
    rfl
  · rw [hk] at ho
    cases ho
    rfl

set_option maxRecDepth 100000 in
set_option maxHeartbeats 8000000 in
theorem implDocText (z : List ElB) (lo n : Nat) (a0 : Option Addr) (w : World) (hx : KidsIn (QA lo) (lo ≤ ·) w a0 z) (hc : CapK (lo ≤ ·) w a0 z) (hn : z.length ≤ n) (hN : elsN z ≤ 1099511627776) (hT : (showL z 0).size ≤ 35184372088832) :
    Calls Try.prog 11 #[.slice a0 z.length n] w fun e w' => e = .returned (.string (showL z 0)) ∧ Below w.heap.size w w' := by
  refine (callsIn_wide (n := 4)).1 ?_
  have hr0 := rowAt_of hx hc hn
  have HW : Hid ((showL z 0).data.toList = (preL z 1).flatMap lineT) := show_preL z 0
  have hTl : (showL z 0).data.toList.length = (showL z 0).size := Array.length_toList
  have hdz := elsD_le z
  obtain ⟨R, HR⟩ : ∃ R, Hid (showL z 0 = R) := ⟨_, rfl⟩
  rw [HR.out] at HW hT hTl ⊢
  clear hx hc
  refine callsIn_of_wp_marks Try.func11 rfl trivial ?_ rfl
  simp only [Try.ntmps11, List.size_toArray, List.length_cons, List.length_nil, Nat.reduceAdd, Nat.reduceSub, Array.replicate_succ, Array.replicate_zero, List.push_toArray, List.append_toArray, List.nil_append, List.cons_append]
  gi_wp2_with (refine ⟨trivial, ?_⟩; gi_at_call 14; refine (implDownEls _ _ _ _ _).mono ?_; rintro e w' ⟨rfl, rfl⟩)
  have hS1 := shown_new w
  have hS0 := hS1.below ((Below.refl _ (w.alloc (.cells #[.pointer none, .slice none 0 0, .string ⟨#[]⟩, .string ⟨#[]⟩, .string ⟨#[]⟩, .string ⟨#[]⟩, .string ⟨#[]⟩, .string ⟨#[]⟩] 53))).alloc (Nat.le_refl _) (.cells #[.slice a0 z.length n] 25))
  obtain ⟨hsz, hB0, hbx⟩ := two_new w (.cells #[.pointer none, .slice none 0 0, .string ⟨#[]⟩, .string ⟨#[]⟩, .string ⟨#[]⟩, .string ⟨#[]⟩, .string ⟨#[]⟩, .string ⟨#[]⟩] 53) (.cells #[.slice a0 z.length n] 25)
  clear hS1
  generalize (w.alloc (.cells #[.pointer none, .slice none 0 0, .string ⟨#[]⟩, .string ⟨#[]⟩, .string ⟨#[]⟩, .string ⟨#[]⟩, .string ⟨#[]⟩, .string ⟨#[]⟩] 53)).alloc (.cells #[.slice a0 z.length n] 25) = W0 at *
  refine range_dn (α := DnX) rfl (by decide) (gf := 25) (lb := #[.pointer (some ⟨w.heap.size + 1, 0, none⟩)]) rfl trivial (enters_of Try.func25 (by kernel_rfl) rfl)
    (down_seq 3 (by decide) (fun b => b < w.heap.size) (fun b => w.heap.size ≤ b ∧ b < w.heap.size + 4) (w.heap.size + 1) z hN a0 n W0 (fun b hb => by omega) (by simp [World.cell?, hbx]) (hr0.agree (fun b hb => hB0.block b hb) hB0.size))
    (fun h k => h.trans k) (fun W o' => Ku.put W o' (by omega) (by omega)) (fun _ => rfl)
    (fun pre W => ShB w.heap.size w.heap.size ((pre.map DnX.p).flatMap lineT) noLine W ∧ Below w.heap.size w W)
    (fun _ _ _ => False)
    (fun s A B h hb => ⟨h.1.fi hb, h.2.trans (hb.bel.mono (by omega))⟩) (fun _ _ _ _ h _ => h)
    ⟨hS0, hB0⟩
    (fun pre x a' W => ∃ Bx, W0.heap.size + 2 ≤ Bx ∧ W.heap[Bx]? = some (.cells #[.int .i64 x.kd, .int .i64 x.sp, .string x.nm, .slice x.xa x.xn x.xc, .string x.tx, .slice x.ka x.kn x.kc] 35 (0, 0)) ∧ (∃ rest, (pre ++ [x]).map DnX.p ++ rest = preL z 1) ∧ a' = { tmps := #[.slice a0 z.length n, undef, .string ⟨#[]⟩, .pointer (some ⟨w.heap.size, 0, none⟩), .int .i64 (x.deep : Int), .pointer (some ⟨Bx, 0, none⟩), .slice a0 z.length n, .func (.func 25) #[] #[.pointer (some ⟨w.heap.size + 1, 0, none⟩)], .int .i64 (x.deep : Int), .agg #[.int .i64 x.kd, .int .i64 x.sp, .string x.nm, .slice x.xa x.xn x.xc, .string x.tx, .slice x.ka x.kn x.kc], undef, undef, undef, undef, undef, undef, undef, undef, undef, undef, undef, undef, undef, undef], defers := [] })
    (fun pre x a' W o' h => by
      obtain ⟨Bx, h1, h2, h3, h4⟩ := h
      exact ⟨Bx, h1, (World.putObj_heap_other (by omega)).trans h2, h3, h4⟩)
    ?assign ?body ?done ?stop
  case assign =>
    intro l pre x W K hi hok hs2 hK
    simp only [encD]
    gi_wp2
    have hb : Below W.heap.size W (W.alloc (.cells #[.int .i64 x.kd, .int .i64 x.sp, .string x.nm, .slice x.xa x.xn x.xc, .string x.tx, .slice x.ka x.kn x.kc] 35)) := (Below.refl _ W).alloc (Nat.le_refl _) _
    exact hK _ _ ((KeepsOthers.alloc _ _).from _) (Ku.of hb) ⟨hi.1.below hb, hi.2.trans (hb.mono hi.2.size)⟩ ⟨W.heap.size, hs2, World.alloc_heap_new _ _, hok, rfl⟩
  case body =>
    rintro l pre x a' W ⟨hm, hB⟩ ⟨Bx, hBx, hx, hvis, rfl⟩ hs2
    obtain ⟨rest, hvis⟩ := hvis
    have HL : Hid (((pre ++ [x]).map DnX.p).flatMap lineT = ((pre.map DnX.p).flatMap lineT) ++ lineT x.p) := by show _ = _; rw [List.map_append, List.flatMap_append]; simp
    have hle : (((pre ++ [x]).map DnX.p).flatMap lineT).length ≤ 35184372088832 := by
      have h1 := HW.out
      rw [← hvis, List.flatMap_append] at h1
      have h2 := congrArg List.length h1
      rw [List.length_append] at h2
      omega
    rw [HL.out, List.length_append] at hle
    have hdp := preL_deep z 1 x.p (by rw [← hvis]; simp)
    have hnm := lineT_named x.p
    have HX : Hid (W.heap[Bx]? = some (.cells #[.int .i64 x.kd, .int .i64 x.sp, .string x.nm, .slice x.xa x.xn x.xc, .string x.tx, .slice x.ka x.kn x.kc] 35 (0, 0))) := hx
    have hsz2 := hB.size
    clear hvis hx
    obtain ⟨kd, sp, nm, xa, xn, xc, tx, ka, kn, kc, dp⟩ := x
    simp only [DnX.p] at hdp hnm HL hle HX ⊢
    have q1 : IntKind.i64.wrap ((dp : Int) - 1) = ((dp - 1 : Nat) : Int) := by rw [show (dp : Int) - 1 = ((dp - 1 : Nat) : Int) by omega]; exact IntWalk.i64_in _ (by omega)
    have hlen : (lineT ⟨kd, nm, tx, dp⟩).length ≤ 35184372088832 := by omega
    have hne : Bx ≠ w.heap.size := by omega
    have HD := implPutDeep w.heap.size w.heap.size _ ⟨#[]⟩ ⟨#[]⟩ ⟨#[]⟩ ⟨#[]⟩ ⟨#[]⟩ ⟨#[]⟩ (dp - 1) W hm hsz2 (by omega)
    have HC := hm.isCells
    clear hm
    gi_wp2_with (refine ⟨trivial, ?_⟩; gi_at_call 19; refine (((callsIn_wide (n := _)).2 HD).inRound _).mono ?_; rintro e w1 ⟨rfl, hs1, hk1⟩)
    have hX1 := hk1.obj HX.out (by decide) hne
    have y0 : w1.cell? ⟨Bx, 0, none⟩ = some (.int .i64 kd) := by simp [World.cell?, hX1]
    have y2 : w1.cell? ⟨Bx, 2, none⟩ = some (.string nm) := by simp [World.cell?, hX1]
    have y4 : w1.cell? ⟨Bx, 4, none⟩ = some (.string tx) := by simp [World.cell?, hX1]
    have d0 : w1.drew.cell? ⟨Bx, 0, none⟩ = some (.int .i64 kd) := y0
    have d2 : w1.drew.cell? ⟨Bx, 2, none⟩ = some (.string nm) := y2
    have d4 : w1.drew.cell? ⟨Bx, 4, none⟩ = some (.string tx) := y4
    have hs1z : w.heap.size ≤ w1.heap.size := Nat.le_trans hsz2 hk1.size
    have HP := implPutL w.heap.size w.heap.size _ _ _ _ _ _ _ (kindS kd elNames') nm tx w1.drew hs1 hs1z (by omega)
    have HE0 := implElKind kd w1.drew
    have HK1 : Hid (Kp w.heap.size w.heap.size W w1) := hk1
    have HB : Hid (Below w.heap.size w W) := hB
    have HC2 : Hid (∀ o, W.heap[w.heap.size]? = some o → o.isCells = true) := HC
    have Hz1 : Hid (w.heap.size ≤ w1.heap.size) := hs1z
    have Hln : Hid (((pre.map DnX.p).flatMap lineT).length + (lineT ⟨kd, nm, tx, dp⟩).length ≤ 35184372088832) := hle
    have Hsz : Hid (W0.heap.size = w.heap.size + 2) := hsz
    clear hk1 hB HC hs1z hle hsz hs1 hX1 hdp hnm hlen q1 HD hsz2 hs2 hBx hne hr0 hN hn hdz hTl hT hB0 hbx HX HW HR
    gi_region_with (first | (refine ⟨trivial, ?_⟩; gi_at_call 21; refine (((callsIn_wide (n := _)).2 HE0).inRound _).mono ?_; rintro e w5 ⟨rfl, rfl⟩) | (refine ⟨trivial, ?_⟩; gi_at_call 20; refine (((callsIn_wide (n := _)).2 HP).inRound _).mono ?_; rintro e w6 ⟨rfl, hs6, hk6⟩))
    all_goals
      have K6 : Kp w.heap.size w.heap.size W w6 := HK1.out.trans ((Kp.of ((Below.refl w1.heap.size w1).drew) Hz1.out).trans hk6)
      have Hz6 : w.heap.size ≤ w6.heap.size := Nat.le_trans Hz1.out hk6.size
      have HE := implEnd w.heap.size w.heap.size _ _ _ _ _ _ _ w6 hs6 Hz6 (Nat.le_trans Hln.out (by decide))
      clear hs6 hk6
      gi_wp2_with (refine ⟨trivial, ?_⟩; gi_at_call 22; refine (((callsIn_wide (n := _)).2 HE).inRound _).mono ?_; rintro e w7 ⟨rfl, hs7, hk7⟩)
      have K7 := K6.trans hk7
      have hz := Hsz.out
      refine ⟨K7.from HC2.out, K7.ku (fun k _ hk => by omega) (by omega), ?_, HB.out.trans K7.bel⟩
      rw [HL.out]
      exact hs7
  case done =>
    rintro D ys W hD hS ⟨hm, hB⟩ hK
    rw [hS, ← HW.out] at hm
    have HF := headStringK w.heap.size w.heap.size _ _ W hm hB.size
    rw [show (⟨R.data.toList.toArray⟩ : ByteArray) = R by cases R; rfl] at HF
    gi_wp2_with (refine ⟨trivial, ?_⟩; gi_at_call 16; refine ((callsIn_wide (n := _)).2 HF).mono ?_; rintro e w2 ⟨rfl, hb2, ho2⟩)
    have hne : w.heap.size ≠ D := by
      rintro e
      have h := hm.isCells _ (by rw [e]; exact hK)
      cases h
    have hK' : w2.heap[D]? = some (.deferred (some [])) := ho2 D _ hK (fun e => hne (Option.some.inj e).symm) (fun c f e => by cases e)
    refine ⟨by simp, .inl ⟨_, _, rfl, run_takeDeferred hK', ?_⟩⟩
    exact ⟨_, results_tmp rfl _ _ _, rfl, (hB.trans hb2).trans (belowK_b (w := w) (Nat.le_refl _) w2 D _ _ (by omega) hK' rfl rfl)⟩
  case stop =>
    rintro D c pre W _ _ h _
    exact h.elim

end Go.Proofs.Ytploagieecepfaa.Sg
