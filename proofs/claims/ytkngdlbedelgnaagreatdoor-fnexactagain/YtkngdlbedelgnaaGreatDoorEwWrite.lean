/- Contracts of the program's write (of one element) and Write. Written by mk_ewwrite.py. -/
import Derived.Test.YtkngdlbedelgnaaGreatDoorEwTag
import Derived.Test.YtkngdlbedelgnaaGreatDoorMAG07
namespace Go.Proofs.YtkngdlbedelgnaaGreatDoor.Sg
open Go.ChangeShapes Go.WideShapes Go.ChangeAt Go.RowKit

theorem okEs_all : ∀ (es : List ElB) (pk : Int), okEs pk es = true → ∀ e ∈ es, okE e = true
  | [], _, _, _, h => nomatch h
  | x :: es, pk, h, e, hm => by
    rw [okEs, Bool.and_eq_true, Bool.and_eq_true] at h
    rcases List.mem_cons.1 hm with rfl | hm
    · exact h.1.1
    · exact okEs_all es _ h.2 e hm
theorem kids_first {lo : Nat} {w : World} {a : Option Addr} {l : List ElB} (h : KidsIn (QA lo) (lo ≤ ·) w a l) : KidsIn (QB w.heap.size) (· < w.heap.size) w a l := by
  by_cases h0 : l.length = 0
  · exact .inl h0
  · rcases h with h | ⟨kb, ko, e, hp, h⟩
    · exact absurd h h0
    · exact .inr ⟨kb, ko, e, ElsIn.lt h0 h, ElsIn.wider (fun v l h => by
        obtain ⟨x, c, rfl, h1, h2, h3⟩ := h
        exact ⟨⟨x, c, rfl, fun _ _ _ _ => Nat.zero_le _, h2, h3⟩, fun b o m k c e => by cases e; exact h2 b o m rfl⟩) (fun b hb => hb.2) l kb ko (ElsIn.lts l kb ko h)⟩

set_option maxRecDepth 20000 in
set_option maxHeartbeats 4000000 in
theorem write_of (kd sp : Int) (nm : ByteArray) (ats : List AttrB) (tx : ByteArray) (ks : List ElB) (ih : ∀ e ∈ ks, SayC e) : SayC (.mk kd sp nm ats tx ks) := by
  intro B b acc about v0 v1 v2 v3 v4 v5 w hb hB hv hok hs hl
  have hok2 := hok
  rw [okE, Bool.and_eq_true] at hok2
  have hoks := okEs_all ks 0 hok2.1
  have hsf := hok2.2
  clear hok2
  by_cases h1 : kd = 1
  · subst h1
    have Hs : Hid (ElSmall (.mk 1 sp nm ats tx ks)) := hs
    have hl' := hl
    rw [saidE_tag] at hl' ⊢
    clear hl hok hsf hs
    obtain ⟨av, ka, kc, ev, hq, hk⟩ := hv
    cases ev
    obtain ⟨ab, ac, rfl⟩ := hq.slice
    have bA := (Below.refl w.heap.size w).alloc (Nat.le_refl _) (.cells #[.pointer (some ⟨b, 0, none⟩), .int .i64 about, .int .i64 1, .int .i64 sp, .string nm, .slice ab ats.length ac, .string tx, .slice ka ks.length kc] 56)
    have HB1 : Hid (Bl B b acc (w.alloc (.cells #[.pointer (some ⟨b, 0, none⟩), .int .i64 about, .int .i64 1, .int .i64 sp, .string nm, .slice ab ats.length ac, .string tx, .slice ka ks.length kc] 56))) := hb.below bA
    have HK1 : Hid (Kp B b w (w.alloc (.cells #[.pointer (some ⟨b, 0, none⟩), .int .i64 about, .int .i64 1, .int .i64 sp, .string nm, .slice ab ats.length ac, .string tx, .slice ka ks.length kc] 56))) := Kp.of bA hB
    have hxb : w.heap.size ≠ b := by
      obtain ⟨_, c, hc⟩ := hb.block
      have := (Array.getElem?_eq_some_iff.1 hc).1
      omega
    have HX : Hid ((w.alloc (.cells #[.pointer (some ⟨b, 0, none⟩), .int .i64 about, .int .i64 1, .int .i64 sp, .string nm, .slice ab ats.length ac, .string tx, .slice ka ks.length kc] 56)).heap[w.heap.size]? = some (.cells #[.pointer (some ⟨b, 0, none⟩), .int .i64 about, .int .i64 1, .int .i64 sp, .string nm, .slice ab ats.length ac, .string tx, .slice ka ks.length kc] 56 (0, 0))) := news_obj w _ _
    have HV : Hid (ElV (QB B) (· < B) (w.alloc (.cells #[.pointer (some ⟨b, 0, none⟩), .int .i64 about, .int .i64 1, .int .i64 sp, .string nm, .slice ab ats.length ac, .string tx, .slice ka ks.length kc] 56)) (.agg #[.int .i64 1, .int .i64 sp, .string nm, .slice ab ats.length ac, .string tx, .slice ka ks.length kc]) (.mk 1 sp nm ats tx ks)) := ElV.kp ⟨_, _, _, rfl, hq, hk⟩ HK1.out
    clear bA hb hq hk
    go_enter Tryz.func23, Tryz.ntmps23
    go_upto_region 1 with fail
    generalize w.alloc (.cells #[.pointer (some ⟨b, 0, none⟩), .int .i64 about, .int .i64 1, .int .i64 sp, .string nm, .slice ab ats.length ac, .string tx, .slice ka ks.length kc] 56) = w1 at *
    have hB1 := Nat.le_trans hB HK1.out.size
    obtain ⟨x0, x1, x2, x3, x4, x5, x6, x7⟩ := box8 HX.out
    have HT := writeTag_of sp nm ats tx ks ih B b acc about _ _ _ _ _ _ w1 HB1.out hB1 HV.out hoks Hs.out hl'
    clear HV HX HB1 hl' hoks ih
    go_wp2_with fail
    refine HT.mono ?_
    rintro e w2 ⟨rfl, hb2, hk2⟩
    have HR : Hid (Bl B b (acc ++ tagL sp about nm ats ks) w2 ∧ Kp B b w w2) := ⟨hb2, HK1.out.trans hk2⟩
    clear HT hb2 hk2 x0 x1 x2 x3 x4 x5 x6 x7
    go_wp2_with fail
    exact bodyPost_end (results_none rfl _ _ _) rfl ⟨rfl, HR.out.1, HR.out.2⟩
  by_cases h2 : kd = 2
  · subst h2
    have htx : tx.size ≤ 16777216 := by unfold ElSmall at hs; exact hs.2.1
    have Hcat : Hid (catB [escS tx false] = bL (saidE (.mk 2 sp nm ats tx ks) about)) := by
      show _ = _
      rw [saidE, if_pos rfl]
      simp [catB, bL]
    have HE := fun W => implEscape tx false W (by omega)
    rw [← Hcat.out] at hl ⊢
    clear Hcat hok hsf hs hoks ih h1
    generalize escS tx false = ev at *
    obtain ⟨av, ka, kc, ev, hq, hk⟩ := hv
    cases ev
    obtain ⟨ab, ac, rfl⟩ := hq.slice
    have bA := (Below.refl w.heap.size w).alloc (Nat.le_refl _) (.cells #[.pointer (some ⟨b, 0, none⟩), .int .i64 about, .int .i64 2, .int .i64 sp, .string nm, .slice ab ats.length ac, .string tx, .slice ka ks.length kc] 56)
    have HB1 : Hid (Bl B b acc (w.alloc (.cells #[.pointer (some ⟨b, 0, none⟩), .int .i64 about, .int .i64 2, .int .i64 sp, .string nm, .slice ab ats.length ac, .string tx, .slice ka ks.length kc] 56))) := hb.below bA
    have HK1 : Hid (Kp B b w (w.alloc (.cells #[.pointer (some ⟨b, 0, none⟩), .int .i64 about, .int .i64 2, .int .i64 sp, .string nm, .slice ab ats.length ac, .string tx, .slice ka ks.length kc] 56))) := Kp.of bA hB
    have hxb : w.heap.size ≠ b := by
      obtain ⟨_, c, hc⟩ := hb.block
      have := (Array.getElem?_eq_some_iff.1 hc).1
      omega
    have HX : Hid ((w.alloc (.cells #[.pointer (some ⟨b, 0, none⟩), .int .i64 about, .int .i64 2, .int .i64 sp, .string nm, .slice ab ats.length ac, .string tx, .slice ka ks.length kc] 56)).heap[w.heap.size]? = some (.cells #[.pointer (some ⟨b, 0, none⟩), .int .i64 about, .int .i64 2, .int .i64 sp, .string nm, .slice ab ats.length ac, .string tx, .slice ka ks.length kc] 56 (0, 0))) := news_obj w _ _
    have HV : Hid (ElV (QB B) (· < B) (w.alloc (.cells #[.pointer (some ⟨b, 0, none⟩), .int .i64 about, .int .i64 2, .int .i64 sp, .string nm, .slice ab ats.length ac, .string tx, .slice ka ks.length kc] 56)) (.agg #[.int .i64 2, .int .i64 sp, .string nm, .slice ab ats.length ac, .string tx, .slice ka ks.length kc]) (.mk 2 sp nm ats tx ks)) := ElV.kp ⟨_, _, _, rfl, hq, hk⟩ HK1.out
    clear bA hb hq hk
    go_enter Tryz.func23, Tryz.ntmps23
    go_upto_region 1 with fail
    generalize w.alloc (.cells #[.pointer (some ⟨b, 0, none⟩), .int .i64 about, .int .i64 2, .int .i64 sp, .string nm, .slice ab ats.length ac, .string tx, .slice ka ks.length kc] 56) = w1 at *
    have hB1 := Nat.le_trans hB HK1.out.size
    obtain ⟨x0, x1, x2, x3, x4, x5, x6, x7⟩ := box8 HX.out
    have bb : (1 == 1) = true := rfl
    clear bb
    go_upto_region 5 with fail
    go_region_held3 (fun w' => w'.cell? ⟨w.heap.size, 0, none⟩ = some (.pointer (some ⟨b, 0, none⟩)) ∧ w'.cell? ⟨w.heap.size, 1, none⟩ = some (.int .i64 about) ∧ w'.cell? ⟨w.heap.size, 6, none⟩ = some (.string tx))
      (first | exact ⟨x0, x1, x6⟩ | exact ⟨q0, q1, q6⟩ | exact ⟨alC q0, alC q1, alC q6⟩ | exact ⟨X6.1, X6.2.1, X6.2.2.2.2.2.2.1⟩)
      (first
        | (go_at_call 47; refine (HE _).mono ?_; rintro e w5 ⟨rfl, hbE⟩; have bE := ((Below.refl w1.heap.size w1).drew).trans hbE; have q0 := keep_cell bE x0; have q1 := keep_cell bE x1; have q6 := keep_cell bE x6; have K5 : Kp B b w1 w5 := Kp.of bE hB1; have K5a := K5.news hB1 (.cells #[.string ev] 9); have B5 := (HB1.out.below bE).below ((Below.refl w5.heap.size w5).alloc (Nat.le_refl _) (.cells #[.string ev] 9)))
        | (go_at_call 22; refine (implPut B b w5.heap.size 1 acc [ev] about _ B5 (Nat.le_trans hB1 K5a.size) (news_obj w5 _ _) (by omega) (by simp)).mono ?_; rintro e w6 ⟨rfl, hb6, hk6⟩; have K6 := K5a.trans hk6; have X6 := box8 (K6.obj HX.out (by decide) hxb)))
    have HR : Hid (Bl B b (acc ++ catB [ev]) w6 ∧ Kp B b w w6) := ⟨hb6, HK1.out.trans K6⟩
    clear hb6 hk6 K6 X6 K5 K5a B5 bE hbE q0 q1 q6 x0 x1 x2 x3 x4 x5 x6 x7 HV HX HB1 HE
    go_wp2_with fail
    exact bodyPost_end (results_none rfl _ _ _) rfl ⟨rfl, HR.out.1, HR.out.2⟩
  by_cases h3 : kd = 3
  · subst h3
    have Hcat : Hid (catB [⟨#[60, 33, 45, 45]⟩, tx, ⟨#[45, 45, 62]⟩] = bL (saidE (.mk 3 sp nm ats tx ks) about)) := by
      show _ = _
      rw [saidE, if_neg (by decide), if_pos rfl]
      simp [catB, bL]
    rw [← Hcat.out] at hl ⊢
    clear Hcat hok hsf hs hoks ih h1 h2
    obtain ⟨av, ka, kc, ev, hq, hk⟩ := hv
    cases ev
    obtain ⟨ab, ac, rfl⟩ := hq.slice
    have bA := (Below.refl w.heap.size w).alloc (Nat.le_refl _) (.cells #[.pointer (some ⟨b, 0, none⟩), .int .i64 about, .int .i64 3, .int .i64 sp, .string nm, .slice ab ats.length ac, .string tx, .slice ka ks.length kc] 56)
    have HB1 : Hid (Bl B b acc (w.alloc (.cells #[.pointer (some ⟨b, 0, none⟩), .int .i64 about, .int .i64 3, .int .i64 sp, .string nm, .slice ab ats.length ac, .string tx, .slice ka ks.length kc] 56))) := hb.below bA
    have HK1 : Hid (Kp B b w (w.alloc (.cells #[.pointer (some ⟨b, 0, none⟩), .int .i64 about, .int .i64 3, .int .i64 sp, .string nm, .slice ab ats.length ac, .string tx, .slice ka ks.length kc] 56))) := Kp.of bA hB
    have hxb : w.heap.size ≠ b := by
      obtain ⟨_, c, hc⟩ := hb.block
      have := (Array.getElem?_eq_some_iff.1 hc).1
      omega
    have HX : Hid ((w.alloc (.cells #[.pointer (some ⟨b, 0, none⟩), .int .i64 about, .int .i64 3, .int .i64 sp, .string nm, .slice ab ats.length ac, .string tx, .slice ka ks.length kc] 56)).heap[w.heap.size]? = some (.cells #[.pointer (some ⟨b, 0, none⟩), .int .i64 about, .int .i64 3, .int .i64 sp, .string nm, .slice ab ats.length ac, .string tx, .slice ka ks.length kc] 56 (0, 0))) := news_obj w _ _
    have HV : Hid (ElV (QB B) (· < B) (w.alloc (.cells #[.pointer (some ⟨b, 0, none⟩), .int .i64 about, .int .i64 3, .int .i64 sp, .string nm, .slice ab ats.length ac, .string tx, .slice ka ks.length kc] 56)) (.agg #[.int .i64 3, .int .i64 sp, .string nm, .slice ab ats.length ac, .string tx, .slice ka ks.length kc]) (.mk 3 sp nm ats tx ks)) := ElV.kp ⟨_, _, _, rfl, hq, hk⟩ HK1.out
    clear bA hb hq hk
    go_enter Tryz.func23, Tryz.ntmps23
    go_upto_region 1 with fail
    generalize w.alloc (.cells #[.pointer (some ⟨b, 0, none⟩), .int .i64 about, .int .i64 3, .int .i64 sp, .string nm, .slice ab ats.length ac, .string tx, .slice ka ks.length kc] 56) = w1 at *
    have hB1 := Nat.le_trans hB HK1.out.size
    obtain ⟨x0, x1, x2, x3, x4, x5, x6, x7⟩ := box8 HX.out
    have bN := (Below.refl w1.heap.size w1).alloc (Nat.le_refl _) (.cells #[.string ⟨#[60, 33, 45, 45]⟩, .string tx, .string ⟨#[45, 45, 62]⟩] 9)
    have HP := implPut B b w1.heap.size 3 acc [⟨#[60, 33, 45, 45]⟩, tx, ⟨#[45, 45, 62]⟩] about _ (HB1.out.below bN) (Nat.le_trans hB1 bN.size) (news_obj w1 _ _) (by omega) (by simp)
    have HKn := (Kp.refl B b w1).news hB1 (.cells #[.string ⟨#[60, 33, 45, 45]⟩, .string tx, .string ⟨#[45, 45, 62]⟩] 9)
    clear bN HV HX HB1
    go_wp2_with fail
    refine HP.mono ?_
    rintro e w2 ⟨rfl, hb2, hk2⟩
    have HR : Hid (Bl B b (acc ++ catB [⟨#[60, 33, 45, 45]⟩, tx, ⟨#[45, 45, 62]⟩]) w2 ∧ Kp B b w w2) := ⟨hb2, HK1.out.trans (HKn.trans hk2)⟩
    clear HP hb2 hk2 HKn x0 x1 x2 x3 x4 x5 x6 x7
    go_wp2_with fail
    exact bodyPost_end (results_none rfl _ _ _) rfl ⟨rfl, HR.out.1, HR.out.2⟩
  · exfalso
    unfold okSelf at hsf
    rw [if_neg h1, if_neg h2, if_neg h3] at hsf
    cases hsf

mutual
theorem implSay : ∀ e : ElB, SayC e
  | .mk kd sp nm ats tx ks => write_of kd sp nm ats tx ks (implSay_all ks)
theorem implSay_all : ∀ es : List ElB, ∀ e ∈ es, SayC e
  | [], _, h => nomatch h
  | x :: xs, e, h => (List.mem_cons.1 h).elim (fun he => he ▸ implSay x) (fun hm => implSay_all xs e hm)
end

end Go.Proofs.YtkngdlbedelgnaaGreatDoor.Sg
