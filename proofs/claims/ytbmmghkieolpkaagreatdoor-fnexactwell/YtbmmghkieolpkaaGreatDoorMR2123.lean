/- Contract of the laws' look at marks of elements. The law of Read, out of the program's contract. Contract of the program's Read. Written by mk_rqread.py. Contracts of the model's Well and Again. Contract of the program's Well. The law of Well, out of the program's contract. -/
import Derived.Test.YtbmmghkieolpkaaGreatDoorElMk
import Derived.Test.YtbmmghkieolpkaaGreatDoorRdRead
import Derived.Deep.RegionHeld3
import Derived.Test.YtbmmghkieolpkaaGreatDoorMR2116
import Derived.Test.YtbmmghkieolpkaaGreatDoorMR2122
import Derived.Test.YtbmmghkieolpkaaGreatDoorEmDoc
import Derived.Deep.Cut
import Derived.Deep.CutRange
import Derived.Deep.AppendLies
namespace Go.Proofs.YtbmmghkieolpkaaGreatDoor.Sg
open Go.ChangeShapes Go.WideShapes Go.ChangeAt Go.RowKit

set_option maxRecDepth 20000 in
set_option maxHeartbeats 8000000 in
theorem heldElS_step (m : Nat) (IH : ∀ (l : List ElB) (k : Nat) (a : Option Addr) (N cap B : Nat) (w : World), cntEs l < m → KidsIn (QP (B ≤ ·)) (B ≤ ·) w a (mkEs l k) → l.length = N → k + cntEs l ≤ 549755813888 → Calls Tryz.prog 15 #[.slice a N cap, .int .i64 (k : Int)] w fun e w' => e = .returned (.int .i64 ((k + cntEs l : Nat) : Int)) ∧ Below w.heap.size w w')
    (l : List ElB) (k : Nat) (a : Option Addr) (N cap B : Nat) (w : World) (hm : cntEs l < m + 1) (hkid : KidsIn (QP (B ≤ ·)) (B ≤ ·) w a (mkEs l k)) (hN : l.length = N) (hk : k + cntEs l ≤ 549755813888) :
    Calls Tryz.prog 15 #[.slice a N cap, .int .i64 (k : Int)] w fun e w' => e = .returned (.int .i64 ((k + cntEs l : Nat) : Int)) ∧ Below w.heap.size w w' := by
  have hlen := cntEs_len l
  have HK0 : Hid (KidsIn (QP (B ≤ ·)) (B ≤ ·) w a (mkEs l k)) := hkid
  have HN : Hid (l.length = N) := hN
  have HI : Hid (∀ (l : List ElB) (k : Nat) (a : Option Addr) (N cap B : Nat) (w : World), cntEs l < m → KidsIn (QP (B ≤ ·)) (B ≤ ·) w a (mkEs l k) → l.length = N → k + cntEs l ≤ 549755813888 → Calls Tryz.prog 15 #[.slice a N cap, .int .i64 (k : Int)] w fun e w' => e = .returned (.int .i64 ((k + cntEs l : Nat) : Int)) ∧ Below w.heap.size w w') := IH
  have hNb : N ≤ 549755813888 := by omega
  clear hkid hN IH
  go_enter Tryz.func15, Tryz.ntmps15
  go_wp2_with fail
  go_loopw [1, 5] (fun kv iv wr => ∃ i : Nat, i ≤ N ∧ iv = .int .i64 (i : Int) ∧ kv = .int .i64 ((k + cntEs (l.take i) : Nat) : Int) ∧ Hid (Below w.heap.size w wr)) (fun _ iv _ => N - (intOf iv).toNat)
  case atStart => exact ⟨0, Nat.zero_le _, rfl, rfl, Below.refl _ _⟩
  case round =>
    obtain ⟨i, hi, rfl, rfl, HB⟩ := hrel
    by_cases hlt : i < N
    · have hil : i < l.length := by rw [HN.out]; exact hlt
      have hil2 : i < (mkEs l k).length := by rw [mkEs_length]; exact hil
      obtain ⟨hc1, hc2⟩ := cntEs_take l i hil
      rcases HK0.out.keep (QP.lies _) HB.out with h | ⟨b, off, rfl, _, hc⟩
      · rw [mkEs_length] at h
        omega
      have hE := hc.get i hil2
      rw [mkEs_get l k i hil hil2] at hE
      obtain ⟨K, HK⟩ : ∃ K, Hid (k + cntEs (l.take i) = K) := ⟨_, rfl⟩
      rw [HK.out] at hE ⊢
      generalize l[i]'hil = el at hE hc1 hc2
      obtain ⟨kd, sp, nm, ats, tx, ks⟩ := el
      rw [cntE_ats] at hc1 hc2
      rw [mkE] at hE
      unfold ElIn at hE
      obtain ⟨c0, c1, c2, ⟨av, c3, hq⟩, c4, ka, kc, c5, hkk⟩ := hE
      obtain ⟨sa, sc, rfl, _, hA, _⟩ := hq
      rw [markL_length] at c3
      rw [mkEs_length] at c5
      obtain ⟨M, HMM⟩ : ∃ M, Hid (ats.length = M) := ⟨_, rfl⟩
      obtain ⟨Q, HQQ⟩ : ∃ Q, Hid (ks.length = Q) := ⟨_, rfl⟩
      have eK := HK.out
      obtain ⟨K1, HK1⟩ : ∃ K1, Hid (K + 3 + 2 * ats.length = K1) := ⟨_, rfl⟩
      have eK1 := HK1.out
      have hK1b : K1 + 1 + cntEs ks ≤ 549755813888 := by omega
      have hMb : M ≤ 549755813888 := by have := HMM.out; omega
      have hQb : Q ≤ 549755813888 := by have := HQQ.out; have := cntEs_len ks; omega
      have hKb : K ≤ 549755813888 := by omega
      have e4 : K + 4 + 2 * ats.length = K1 + 1 := by omega
      rw [e4] at hkk
      rw [eK1] at c4
      have hcm : cntEs ks < m := by omega
      have HEnd : Hid (((K1 + 1 + cntEs ks : Nat) : Int) = ((k + cntEs (l.take (i + 1)) : Nat) : Int)) := by
        show _ = _
        have : K1 + 1 + cntEs ks = k + cntEs (l.take (i + 1)) := by omega
        rw [this]
      rw [HMM.out] at c3 hA
      rw [HQQ.out] at c5
      have Hk1 : Hid (∀ W : World, Calls Tryz.prog 36 #[.int .i64 ((K : Int) + 1 + 1)] W fun e w' => e = .returned (.string (markB (K + 2))) ∧ Below W.heap.size W w') := fun W => markText_any (K + 2) W (by omega)
      have Hk3 : Hid (∀ W : World, Calls Tryz.prog 36 #[.int .i64 (K1 : Int)] W fun e w' => e = .returned (.string (markB K1)) ∧ Below W.heap.size W w') := fun W => markText_any K1 W (by omega)
      have Hat2 : Hid (∀ W : World, Below wr.heap.size wr W → Calls Tryz.prog 26 #[.slice sa M sc, .int .i64 ((K : Int) + 1 + 1 + 1)] W fun e w' => e = .returned (.int .i64 (K1 : Int)) ∧ Below W.heap.size W w') := fun W hW => by
        have h := heldAttrS_any M (K + 3) sa sc W (hA.below hW) (by omega) (by omega)
        rw [← HMM.out, eK1, HMM.out] at h
        exact h
      have HKi : Hid (∀ W : World, Below wr.heap.size wr W → Calls Tryz.prog 15 #[.slice ka Q kc, .int .i64 ((K1 : Int) + 1)] W fun e w' => e = .returned (.int .i64 ((K1 + 1 + cntEs ks : Nat) : Int)) ∧ Below W.heap.size W w') := fun W hW => HI.out ks (K1 + 1) ka Q kc B W hcm (KidsIn.keep (QP.lies _) hW hkk) HQQ.out (by omega)
      clear hc hc1 hc2 hA hkk eK eK1 e4 hcm hil2 HK HK1 HMM HQQ
      generalize cntEs ks = cn at *
      clear hil
      generalize markB (K + 2) = x at *
      generalize markB K1 = y at *
      have gx : (x.toList == x.toList) = true := by simp
      have gy : (y.toList == y.toList) = true := by simp
      have gK : ((K : Int) != (K : Int)) = false := by simp
      have gK2 : ((K : Int) + 1 != (K : Int) + 1) = false := by simp
      have k0 : (0 : Int) ≤ (i : Int) := by omega
      have k1 : (i : Int) < (N : Int) := by omega
      go_upto_region 10 with fail
      go_cut [37] from 6 to 67 (fun r wx => r = .bool false ∧ Below wr.heap.size wr wx)
      case first =>
        go_region_held3 (fun w' => w'.cell? ⟨b, off + i * 6 + 2, none⟩ = some (.string x)) (first | go_keep | exact keep_cell hb' (by assumption)) (first | (go_at_call 36; refine (Hk1.out _).mono ?_; rintro e w' ⟨rfl, hb'⟩))
        go_wp2_with fail
        go_meet
        case rel => exact ⟨rfl, ((Below.refl _ _).drew).trans hb'⟩
      case rest =>
        obtain ⟨rfl, hbx⟩ := hcut
        have d3 := keep_cell hbx c3
        have d4 := keep_cell hbx c4
        have d5 := keep_cell hbx c5
        have Hat3 := Hat2.out _ hbx
        have HX : Hid (Below wr.heap.size wr wc) := hbx
        clear c0 c1 c2 c3 c4 c5 Hat2 Hk1 hbx
        go_wp2_with fail
        refine Hat3.mono ?_
        rintro e w4 ⟨rfl, b4⟩
        have e4 := keep_cell b4 d4
        have e5 := keep_cell b4 d5
        have HX4 : Hid (Below wr.heap.size wr w4) := HX.out.trans (b4.mono HX.out.size)
        have gz : ¬ (K1 : Int) < 0 := by omega
        have gz' : decide ((K1 : Int) < 0) = false := decide_eq_false gz
        clear d3 d4 d5 Hat3 HX b4
        go_upto_region 16 with fail
        go_cut [56] from 6 to 67 (fun r wx => r = .bool false ∧ Below w4.heap.size w4 wx)
        case first =>
          go_region_held3 (fun w' => w'.cell? ⟨b, off + i * 6 + 4, none⟩ = some (.string y)) (first | go_keep | exact keep_cell hb' (by assumption)) (first | (go_at_call 36; refine (Hk3.out _).mono ?_; rintro e w' ⟨rfl, hb'⟩))
          go_wp2_with fail
          go_meet
          case rel => exact ⟨rfl, ((Below.refl _ _).drew).trans hb'⟩
        case rest =>
          obtain ⟨rfl, hby⟩ := hcut
          have g5 := keep_cell hby e5
          have HX9 : Hid (Below wr.heap.size wr wc) := HX4.out.trans (hby.mono HX4.out.size)
          have HI9 := HKi.out _ HX9.out
          have gw : ¬ ((K1 + 1 + cn : Nat) : Int) < 0 := by omega
          have gw' : decide (((K1 + 1 + cn : Nat) : Int) < 0) = false := decide_eq_false gw
          clear e4 e5 HX4 hby HKi Hk3
          go_wp2_with fail
          refine HI9.mono ?_
          rintro e w9 ⟨rfl, b9⟩
          have HBn : Hid (Below w.heap.size w w9) := HB.out.trans ((HX9.out.trans (b9.mono HX9.out.size)).mono HB.out.size)
          clear HI9 b9 HX9 g5
          rw [HEnd.out] at gw gw' ⊢
          go_wp2_with fail
          go_roundw
          case rel => exact ⟨i + 1, by omega, by go_num, rfl, HBn⟩
          case measure => simp [intOf]; omega
    · have hin : i = N := by omega
      have hfull : l.take i = l := List.take_of_length_le (by rw [HN.out]; omega)
      rw [hfull]
      have g2 : decide ((i : Int) < (N : Int)) = false := decide_eq_false (by omega)
      go_wp2_with fail
      go_ret
      exact ⟨rfl, HB.out⟩
theorem heldElS_all : ∀ (m : Nat) (l : List ElB) (k : Nat) (a : Option Addr) (N cap B : Nat) (w : World), cntEs l < m → KidsIn (QP (B ≤ ·)) (B ≤ ·) w a (mkEs l k) → l.length = N → k + cntEs l ≤ 549755813888 → Calls Tryz.prog 15 #[.slice a N cap, .int .i64 (k : Int)] w fun e w' => e = .returned (.int .i64 ((k + cntEs l : Nat) : Int)) ∧ Below w.heap.size w w'
  | 0, _, _, _, _, _, _, _, h, _, _, _ => absurd h (Nat.not_lt_zero _)
  | m + 1, l, k, a, N, cap, B, w, h, hk, hN, hb => heldElS_step m (heldElS_all m) l k a N cap B w h hk hN hb
theorem heldElS_any (n : Nat) (l : List ElB) (v : Value) (k B : Nat) (F : Foot) (w : World) (h : OwnS w B n (mkEs l k) v F) (hk : k + cntEs l ≤ 549755813888) :
    Calls Tryz.prog 15 #[v, .int .i64 (k : Int)] w fun e w' => e = .returned (.int .i64 ((k + cntEs l : Nat) : Int)) ∧ Below w.heap.size w w' := by
  obtain ⟨a, c, rfl, hkk⟩ := OwnS.kids n h
  exact heldElS_all (cntEs l + 1) l k a _ c B w (Nat.lt_succ_self _) hkk (by rw [mkEs_length]) hk

end Go.Proofs.YtbmmghkieolpkaaGreatDoor.Sg

namespace Go.Proofs.YtbmmghkieolpkaaGreatDoor.Sg
open Go.ChangeShapes Go.WideShapes Go.ChangeAt Go.RowKit

mutual
theorem cntE_le : ∀ e : ElB, cntE e ≤ 4 + 4 * elW e
  | .mk kd sp nm ats tx ks => by
    have h := cntEs_le ks
    have h2 : ats.length ≤ attrsW ats := by unfold attrsW; omega
    rw [cntE, elW]
    omega
theorem cntEs_le : ∀ es : List ElB, cntEs es ≤ 4 * (es.length + elsW es)
  | [] => by rw [cntEs]; omega
  | e :: es => by
    have h1 := cntE_le e
    have h2 := cntEs_le es
    rw [cntEs, elsW, List.length_cons]
    omega
end
/-- What is read, nothing where all is refused. -/
def readL (s : ByteArray) : List ElB := (readR s).getD []
theorem readL_size (s : ByteArray) : (readL s).length + elsW (readL s) ≤ 1000000 := by
  unfold readL
  cases h : readR s with
  | none => simp [elsW]
  | some l => exact (readR_size h).1
theorem specReadL (s : ByteArray) (w : World) (hs : s.size ≤ 1073741824) :
    Calls Tryz.prog 11 #[.string s] w fun r w' => Below w.heap.size w w' ∧ ∃ a c, r = .returned (.tuple #[.slice a (readL s).length c, .bool (readR s).isSome]) ∧ KidsIn (QP (w.heap.size ≤ ·)) (w.heap.size ≤ ·) w' a (readL s) := by
  refine (specRead s w hs).mono ?_
  rintro r w' ⟨b1, ⟨l, g, c, hR, rfl, hk⟩ | ⟨hR, g, rfl⟩⟩
  · unfold readL
    rw [hR]
    exact ⟨b1, _, _, rfl, hk⟩
  · unfold readL
    rw [hR]
    exact ⟨b1, _, _, rfl, .inl rfl⟩

/-- What the program's Read is to leave. -/
def ReadOwn (s : ByteArray) (W : World) (r : Ending) (w' : World) : Prop :=
  Below W.heap.size W w' ∧ ∃ v n F, r = .returned (.tuple #[v, .bool (readR s).isSome]) ∧ OwnS w' W.heap.size n (readL s) v F ∧ ∀ b, F b → W.heap.size ≤ b

set_option maxRecDepth 20000 in
set_option maxHeartbeats 4000000 in
theorem lawRead (T : World → Prop) (keep : ∀ W W', T W → Below W.heap.size W W' → T W') (hI : ∀ (s : ByteArray) (W : World), s.size ≤ 1048576 → T W → Calls Tryz.prog 12 #[.string s] W fun r w' => ReadOwn s W r w') (w : World) (s : ByteArray) (hT : T w) :
    Calls Tryz.prog 4 #[.string s] w fun e w' => e = .returned (.bool true) ∧ Below w.heap.size w w' := by
  have HT : Hid (T w) := hT
  have Hk : Hid (∀ W W', T W → Below W.heap.size W W' → T W') := keep
  by_cases hbs : (1048576 : Int) < (s.size : Int)
  · clear hI
    go_enter Tryz.func4, Tryz.ntmps4
    go_wp2_with fail
    go_ret
    exact ⟨rfl, Below.refl _ _⟩
  have HI : Hid (∀ (W : World), T W → Calls Tryz.prog 12 #[.string s] W fun r w' => ReadOwn s W r w') := fun W h => hI s W (by omega) h
  have HC := specReadL s w (by omega)
  have hsz := readL_size s
  clear hT keep hI
  have Hro : Hid (∀ W r w', ReadOwn s W r w' ↔ (Below W.heap.size W w' ∧ ∃ v n F, r = .returned (.tuple #[v, .bool (readR s).isSome]) ∧ OwnS w' W.heap.size n (readL s) v F ∧ ∀ b, F b → W.heap.size ≤ b)) := fun _ _ _ => Iff.rfl
  have hcn := cntEs_le (readL s)
  have Hli : Hid (ElsLight (readL s)) := els_light (readL s) (by omega)
  obtain ⟨L, HL⟩ : ∃ L, Hid (readL s = L) := ⟨_, rfl⟩
  rw [HL.out] at HC Hro hsz hcn Hli
  obtain ⟨ok, Hok⟩ : ∃ ok, Hid ((readR s).isSome = ok) := ⟨_, rfl⟩
  rw [Hok.out] at HC Hro
  obtain ⟨M, HMl⟩ : ∃ M, Hid (L.length = M) := ⟨_, rfl⟩
  have hMl := HMl.out
  have hM : M ≤ 1000000 := by omega
  obtain ⟨cn, Hcn⟩ : ∃ cn, Hid (cntEs L = cn) := ⟨_, rfl⟩
  have hcnb : cn ≤ 4000000 := by have := Hcn.out; omega
  clear hMl hcn hsz
  have hok : (ok != ok) = false := by simp
  go_enter Tryz.func4, Tryz.ntmps4
  go_wp2_with fail
  refine HC.mono ?_
  rintro r w1 ⟨b1, a, c, rfl, hkid⟩
  have HK1 : Hid (KidsIn (QP (w.heap.size ≤ ·)) (w.heap.size ≤ ·) w1 a L) := hkid
  have HB1 : Hid (Below w.heap.size w w1) := b1
  have HT1 := Hk.out _ _ HT.out b1
  rw [HMl.out]
  clear HC hkid b1
  go_wp2_with fail
  refine (HI.out w1 HT1).mono ?_
  intro r w2 hro
  obtain ⟨b2, v, n, F, rfl, hown, hF⟩ := (Hro.out _ _ _).1 hro
  have HO2 : Hid (OwnS w2 w1.heap.size n L v F) := hown
  have HFo : Hid (∀ b, F b → w1.heap.size ≤ b) := hF
  have HB2 : Hid (Below w1.heap.size w1 w2) := b2
  obtain ⟨ga, gc, ev, hgk⟩ := OwnS.kids n hown
  rw [HMl.out] at ev
  have HE2 := eqElS_any L w1.heap.size w.heap.size ga a M gc c w2 hgk.qa (KidsIn.keep (QP.lies _) b2 HK1.out).qa HMl.out (by omega) Hli.out
  clear hro hown hF b2 hgk HT1
  subst ev
  go_wp2_with fail
  refine HE2.mono ?_
  rintro r w3 ⟨rfl, b3⟩
  have HO3 : Hid (OwnS w3 w1.heap.size n L (.slice ga M gc) F) := OwnS.stay n HO2.out (fun b _ hb2 => b3.block b hb2)
  have HB3 : Hid (Below w1.heap.size w1 w3) := HB2.out.trans (b3.mono HB2.out.size)
  clear HE2 b3 HO2 HB2
  have HMk := markElS_any n L (.slice ga M gc) 1 w1.heap.size F w3 HO3.out (by rw [Hcn.out]; omega)
  rw [Hcn.out] at HMk
  go_wp2_with fail
  refine HMk.mono ?_
  rintro r w4 ⟨rfl, hown4, hkb4⟩
  have HO4 : Hid (OwnS w4 w1.heap.size n (mkEs L 1) (.slice ga M gc) F) := hown4
  have HB4 : Hid (Below w1.heap.size w1 w4) := HB3.out.trans (hkb4.below HB3.out.size HFo.out)
  clear HMk hown4 hkb4 HO3 HB3
  have HH4 := heldElS_any n L (.slice ga M gc) 1 w1.heap.size F w4 HO4.out (by rw [Hcn.out]; omega)
  rw [Hcn.out] at HH4
  have gq : ¬ ((1 + cn : Nat) : Int) < 0 := by omega
  have gq' : decide (((1 + cn : Nat) : Int) < 0) = false := decide_eq_false gq
  have gqq : (((1 + cn : Nat) : Int) != ((1 + cn : Nat) : Int)) = false := by simp
  obtain ⟨q, Hq⟩ : ∃ q, Hid (((1 + cn : Nat) : Int) = q) := ⟨_, rfl⟩
  rw [Hq.out] at HH4 gq gq' gqq ⊢
  go_wp2_with fail
  refine HH4.mono ?_
  rintro r w5 ⟨rfl, b5⟩
  have HO5 : Hid (OwnS w5 w1.heap.size n (mkEs L 1) (.slice ga M gc) F) := OwnS.stay n HO4.out (fun b _ hb2 => b5.block b hb2)
  have HB5 : Hid (Below w1.heap.size w1 w5) := HB4.out.trans (b5.mono HB4.out.size)
  clear HH4 b5 HO4 HB4
  have HT5 := Hk.out _ _ HT.out (HB1.out.trans (HB5.out.mono HB1.out.size))
  go_wp2_with fail
  refine (HI.out w5 HT5).mono ?_
  intro r w6 hro
  obtain ⟨b6, v6, n6, F6, rfl, hown6, hF6⟩ := (Hro.out _ _ _).1 hro
  obtain ⟨ha, hc, ev, hhk⟩ := OwnS.kids n6 hown6
  rw [HMl.out] at ev
  have HB6 : Hid (Below w1.heap.size w1 w6) := HB5.out.trans (b6.mono HB5.out.size)
  have HO6 : Hid (OwnS w6 w1.heap.size n (mkEs L 1) (.slice ga M gc) F) := OwnS.stay n HO5.out (fun b _ hb2 => b6.block b hb2)
  have HE6 := eqElS_any L w5.heap.size w.heap.size ha a M hc c w6 hhk.qa (KidsIn.keep (QP.lies _) HB6.out HK1.out).qa HMl.out (by omega) Hli.out
  clear hro hown6 hF6 b6 hhk HT5 HO5 HB5
  subst ev
  go_wp2_with fail
  refine HE6.mono ?_
  rintro r w7 ⟨rfl, b7⟩
  have HO7 : Hid (OwnS w7 w1.heap.size n (mkEs L 1) (.slice ga M gc) F) := OwnS.stay n HO6.out (fun b _ hb2 => b7.block b hb2)
  have HB7 : Hid (Below w1.heap.size w1 w7) := HB6.out.trans (b7.mono HB6.out.size)
  clear HE6 b7 HO6 HB6
  have HH7 := heldElS_any n L (.slice ga M gc) 1 w1.heap.size F w7 HO7.out (by rw [Hcn.out]; omega)
  rw [Hcn.out, Hq.out] at HH7
  go_wp2_with fail
  refine HH7.mono ?_
  rintro r w8 ⟨rfl, b8⟩
  have HB8 : Hid (Below w.heap.size w w8) := HB1.out.trans ((HB7.out.trans (b8.mono HB7.out.size)).mono HB1.out.size)
  clear HH7 b8 HO7 HB7 HK1
  go_wp2_with fail
  go_ret
  exact ⟨rfl, HB8.out⟩

end Go.Proofs.YtbmmghkieolpkaaGreatDoor.Sg

namespace Go.Proofs.YtbmmghkieolpkaaGreatDoor.Sg
open Go.ChangeShapes Go.WideShapes Go.ChangeAt Go.RowKit

/-- The results' cells of Read. -/
structure FaceR (w W : World) (u : Value) : Prop where
  b : Below w.heap.size w W
  c : W.cell? ⟨w.heap.size, 0, none⟩ = some u
  z : W.frozen? ⟨w.heap.size, 0, none⟩ = false
  c1 : W.cell? ⟨w.heap.size + 1, 0, none⟩ = some (.bool false)
  z1 : W.frozen? ⟨w.heap.size + 1, 0, none⟩ = false
theorem FaceR.below {w W W' : World} {u : Value} (h : FaceR w W u) (hb : Below W.heap.size W W') : FaceR w W' u :=
  ⟨h.b.trans (hb.mono h.b.size), keep_cell hb h.c, (hb.frozen (block_lt_of_cell h.c)).trans h.z, keep_cell hb h.c1, (hb.frozen (block_lt_of_cell h.c1)).trans h.z1⟩
theorem FaceR.done {w W : World} {u : Value} (h : FaceR w W u) : FaceR w ((W.setCell ⟨w.heap.size, 0, none⟩ (.slice none 0 0)).setCell ⟨w.heap.size + 1, 0, none⟩ (.bool false)) (.slice none 0 0) := by
  have hne : w.heap.size + 1 ≠ w.heap.size := by omega
  refine ⟨(h.b.setCell (Nat.le_refl _) _).setCell (Nat.le_succ _) _, ?_, by simpa using h.z, ?_, by simpa using h.z1⟩
  · exact (World.cell?_setCell_other _ _ _ _ (fun e => hne (congrArg Addr.block e))).trans (World.cell?_setCell_same _ _ _ h.c)
  · exact World.cell?_setCell_same _ _ _ ((World.cell?_setCell_other _ _ _ _ (fun e => hne (congrArg Addr.block e).symm)).trans h.c1)
theorem ReadW.face {s : ByteArray} {n : Nat} {w W : World} {j : Nat} {u : Value} {l : List ElB} {v : Value} {C : List Value} {Fs : Nat → Foot} (h : ReadW s n w W j u l v C Fs) : FaceR w W u := ⟨h.b, h.c, h.z, h.c1, h.z1⟩
theorem ReadW.faceFr {s : ByteArray} {n : Nat} {w W W' : World} {j : Nat} {u : Value} {l : List ElB} {v : Value} {C : List Value} {Fs : Nat → Foot} (h : ReadW s n w W j u l v C Fs) (h2 : Fr (w.heap.size + 2) W W') : FaceR w W' u := by
  have e0 := h2.block w.heap.size (block_lt_of_cell h.c) (by omega)
  have e1 := h2.block (w.heap.size + 1) (block_lt_of_cell h.c1) (by omega)
  exact ⟨h.b.trans (h2.below (by omega) h.b.size), (cell_agree e0).trans h.c, by rw [← h.z]; simp [World.frozen?, e0], (cell_agree e1).trans h.c1, by rw [← h.z1]; simp [World.frozen?, e1]⟩
theorem read_no {s : ByteArray} {w W : World} (h : readR s = none) (hb : Below w.heap.size w W) : ReadOwn s w (.returned (.tuple #[.slice none 0 0, .bool false])) W := by
  refine ⟨hb, .slice none 0 0, 0, fun _ => False, by rw [h]; rfl, ?_, fun _ h => h.elim⟩
  unfold readL
  rw [h]
  exact OwnS.nil _ _ _ _
theorem read_yes {s : ByteArray} {w W : World} {l : List ElB} {v : Value} {N n : Nat} {F : Foot} (h : readR s = some l) (hb : Below w.heap.size w W) (hN : w.heap.size ≤ N) (ho : OwnS W N n l v F) (hF : ∀ b, F b → N ≤ b) : ReadOwn s w (.returned (.tuple #[v, .bool true])) W := by
  refine ⟨hb, v, n, F, by rw [h]; rfl, ?_, fun b h => Nat.le_trans hN (hF b h)⟩
  unfold readL
  rw [h]
  exact OwnS.low hN _ ho
theorem docQ_step (s : ByteArray) (el : Nat → Option (ElB × Nat)) (f i : Nat) (hi : i < s.size) : docQ s el (f + 1) i = match pieceQ s el i with
      | none => none
      | some x => if standsB s x.2 nlS = true then (docQ s el f (x.2 + 1)).map fun r => x.1 :: r else none := by
  rw [docQ, if_neg (not_not_intro hi)]
  cases pieceQ s el i <;> rfl

theorem row_tail {W : World} {base g n cap : Nat} {C : List Value} {z0 z1 z2 z3 z4 z5 : Value} (h : W.ownsRow base 25 6 (.slice (some ⟨g, 0, none⟩) (n + 1) cap) (n + 1) (C ++ [z0, z1, z2, z3, z4, z5])) (hC : C.length = n * 6) :
    (W.cell? ⟨g, n * 6, none⟩ = some z0 ∧ W.cell? ⟨g, n * 6 + 1, none⟩ = some z1 ∧ W.cell? ⟨g, n * 6 + 2, none⟩ = some z2 ∧ W.cell? ⟨g, n * 6 + 3, none⟩ = some z3 ∧ W.cell? ⟨g, n * 6 + 4, none⟩ = some z4 ∧ W.cell? ⟨g, n * 6 + 5, none⟩ = some z5) ∧
    (W.frozen? ⟨g, n * 6, none⟩ = false ∧ W.frozen? ⟨g, n * 6 + 1, none⟩ = false ∧ W.frozen? ⟨g, n * 6 + 2, none⟩ = false ∧ W.frozen? ⟨g, n * 6 + 3, none⟩ = false ∧ W.frozen? ⟨g, n * 6 + 4, none⟩ = false ∧ W.frozen? ⟨g, n * 6 + 5, none⟩ = false) := by
  have k : ∀ j, j < 6 → W.cell? ⟨g, n * 6 + j, none⟩ = [z0, z1, z2, z3, z4, z5][j]? ∧ W.frozen? ⟨g, n * 6 + j, none⟩ = false := fun j hj => by
    have h1 := own_cell h (j := n * 6 + j) (by omega)
    refine ⟨h1.1.trans ?_, h1.2⟩
    rw [List.getElem?_append_right (by omega)]
    congr 1
    omega
  exact ⟨⟨(k 0 (by omega)).1, (k 1 (by omega)).1, (k 2 (by omega)).1, (k 3 (by omega)).1, (k 4 (by omega)).1, (k 5 (by omega)).1⟩, (k 0 (by omega)).2, (k 1 (by omega)).2, (k 2 (by omega)).2, (k 3 (by omega)).2, (k 4 (by omega)).2, (k 5 (by omega)).2⟩
theorem set6_cell {W : World} {g b o k : Nat} {x a0 a1 a2 a3 a4 a5 : Value} (h : W.cell? ⟨b, k, none⟩ = some x) (hb : b ≠ g) : ((((((W.setCell ⟨g, o, none⟩ a0).setCell ⟨g, o + 1, none⟩ a1).setCell ⟨g, o + 2, none⟩ a2).setCell ⟨g, o + 3, none⟩ a3).setCell ⟨g, o + 4, none⟩ a4).setCell ⟨g, o + 5, none⟩ a5).cell? ⟨b, k, none⟩ = some x :=
  (cell_agree (set6_block W g o a0 a1 a2 a3 a4 a5 b hb)).trans h
theorem lies_at {r : Value} {g n c H : Nat} (h : r.ownBlock = some g ∨ g = H) : ∀ b, (Value.slice (some ⟨g, 0, none⟩) n c).ownBlock = some b → r.ownBlock = some b ∨ H ≤ b := fun b hb => by
  have e : g = b := Option.some.inj hb
  rw [← e]
  exact h.imp id (fun h => Nat.le_of_eq h.symm)
theorem grown_cell {W W' : World} {r x : Value} {b o : Nat} (hg : W.grownBy W' r.ownBlock) (hn : r.ownBlock ≠ some b) (hc : W.cell? ⟨b, o, none⟩ = some x) : W'.cell? ⟨b, o, none⟩ = some x := (cell_agree (hg.block b (block_lt_of_cell hc) (Ne.symm hn))).trans hc
/-- A nought that was laid ahead of a call is there behind it. -/
theorem news_kept {p : Nat} {W W' : World} (h : Fr p ((W.alloc (.cells #[.int .i64 0, .int .i64 0, .string ⟨#[]⟩, .slice none 0 0, .string ⟨#[]⟩, .slice none 0 0] 25))).drew W') (hp : p < W.heap.size) : ∀ j u, zero6L[j]? = some u → W'.cell? ((⟨W.heap.size, 0, none⟩ : Addr).add j) = some u :=
  World.news_of_block (cs := #[.int .i64 0, .int .i64 0, .string ⟨#[]⟩, .slice none 0 0, .string ⟨#[]⟩, .slice none 0 0]) (t := 25) (fr := (0, 0)) ((h.block W.heap.size (by simp) (by omega)).trans (heap_alloc_new W _))

set_option maxRecDepth 20000 in
set_option maxHeartbeats 8000000 in
theorem implRead (s : ByteArray) (a : Addr) (w : World) (hs : s.size ≤ 1048576) (hX : PcX a w) :
    Calls Tryz.prog 12 #[.string s] w fun r w' => ReadOwn s w r w' := by
  have hmf : ∀ (fn : Fn) (first cap : Array Value) (w : World), (Instr.makeFunc fn first cap).run Tryz.prog w = .ok (.func fn first cap) w := fun _ _ _ _ => rfl
  obtain ⟨i0, hi0, hz0, hz1, hz2⟩ := info_parts info_el
  have HXw : Hid (PcX a w) := hX
  have bA := ((Below.refl w.heap.size w).alloc (Nat.le_refl _) (.cells #[.slice none 0 0] 23)).alloc (by simp) (.cells #[.bool false] 4)
  have HS : Hid (FaceR w ((w.alloc (.cells #[.slice none 0 0] 23)).alloc (.cells #[.bool false] 4)) (.slice none 0 0)) := ⟨bA, by simp, by simp, by simp, by simp⟩
  have hsz : ((w.alloc (.cells #[.slice none 0 0] 23)).alloc (.cells #[.bool false] 4)).heap.size = w.heap.size + 2 := by simp
  clear hX bA
  by_cases hbig : 200000 < s.size
  case pos =>
    have hno : readR s = none := by
      unfold readR
      rw [if_pos (.inl hbig)]
    have g0 : decide ((s.size : Int) ≤ 200000) = false := decide_eq_false (by omega)
    go_enter_defers Tryz.func12, Tryz.ntmps12
    go_upto_region 2 with fail
    generalize ((w.alloc (.cells #[.slice none 0 0] 23)).alloc (.cells #[.bool false] 4)) = w1 at *
    have hE := (HXw.out.below HS.out.b).1.2
    go_wp2_with fail
    refine (must_no a _ hE).mono ?_
    rintro e w2 ⟨rfl, rfl⟩
    go_wp2_with fail
    refine leaves_cons (f := 32) (args := #[.pointer (some ⟨w.heap.size, 0, none⟩), .pointer (some ⟨w.heap.size + 1, 0, none⟩)]) (by simp) (by simp [go_sem]) ?_
    refine (rdFace_panics w.heap.size (w.heap.size + 1) _ _ a [] _ HS.out.c HS.out.z HS.out.c1 HS.out.z1 (by omega)).mono ?_
    rintro e u' w'' ⟨rfl, rfl, rfl⟩
    have HD := HS.out.done
    have t0 := HD.c
    have t1 := HD.c1
    have HB : Hid (Below w.heap.size w _) := HD.b
    clear HD HS
    simp [Leaves, settle, results, Tryz.results12, go_sem, t0, t1]
    exact read_no hno HB.out
  have g0 : decide ((s.size : Int) ≤ 200000) = true := decide_eq_true (by omega)
  go_enter_defers Tryz.func12, Tryz.ntmps12
  go_upto_region 2 with fail
  generalize ((w.alloc (.cells #[.slice none 0 0] 23)).alloc (.cells #[.bool false] 4)) = w1 at *
  go_wp2_with fail
  refine (must_yes _).mono ?_
  rintro e w1 ⟨rfl, rfl⟩
  have bB := (Below.refl w1.heap.size w1).alloc (Nat.le_refl _) (.cells #[.string s, .int .i64 0] 43)
  have HS3 := HS.out.below bB
  have hs3 : w.heap.size + 3 ≤ (w1.alloc (.cells #[.string s, .int .i64 0] 43)).heap.size := by simp; omega
  have HW3 : Hid (ReadW s (s.size + 1) w (w1.alloc (.cells #[.string s, .int .i64 0] 43)) 0 (.slice none 0 0) [] (.slice none 0 0) [] (fun _ _ => False)) := ⟨HS3.b, by rw [← hsz]; show (w1.heap.push _)[w1.heap.size]? = _; simp, HS3.c, HS3.z, HS3.c1, HS3.z1, RowO.nil _ _ _⟩
  clear HS bB HS3 g0
  go_upto_region 4 with fail
  generalize w1.alloc (.cells #[.string s, .int .i64 0] 43) = w3 at *
  clear hsz
  cases hb : standsB s 0 xmlHead
  case false =>
    have hno : readR s = none := by
      unfold readR
      rw [if_pos (.inr hb)]
    have HW := want_no a (w.heap.size + 2) s xmlHead 0 _ (HW3.out.rq HXw.out) (Nat.zero_le _) hb
    unfold xmlHead at HW
    go_wp2_with fail
    refine HW.mono ?_
    rintro e w4 ⟨rfl, F4⟩
    have HS : Hid (FaceR w w4 (.slice none 0 0)) := by
      have e0 := F4.block w.heap.size (block_lt_of_cell HW3.out.c) (by omega)
      have e1 := F4.block (w.heap.size + 1) (block_lt_of_cell HW3.out.c1) (by omega)
      exact ⟨HW3.out.b.trans (F4.below (by omega) HW3.out.b.size), (cell_agree e0).trans HW3.out.c, by rw [← HW3.out.z]; simp [World.frozen?, e0], (cell_agree e1).trans HW3.out.c1, by rw [← HW3.out.z1]; simp [World.frozen?, e1]⟩
    clear HW HW3 F4
    go_wp2_with fail
    refine leaves_cons (f := 32) (args := #[.pointer (some ⟨w.heap.size, 0, none⟩), .pointer (some ⟨w.heap.size + 1, 0, none⟩)]) (by simp) (by simp [go_sem]) ?_
    refine (rdFace_panics w.heap.size (w.heap.size + 1) _ _ a [] _ HS.out.c HS.out.z HS.out.c1 HS.out.z1 (by omega)).mono ?_
    rintro e u' w'' ⟨rfl, rfl, rfl⟩
    have HD := HS.out.done
    have t0 := HD.c
    have t1 := HD.c1
    have HB : Hid (Below w.heap.size w _) := HD.b
    clear HD HS
    simp [Leaves, settle, results, Tryz.results12, go_sem, t0, t1]
    exact read_no hno HB.out
  have h22 : xmlHead.size = 22 := rfl
  have hle := stands_le hb
  rw [h22] at hle
  have HW := want_yes a (w.heap.size + 2) s xmlHead 0 _ (HW3.out.rq HXw.out) (Nat.zero_le _) (by omega) (by rw [h22]; omega) hb
  rw [h22] at HW
  unfold xmlHead at HW
  go_wp2_with fail
  refine HW.mono ?_
  rintro e w4 ⟨rfl, R4, F4⟩
  have HW4 : Hid (ReadW s (s.size + 1) w w4 22 (.slice none 0 0) [] (.slice none 0 0) [] (fun _ _ => False)) := HW3.out.fr F4 (by have := R4.1; exact this)
  clear HW HW3 R4 F4
  obtain ⟨R, HR⟩ : ∃ R, Hid (docQ s (fun q => elQ s (s.size + 1) 60 q (-1)) (s.size + 1) 22 = R) := ⟨_, rfl⟩
  have HP : Hid (readR s = match (generalizing := false) R with
      | none => none
      | some l => if docF 0 0 l = true then some l else none) := by
    show _ = _
    rw [← readP_eq]
    unfold readP
    rw [if_neg (by rintro (h | h); · exact hbig h
                   · rw [hb] at h; cases h), ← HR.out]
    rfl
  have HR1 : Hid ((docQ s (fun q => elQ s (s.size + 1) 60 q (-1)) (s.size + 1) 22).map (fun r => [] ++ r) = R) := by
    show _ = _
    rw [← HR.out]
    cases docQ s (fun q => elQ s (s.size + 1) 60 q (-1)) (s.size + 1) 22 <;> simp
  have Hsize : Hid (∀ l, R = some l → l.length + elsW l ≤ 1000000) := fun l h => by
    have := docQ_size s _ (elQ_size s (s.size + 1) 60 (-1)) _ _ l (HR.out.trans h) (by omega)
    omega
  clear HR
  go_wp2_with fail
  go_loopw [] (fun wr => ∃ (l : List ElB) (f j : Nat) (v : Value) (C : List Value) (Fs : Nat → Foot), 22 ≤ j ∧ j ≤ s.size ∧ s.size + 1 ≤ f + j ∧ l.length ≤ j ∧ Hid ((docQ s (fun q => elQ s (s.size + 1) 60 q (-1)) f j).map (fun r => l ++ r) = R) ∧ Hid (ReadW s (s.size + 1) w wr j v l v C Fs)) (fun wr => rqLeft s (w.heap.size + 2) wr)
  case atStart => exact ⟨[], s.size + 1, 22, _, [], _, Nat.le_refl _, by omega, by omega, Nat.zero_le _, HR1, HW4⟩
  case round =>
    obtain ⟨l, f, j, v, C, Fs, hj0, hj, hf, hl, HR, HQ⟩ := hrel
    obtain ⟨f', rfl⟩ : ∃ f', f = f' + 1 := ⟨f - 1, by omega⟩
    clear HR1 HW4
    have HM : Hid (rqLeft s (w.heap.size + 2) _ = s.size + 2 - j) := rqLeft_at HQ.out.q
    have c1 := HQ.out.q.c1
    by_cases hlt : j < s.size
    · have g0 : decide ((j : Int) < (s.size : Int)) = true := decide_eq_true (by omega)
      have HX : Hid (∀ W, Rq a (w.heap.size + 2) s (j : Int) W → Calls Tryz.prog 34 #[.pointer (some ⟨w.heap.size + 2, 0, none⟩), .int .i64 (-1), .int .i64 1] W (fun e w' => GotE a (w.heap.size + 2) s (s.size + 1) (pieceQ s (fun q => elQ s (s.size + 1) 60 q (-1)) j) W e w')) := fun W hW => implPiece a (w.heap.size + 2) s j (s.size + 1) (-1) 1 (fun q => elQ s (s.size + 1) 60 q (-1)) W hW hlt hs (fun W' hW' => implTag a (w.heap.size + 2) s hs (s.size + 1) 60 j (-1) 1 W' (by omega) (by omega) hj (by omega) hW')
      have hst := docQ_step s (fun q => elQ s (s.size + 1) 60 q (-1)) f' j hlt
      cases ho : pieceQ s (fun q => elQ s (s.size + 1) 60 q (-1)) j with
      | none =>
        have Hpan : Hid (∀ W, ReadW s (s.size + 1) w W j v l v C Fs → Calls Tryz.prog 34 #[.pointer (some ⟨w.heap.size + 2, 0, none⟩), .int .i64 (-1), .int .i64 1] W (fun e w' => e = PanE a ∧ FaceR w w' v)) := fun W hW => (HX.out W (hW.rq HXw.out)).mono fun e w' hh => by
          obtain ⟨h1, h2⟩ := hh
          rw [ho] at h1
          rcases h1 with ⟨x, m, y, h3, _⟩ | ⟨_, h3⟩
          · cases h3
          · refine ⟨h3, ?_⟩
            have e0 := h2.block w.heap.size (block_lt_of_cell hW.c) (by omega)
            have e1 := h2.block (w.heap.size + 1) (block_lt_of_cell hW.c1) (by omega)
            exact ⟨hW.b.trans (h2.below (by omega) hW.b.size), (cell_agree e0).trans hW.c, by rw [← hW.z]; simp [World.frozen?, e0], (cell_agree e1).trans hW.c1, by rw [← hW.z1]; simp [World.frozen?, e1]⟩
        have hno : readR s = none := by
          rw [HP.out]
          rw [ho] at hst
          have : R = none := by rw [← HR.out, hst]; rfl
          rw [this]
        obtain ⟨g, cap, ev⟩ := HQ.out.row.form
        subst ev
        have y0 := HQ.out.c
        have W0 := HQ.out
        have B1 := (Below.refl wr.heap.size wr).alloc (Nat.le_refl _) (.cells #[.int .i64 0, .int .i64 0, .string ⟨#[]⟩, .slice none 0 0, .string ⟨#[]⟩, .slice none 0 0] 25)
        have y1 := keep_cell B1 y0
        clear HX hst HM ho HR
        go_upto_region 6 with fail
        refine wp_region_any (by kernel_rfl) ?_
        change wpAny _ _ _ _ _ _ _ (World.drew _)
        refine wpAny_ready (rs := [0, 1, 3]) (by kernel_rfl) (by simp) ?_
        refine AllReady.cons rfl (fun K hK => ?_) ?_
        · go_simp
          refine hK _ _ ?_
          clear hK K
          refine wpAny_ready (rs := [1, 2, 3]) (by kernel_rfl) (by simp) ?_
          refine AllReady.cons rfl (fun K hK => ?_) ?_
          · go_simp
            refine (Hpan.out _ (by exact W0.below ((Below.refl _ _).drew))).mono ?_
            rintro e w6 ⟨rfl, HF⟩
            have HS : Hid (FaceR w w6 _) := HF
            clear HF hK
            go_wp2_with fail
            refine leaves_cons (f := 32) (args := #[.pointer (some ⟨w.heap.size, 0, none⟩), .pointer (some ⟨w.heap.size + 1, 0, none⟩)]) (by simp) (by simp [go_sem]) ?_
            refine (rdFace_panics w.heap.size (w.heap.size + 1) _ _ a [] _ HS.out.c HS.out.z HS.out.c1 HS.out.z1 (by omega)).mono ?_
            rintro e u' w'' ⟨rfl, rfl, rfl⟩
            have HD := HS.out.done
            have t0 := HD.c
            have t1 := HD.c1
            have HB : Hid (Below w.heap.size w _) := HD.b
            clear HD HS
            simp [Leaves, settle, results, Tryz.results12, go_sem, t0, t1]
            exact read_no hno HB.out
          refine AllReady.cons rfl (fun K hK => ?_) ?_
          · go_simp
            refine hK _ _ ?_
            clear hK K
            refine wpAny_ready (rs := [1, 3]) (by kernel_rfl) (by simp) ?_
            refine AllReady.cons rfl (fun K hK => ?_) ?_
            · go_simp
              refine (Hpan.out _ (by exact W0.below ((Below.refl _ _).drew))).mono ?_
              rintro e w6 ⟨rfl, HF⟩
              have HS : Hid (FaceR w w6 _) := HF
              clear HF hK
              go_wp2_with fail
              refine leaves_cons (f := 32) (args := #[.pointer (some ⟨w.heap.size, 0, none⟩), .pointer (some ⟨w.heap.size + 1, 0, none⟩)]) (by simp) (by simp [go_sem]) ?_
              refine (rdFace_panics w.heap.size (w.heap.size + 1) _ _ a [] _ HS.out.c HS.out.z HS.out.c1 HS.out.z1 (by omega)).mono ?_
              rintro e u' w'' ⟨rfl, rfl, rfl⟩
              have HD := HS.out.done
              have t0 := HD.c
              have t1 := HD.c1
              have HB : Hid (Below w.heap.size w _) := HD.b
              clear HD HS
              simp [Leaves, settle, results, Tryz.results12, go_sem, t0, t1]
              exact read_no hno HB.out
            refine AllReady.cons rfl (fun K hK => ?_) ?_
            · go_simp
              refine hK _ _ ?_
              clear hK K
              refine wpAny_ready (rs := [1]) (by kernel_rfl) (by simp) ?_
              refine AllReady.cons rfl (fun K hK => ?_) ?_
              · go_simp
                refine (Hpan.out _ (by exact W0.below (((Below.refl _ _).alloc (Nat.le_refl _) _).drew))).mono ?_
                rintro e w6 ⟨rfl, HF⟩
                have HS : Hid (FaceR w w6 _) := HF
                clear HF hK
                go_wp2_with fail
                refine leaves_cons (f := 32) (args := #[.pointer (some ⟨w.heap.size, 0, none⟩), .pointer (some ⟨w.heap.size + 1, 0, none⟩)]) (by simp) (by simp [go_sem]) ?_
                refine (rdFace_panics w.heap.size (w.heap.size + 1) _ _ a [] _ HS.out.c HS.out.z HS.out.c1 HS.out.z1 (by omega)).mono ?_
                rintro e u' w'' ⟨rfl, rfl, rfl⟩
                have HD := HS.out.done
                have t0 := HD.c
                have t1 := HD.c1
                have HB : Hid (Below w.heap.size w _) := HD.b
                clear HD HS
                simp [Leaves, settle, results, Tryz.results12, go_sem, t0, t1]
                exact read_no hno HB.out
              exact AllReady.nil
            exact AllReady.nil
          refine AllReady.cons rfl (fun K hK => ?_) ?_
          · go_simp
            refine hK _ _ ?_
            clear hK K
            refine wpAny_ready (rs := [1, 2]) (by kernel_rfl) (by simp) ?_
            refine AllReady.cons rfl (fun K hK => ?_) ?_
            · go_simp
              refine (Hpan.out _ (by exact W0.below (((Below.refl _ _).alloc (Nat.le_refl _) _).drew))).mono ?_
              rintro e w6 ⟨rfl, HF⟩
              have HS : Hid (FaceR w w6 _) := HF
              clear HF hK
              go_wp2_with fail
              refine leaves_cons (f := 32) (args := #[.pointer (some ⟨w.heap.size, 0, none⟩), .pointer (some ⟨w.heap.size + 1, 0, none⟩)]) (by simp) (by simp [go_sem]) ?_
              refine (rdFace_panics w.heap.size (w.heap.size + 1) _ _ a [] _ HS.out.c HS.out.z HS.out.c1 HS.out.z1 (by omega)).mono ?_
              rintro e u' w'' ⟨rfl, rfl, rfl⟩
              have HD := HS.out.done
              have t0 := HD.c
              have t1 := HD.c1
              have HB : Hid (Below w.heap.size w _) := HD.b
              clear HD HS
              simp [Leaves, settle, results, Tryz.results12, go_sem, t0, t1]
              exact read_no hno HB.out
            refine AllReady.cons rfl (fun K hK => ?_) ?_
            · go_simp
              refine hK _ _ ?_
              clear hK K
              refine wpAny_ready (rs := [1]) (by kernel_rfl) (by simp) ?_
              refine AllReady.cons rfl (fun K hK => ?_) ?_
              · go_simp
                refine (Hpan.out _ (by exact W0.below (((Below.refl _ _).alloc (Nat.le_refl _) _).drew))).mono ?_
                rintro e w6 ⟨rfl, HF⟩
                have HS : Hid (FaceR w w6 _) := HF
                clear HF hK
                go_wp2_with fail
                refine leaves_cons (f := 32) (args := #[.pointer (some ⟨w.heap.size, 0, none⟩), .pointer (some ⟨w.heap.size + 1, 0, none⟩)]) (by simp) (by simp [go_sem]) ?_
                refine (rdFace_panics w.heap.size (w.heap.size + 1) _ _ a [] _ HS.out.c HS.out.z HS.out.c1 HS.out.z1 (by omega)).mono ?_
                rintro e u' w'' ⟨rfl, rfl, rfl⟩
                have HD := HS.out.done
                have t0 := HD.c
                have t1 := HD.c1
                have HB : Hid (Below w.heap.size w _) := HD.b
                clear HD HS
                simp [Leaves, settle, results, Tryz.results12, go_sem, t0, t1]
                exact read_no hno HB.out
              exact AllReady.nil
            exact AllReady.nil
          exact AllReady.nil
        refine AllReady.cons rfl (fun K hK => ?_) ?_
        · go_simp
          refine (Hpan.out _ (by exact W0.below ((Below.refl _ _).drew))).mono ?_
          rintro e w6 ⟨rfl, HF⟩
          have HS : Hid (FaceR w w6 _) := HF
          clear HF hK
          go_wp2_with fail
          refine leaves_cons (f := 32) (args := #[.pointer (some ⟨w.heap.size, 0, none⟩), .pointer (some ⟨w.heap.size + 1, 0, none⟩)]) (by simp) (by simp [go_sem]) ?_
          refine (rdFace_panics w.heap.size (w.heap.size + 1) _ _ a [] _ HS.out.c HS.out.z HS.out.c1 HS.out.z1 (by omega)).mono ?_
          rintro e u' w'' ⟨rfl, rfl, rfl⟩
          have HD := HS.out.done
          have t0 := HD.c
          have t1 := HD.c1
          have HB : Hid (Below w.heap.size w _) := HD.b
          clear HD HS
          simp [Leaves, settle, results, Tryz.results12, go_sem, t0, t1]
          exact read_no hno HB.out
        refine AllReady.cons rfl (fun K hK => ?_) ?_
        · go_simp
          refine hK _ _ ?_
          clear hK K
          refine wpAny_ready (rs := [0, 1]) (by kernel_rfl) (by simp) ?_
          refine AllReady.cons rfl (fun K hK => ?_) ?_
          · go_simp
            refine hK _ _ ?_
            clear hK K
            refine wpAny_ready (rs := [1, 2]) (by kernel_rfl) (by simp) ?_
            refine AllReady.cons rfl (fun K hK => ?_) ?_
            · go_simp
              refine (Hpan.out _ (by exact W0.below (((Below.refl _ _).alloc (Nat.le_refl _) _).drew))).mono ?_
              rintro e w6 ⟨rfl, HF⟩
              have HS : Hid (FaceR w w6 _) := HF
              clear HF hK
              go_wp2_with fail
              refine leaves_cons (f := 32) (args := #[.pointer (some ⟨w.heap.size, 0, none⟩), .pointer (some ⟨w.heap.size + 1, 0, none⟩)]) (by simp) (by simp [go_sem]) ?_
              refine (rdFace_panics w.heap.size (w.heap.size + 1) _ _ a [] _ HS.out.c HS.out.z HS.out.c1 HS.out.z1 (by omega)).mono ?_
              rintro e u' w'' ⟨rfl, rfl, rfl⟩
              have HD := HS.out.done
              have t0 := HD.c
              have t1 := HD.c1
              have HB : Hid (Below w.heap.size w _) := HD.b
              clear HD HS
              simp [Leaves, settle, results, Tryz.results12, go_sem, t0, t1]
              exact read_no hno HB.out
            refine AllReady.cons rfl (fun K hK => ?_) ?_
            · go_simp
              refine hK _ _ ?_
              clear hK K
              refine wpAny_ready (rs := [1]) (by kernel_rfl) (by simp) ?_
              refine AllReady.cons rfl (fun K hK => ?_) ?_
              · go_simp
                refine (Hpan.out _ (by exact W0.below (((Below.refl _ _).alloc (Nat.le_refl _) _).drew))).mono ?_
                rintro e w6 ⟨rfl, HF⟩
                have HS : Hid (FaceR w w6 _) := HF
                clear HF hK
                go_wp2_with fail
                refine leaves_cons (f := 32) (args := #[.pointer (some ⟨w.heap.size, 0, none⟩), .pointer (some ⟨w.heap.size + 1, 0, none⟩)]) (by simp) (by simp [go_sem]) ?_
                refine (rdFace_panics w.heap.size (w.heap.size + 1) _ _ a [] _ HS.out.c HS.out.z HS.out.c1 HS.out.z1 (by omega)).mono ?_
                rintro e u' w'' ⟨rfl, rfl, rfl⟩
                have HD := HS.out.done
                have t0 := HD.c
                have t1 := HD.c1
                have HB : Hid (Below w.heap.size w _) := HD.b
                clear HD HS
                simp [Leaves, settle, results, Tryz.results12, go_sem, t0, t1]
                exact read_no hno HB.out
              exact AllReady.nil
            exact AllReady.nil
          refine AllReady.cons rfl (fun K hK => ?_) ?_
          · go_simp
            refine (Hpan.out _ (by exact W0.below (((Below.refl _ _).alloc (Nat.le_refl _) _).drew))).mono ?_
            rintro e w6 ⟨rfl, HF⟩
            have HS : Hid (FaceR w w6 _) := HF
            clear HF hK
            go_wp2_with fail
            refine leaves_cons (f := 32) (args := #[.pointer (some ⟨w.heap.size, 0, none⟩), .pointer (some ⟨w.heap.size + 1, 0, none⟩)]) (by simp) (by simp [go_sem]) ?_
            refine (rdFace_panics w.heap.size (w.heap.size + 1) _ _ a [] _ HS.out.c HS.out.z HS.out.c1 HS.out.z1 (by omega)).mono ?_
            rintro e u' w'' ⟨rfl, rfl, rfl⟩
            have HD := HS.out.done
            have t0 := HD.c
            have t1 := HD.c1
            have HB : Hid (Below w.heap.size w _) := HD.b
            clear HD HS
            simp [Leaves, settle, results, Tryz.results12, go_sem, t0, t1]
            exact read_no hno HB.out
          exact AllReady.nil
        exact AllReady.nil
      | some r =>
        obtain ⟨x, m⟩ := r
        rw [ho] at hst
        have hm := piece_size (elQ_size s (s.size + 1) 60 (-1)) j x m hlt ho
        have Hcall : Hid (∀ W, ReadW s (s.size + 1) w W j v l v C Fs → Calls Tryz.prog 34 #[.pointer (some ⟨w.heap.size + 2, 0, none⟩), .int .i64 (-1), .int .i64 1] W (fun e w' => ∃ (kd sq : Int) (nm tx : ByteArray) (xa : Option Addr) (xn xc : Nat) (ka : Option Addr) (kn kc : Nat), e = .returned (.agg #[.int .i64 kd, .int .i64 sq, .string nm, .slice xa xn xc, .string tx, .slice ka kn kc]) ∧ ReadW s (s.size + 1) w w' m v l v C Fs ∧ MadeX w' (w.heap.size + 3) (s.size + 1) x (.agg #[.int .i64 kd, .int .i64 sq, .string nm, .slice xa xn xc, .string tx, .slice ka kn kc]) W.heap.size w'.heap.size ∧ Fr (w.heap.size + 2) W w')) := fun W hW => (HX.out W (hW.rq HXw.out)).mono fun e w' hh => by
          obtain ⟨h1, h2⟩ := hh
          rw [ho] at h1
          rcases h1 with ⟨x', m', y, h3, h4, h5, h6⟩ | ⟨h3, _⟩
          · cases h3
            obtain ⟨kd, sq, nm, ats, tx, ks⟩ := x
            obtain ⟨xa, xc, ka, kc, ev⟩ := h5.form
            subst ev
            exact ⟨_, _, _, _, _, _, _, _, _, _, h4, hW.fr h2 h6.1, MadeX.of h5 hW.size, h2⟩
          · cases h3
        obtain ⟨g, cap, ev⟩ := HQ.out.row.form
        subst ev
        have y0 := HQ.out.c
        have W0 := HQ.out
        have hC6 : Hid (C.length = l.length * 6) := HQ.out.row.1.1
        have hblk : Hid ((∀ b, (Value.slice g l.length cap).ownBlock = some b → b < wr.heap.size) ∧ ∀ i, i < l.length → ∀ b, Fs i b → b < wr.heap.size) := HQ.out.row.blocks
        have hws := HQ.out.size
        have n0 : (Value.slice g l.length cap).ownBlock ≠ some w.heap.size := fun e => by
          have := (own_since HQ.out.row.1 e).1
          omega
        have i1 : (0 : Int) ≤ (l.length : Int) := by omega
        have i2 : (l.length : Int) < (l.length : Int) + 1 := by omega
        have hone : ∀ u ∈ zero6L, u.oneCell' = true := by
          intro u hu
          simp only [List.mem_cons, List.not_mem_nil, or_false] at hu
          rcases hu with rfl | rfl | rfl | rfl | rfl | rfl <;> rfl
        have h63 : l.length + 1 ≤ maxLen := by unfold maxLen; omega
        have hbyt : (l.length + 1) * 96 ≤ 140737488355328 := by omega
        have B1 := (Below.refl wr.heap.size wr).alloc (Nat.le_refl _) (.cells #[.int .i64 0, .int .i64 0, .string ⟨#[]⟩, .slice none 0 0, .string ⟨#[]⟩, .slice none 0 0] 25)
        have y1 := keep_cell B1 y0
        clear HX HQ
        go_upto_region 6 with fail
        go_cut [22] from 18 to 24 (fun _ wx => ∃ W : World, W = wx ∧ ∃ (v' : Value) (C' : List Value) (Fs' : Nat → Foot), ReadW s (s.size + 1) w W m v' (l ++ [x]) v' C' Fs')
        case first =>
          clear HXw Hsize HP hst ho hm HM HR hle hs3 hbig
          refine wp_region_any (by kernel_rfl) ?_
          change wpAny _ _ _ _ _ _ _ (World.drew _)
          refine wpAny_ready (rs := [0, 1, 3]) (by kernel_rfl) (by simp) ?_
          refine AllReady.cons rfl (fun K hK => ?_) ?_
          · go_simp
            refine hK _ _ ?_
            clear hK K
            refine wpAny_ready (rs := [1, 2, 3]) (by kernel_rfl) (by simp) ?_
            refine AllReady.cons rfl (fun K hK => ?_) ?_
            · go_simp
              refine (Hcall.out _ (W0.below ((Below.refl _ _).drew))).mono ?_
              rintro e w6 ⟨kd, sq, nm, tx, xa, xn, xc, ka, kn, kc, rfl, H6, M6, F6⟩
              have c6 := H6.c
              have c6a := cell_al (x := .cells #[.int .i64 0, .int .i64 0, .string ⟨#[]⟩, .slice none 0 0, .string ⟨#[]⟩, .slice none 0 0] 25) H6.c
              refine hK _ _ ?_
              clear hK K
              refine wpAny_ready (rs := [2, 3]) (by kernel_rfl) (by simp) ?_
              refine AllReady.cons rfl (fun K hK => ?_) ?_
              · go_simp
                refine hK _ _ ?_
                clear hK K
                refine wpAny_ready (rs := [3]) (by kernel_rfl) (by simp) ?_
                refine AllReady.cons rfl (fun K hK => ?_) ?_
                · go_simp
                  refine hK _ _ ?_
                  clear hK K
                  refine wpAny_ready (rs := [4]) (by kernel_rfl) (by simp) ?_
                  refine AllReady.cons rfl (fun K hK => ?_) AllReady.nil
                  refine step_append_lies _ (by rfl) _ _ _ (by rfl) (w.heap.size + 3) 25 i0 _ 6 96 Tryz.underlying23 hi0 hz0 hz1 hz2 rfl (by omega) (.slice g l.length cap) l.length C (by rfl) (H6.row.1.alloc _) ⟨_, 0, none⟩ 1 1 zero6L (by rfl) (by rfl) (World.news_of_block (cs := #[.int .i64 0, .int .i64 0, .string ⟨#[]⟩, .slice none 0 0, .string ⟨#[]⟩, .slice none 0 0]) (t := 25) (fr := (0, 0)) (heap_alloc_new w6 _)) hone (by omega) h63 hbyt (by have := H6.size; simp; omega) _ rfl ?_
                  intro gg cap6 w7 hown7 hgrow hat hlt7
                  refine hK _ _ ?_
                  have HG : Hid _ := ReadW.grow (H6.below ((Below.refl _ _).alloc (Nat.le_refl _) _)) hown7 hgrow (lies_at hat)
                  obtain ⟨⟨k0, k1, k2, k3, k4, k5⟩, f0, f1, f2, f3, f4, f5⟩ := row_tail hown7 hC6.out
                  obtain ⟨⟨l0, l1, l2, l3, l4, l5⟩, _⟩ := row_tail (owns_setC (i := 0) (u := .slice (some ⟨gg, 0, none⟩) (l.length + 1) cap6) hown7 (show w.heap.size < w.heap.size + 3 by omega)) hC6.out
                  have ng : w.heap.size ≠ gg := (by have hh : w.heap.size + 3 ≤ gg := (own_since hown7 rfl).1; omega)
                  have k6 := HG.out.c
                  have z6 := HG.out.z
                  have k7 := set6_cell (o := l.length * 6) (a0 := .int .i64 kd) (a1 := .int .i64 sq) (a2 := .string nm) (a3 := .slice xa xn xc) (a4 := .string tx) (a5 := .slice ka kn kc) k6 ng
                  have HMx : Hid (MadeX w7 (w.heap.size + 3) (s.size + 1) x (.agg #[.int .i64 kd, .int .i64 sq, .string nm, .slice xa xn xc, .string tx, .slice ka kn kc]) wr.drew.heap.size w6.heap.size) := MadeX.grown (M6.keep (by simp) (fun b _ h2 => (Below.heap_alloc w6 (.cells #[.int .i64 0, .int .i64 0, .string ⟨#[]⟩, .slice none 0 0, .string ⟨#[]⟩, .slice none 0 0] 25) b h2))) hgrow (fun b hb => by have := hblk.out.1 b hb; simp; omega)
                  have Hhat : Hid (gg < wr.drew.heap.size ∨ w6.heap.size ≤ gg) := by
                    rcases hat with h | h
                    · left
                      have := hblk.out.1 gg h
                      simp
                      omega
                    · right
                      rw [h]
                      simp
                  have HFs : Hid (∀ i, i < l.length → ∀ b, Fs i b → b < wr.drew.heap.size) := fun i hi b hb => by
                    have := hblk.out.2 i hi b hb
                    simp
                    omega
                  clear hK K hown7 hgrow hat hlt7 H6 M6 F6 c6 c6a y0 y1 W0 B1 hone h63 hbyt n0 hi0 hz0 hz1 hz2 hmf ng
                  refine wpAny_ready (rs := [5, 7]) (by kernel_rfl) (by simp) ?_
                  refine AllReady.cons rfl (fun K hK => ?_) ?_
                  · go_simp
                    refine hK _ _ ?_
                    clear hK K
                    refine wpAny_ready (rs := [6, 7]) (by kernel_rfl) (by simp) ?_
                    refine AllReady.cons rfl (fun K hK => ?_) ?_
                    · go_simp
                      refine hK _ _ ?_
                      clear hK K
                      refine wpAny_ready (rs := [7]) (by kernel_rfl) (by simp) ?_
                      refine AllReady.cons rfl (fun K hK => ?_) ?_
                      · go_simp
                        refine hK _ _ ?_
                        clear hK K
                        refine wpAny_done (by kernel_rfl) ?_ _
                        go_wp2_with fail
                        go_meet
                        case rel => exact ⟨_, rfl, ReadW.fin1 HG.out hC6.out HMx.out Hhat.out HFs.out⟩
                      exact AllReady.nil
                    refine AllReady.cons rfl (fun K hK => ?_) ?_
                    · go_simp
                      refine hK _ _ ?_
                      clear hK K
                      refine wpAny_ready (rs := [6]) (by kernel_rfl) (by simp) ?_
                      refine AllReady.cons rfl (fun K hK => ?_) ?_
                      · go_simp
                        refine hK _ _ ?_
                        clear hK K
                        refine wpAny_done (by kernel_rfl) ?_ _
                        go_wp2_with fail
                        go_meet
                        case rel => exact ⟨_, rfl, ReadW.fin2 HG.out hC6.out HMx.out Hhat.out HFs.out⟩
                      exact AllReady.nil
                    exact AllReady.nil
                  refine AllReady.cons rfl (fun K hK => ?_) ?_
                  · go_simp
                    refine hK _ _ ?_
                    clear hK K
                    refine wpAny_ready (rs := [5]) (by kernel_rfl) (by simp) ?_
                    refine AllReady.cons rfl (fun K hK => ?_) ?_
                    · go_simp
                      refine hK _ _ ?_
                      clear hK K
                      refine wpAny_ready (rs := [6]) (by kernel_rfl) (by simp) ?_
                      refine AllReady.cons rfl (fun K hK => ?_) ?_
                      · go_simp
                        refine hK _ _ ?_
                        clear hK K
                        refine wpAny_done (by kernel_rfl) ?_ _
                        go_wp2_with fail
                        go_meet
                        case rel => exact ⟨_, rfl, ReadW.fin2 HG.out hC6.out HMx.out Hhat.out HFs.out⟩
                      exact AllReady.nil
                    exact AllReady.nil
                  exact AllReady.nil
                exact AllReady.nil
              refine AllReady.cons rfl (fun K hK => ?_) ?_
              · go_simp
                refine hK _ _ ?_
                clear hK K
                refine wpAny_ready (rs := [2]) (by kernel_rfl) (by simp) ?_
                refine AllReady.cons rfl (fun K hK => ?_) ?_
                · go_simp
                  refine hK _ _ ?_
                  clear hK K
                  refine wpAny_ready (rs := [4]) (by kernel_rfl) (by simp) ?_
                  refine AllReady.cons rfl (fun K hK => ?_) AllReady.nil
                  refine step_append_lies _ (by rfl) _ _ _ (by rfl) (w.heap.size + 3) 25 i0 _ 6 96 Tryz.underlying23 hi0 hz0 hz1 hz2 rfl (by omega) (.slice g l.length cap) l.length C (by rfl) (H6.row.1.alloc _) ⟨_, 0, none⟩ 1 1 zero6L (by rfl) (by rfl) (World.news_of_block (cs := #[.int .i64 0, .int .i64 0, .string ⟨#[]⟩, .slice none 0 0, .string ⟨#[]⟩, .slice none 0 0]) (t := 25) (fr := (0, 0)) (heap_alloc_new w6 _)) hone (by omega) h63 hbyt (by have := H6.size; simp; omega) _ rfl ?_
                  intro gg cap6 w7 hown7 hgrow hat hlt7
                  refine hK _ _ ?_
                  have HG : Hid _ := ReadW.grow (H6.below ((Below.refl _ _).alloc (Nat.le_refl _) _)) hown7 hgrow (lies_at hat)
                  obtain ⟨⟨k0, k1, k2, k3, k4, k5⟩, f0, f1, f2, f3, f4, f5⟩ := row_tail hown7 hC6.out
                  obtain ⟨⟨l0, l1, l2, l3, l4, l5⟩, _⟩ := row_tail (owns_setC (i := 0) (u := .slice (some ⟨gg, 0, none⟩) (l.length + 1) cap6) hown7 (show w.heap.size < w.heap.size + 3 by omega)) hC6.out
                  have ng : w.heap.size ≠ gg := (by have hh : w.heap.size + 3 ≤ gg := (own_since hown7 rfl).1; omega)
                  have k6 := HG.out.c
                  have z6 := HG.out.z
                  have k7 := set6_cell (o := l.length * 6) (a0 := .int .i64 kd) (a1 := .int .i64 sq) (a2 := .string nm) (a3 := .slice xa xn xc) (a4 := .string tx) (a5 := .slice ka kn kc) k6 ng
                  have HMx : Hid (MadeX w7 (w.heap.size + 3) (s.size + 1) x (.agg #[.int .i64 kd, .int .i64 sq, .string nm, .slice xa xn xc, .string tx, .slice ka kn kc]) wr.drew.heap.size w6.heap.size) := MadeX.grown (M6.keep (by simp) (fun b _ h2 => (Below.heap_alloc w6 (.cells #[.int .i64 0, .int .i64 0, .string ⟨#[]⟩, .slice none 0 0, .string ⟨#[]⟩, .slice none 0 0] 25) b h2))) hgrow (fun b hb => by have := hblk.out.1 b hb; simp; omega)
                  have Hhat : Hid (gg < wr.drew.heap.size ∨ w6.heap.size ≤ gg) := by
                    rcases hat with h | h
                    · left
                      have := hblk.out.1 gg h
                      simp
                      omega
                    · right
                      rw [h]
                      simp
                  have HFs : Hid (∀ i, i < l.length → ∀ b, Fs i b → b < wr.drew.heap.size) := fun i hi b hb => by
                    have := hblk.out.2 i hi b hb
                    simp
                    omega
                  clear hK K hown7 hgrow hat hlt7 H6 M6 F6 c6 c6a y0 y1 W0 B1 hone h63 hbyt n0 hi0 hz0 hz1 hz2 hmf ng
                  refine wpAny_ready (rs := [5, 7]) (by kernel_rfl) (by simp) ?_
                  refine AllReady.cons rfl (fun K hK => ?_) ?_
                  · go_simp
                    refine hK _ _ ?_
                    clear hK K
                    refine wpAny_ready (rs := [6, 7]) (by kernel_rfl) (by simp) ?_
                    refine AllReady.cons rfl (fun K hK => ?_) ?_
                    · go_simp
                      refine hK _ _ ?_
                      clear hK K
                      refine wpAny_ready (rs := [7]) (by kernel_rfl) (by simp) ?_
                      refine AllReady.cons rfl (fun K hK => ?_) ?_
                      · go_simp
                        refine hK _ _ ?_
                        clear hK K
                        refine wpAny_done (by kernel_rfl) ?_ _
                        go_wp2_with fail
                        go_meet
                        case rel => exact ⟨_, rfl, ReadW.fin1 HG.out hC6.out HMx.out Hhat.out HFs.out⟩
                      exact AllReady.nil
                    refine AllReady.cons rfl (fun K hK => ?_) ?_
                    · go_simp
                      refine hK _ _ ?_
                      clear hK K
                      refine wpAny_ready (rs := [6]) (by kernel_rfl) (by simp) ?_
                      refine AllReady.cons rfl (fun K hK => ?_) ?_
                      · go_simp
                        refine hK _ _ ?_
                        clear hK K
                        refine wpAny_done (by kernel_rfl) ?_ _
                        go_wp2_with fail
                        go_meet
                        case rel => exact ⟨_, rfl, ReadW.fin2 HG.out hC6.out HMx.out Hhat.out HFs.out⟩
                      exact AllReady.nil
                    exact AllReady.nil
                  refine AllReady.cons rfl (fun K hK => ?_) ?_
                  · go_simp
                    refine hK _ _ ?_
                    clear hK K
                    refine wpAny_ready (rs := [5]) (by kernel_rfl) (by simp) ?_
                    refine AllReady.cons rfl (fun K hK => ?_) ?_
                    · go_simp
                      refine hK _ _ ?_
                      clear hK K
                      refine wpAny_ready (rs := [6]) (by kernel_rfl) (by simp) ?_
                      refine AllReady.cons rfl (fun K hK => ?_) ?_
                      · go_simp
                        refine hK _ _ ?_
                        clear hK K
                        refine wpAny_done (by kernel_rfl) ?_ _
                        go_wp2_with fail
                        go_meet
                        case rel => exact ⟨_, rfl, ReadW.fin2 HG.out hC6.out HMx.out Hhat.out HFs.out⟩
                      exact AllReady.nil
                    exact AllReady.nil
                  exact AllReady.nil
                exact AllReady.nil
              exact AllReady.nil
            refine AllReady.cons rfl (fun K hK => ?_) ?_
            · go_simp
              refine hK _ _ ?_
              clear hK K
              refine wpAny_ready (rs := [1, 3]) (by kernel_rfl) (by simp) ?_
              refine AllReady.cons rfl (fun K hK => ?_) ?_
              · go_simp
                refine (Hcall.out _ (W0.below ((Below.refl _ _).drew))).mono ?_
                rintro e w6 ⟨kd, sq, nm, tx, xa, xn, xc, ka, kn, kc, rfl, H6, M6, F6⟩
                have c6 := H6.c
                have c6a := cell_al (x := .cells #[.int .i64 0, .int .i64 0, .string ⟨#[]⟩, .slice none 0 0, .string ⟨#[]⟩, .slice none 0 0] 25) H6.c
                refine hK _ _ ?_
                clear hK K
                refine wpAny_ready (rs := [3]) (by kernel_rfl) (by simp) ?_
                refine AllReady.cons rfl (fun K hK => ?_) ?_
                · go_simp
                  refine hK _ _ ?_
                  clear hK K
                  refine wpAny_ready (rs := [4]) (by kernel_rfl) (by simp) ?_
                  refine AllReady.cons rfl (fun K hK => ?_) AllReady.nil
                  refine step_append_lies _ (by rfl) _ _ _ (by rfl) (w.heap.size + 3) 25 i0 _ 6 96 Tryz.underlying23 hi0 hz0 hz1 hz2 rfl (by omega) (.slice g l.length cap) l.length C (by rfl) (H6.row.1.alloc _) ⟨_, 0, none⟩ 1 1 zero6L (by rfl) (by rfl) (World.news_of_block (cs := #[.int .i64 0, .int .i64 0, .string ⟨#[]⟩, .slice none 0 0, .string ⟨#[]⟩, .slice none 0 0]) (t := 25) (fr := (0, 0)) (heap_alloc_new w6 _)) hone (by omega) h63 hbyt (by have := H6.size; simp; omega) _ rfl ?_
                  intro gg cap6 w7 hown7 hgrow hat hlt7
                  refine hK _ _ ?_
                  have HG : Hid _ := ReadW.grow (H6.below ((Below.refl _ _).alloc (Nat.le_refl _) _)) hown7 hgrow (lies_at hat)
                  obtain ⟨⟨k0, k1, k2, k3, k4, k5⟩, f0, f1, f2, f3, f4, f5⟩ := row_tail hown7 hC6.out
                  obtain ⟨⟨l0, l1, l2, l3, l4, l5⟩, _⟩ := row_tail (owns_setC (i := 0) (u := .slice (some ⟨gg, 0, none⟩) (l.length + 1) cap6) hown7 (show w.heap.size < w.heap.size + 3 by omega)) hC6.out
                  have ng : w.heap.size ≠ gg := (by have hh : w.heap.size + 3 ≤ gg := (own_since hown7 rfl).1; omega)
                  have k6 := HG.out.c
                  have z6 := HG.out.z
                  have k7 := set6_cell (o := l.length * 6) (a0 := .int .i64 kd) (a1 := .int .i64 sq) (a2 := .string nm) (a3 := .slice xa xn xc) (a4 := .string tx) (a5 := .slice ka kn kc) k6 ng
                  have HMx : Hid (MadeX w7 (w.heap.size + 3) (s.size + 1) x (.agg #[.int .i64 kd, .int .i64 sq, .string nm, .slice xa xn xc, .string tx, .slice ka kn kc]) wr.drew.heap.size w6.heap.size) := MadeX.grown (M6.keep (by simp) (fun b _ h2 => (Below.heap_alloc w6 (.cells #[.int .i64 0, .int .i64 0, .string ⟨#[]⟩, .slice none 0 0, .string ⟨#[]⟩, .slice none 0 0] 25) b h2))) hgrow (fun b hb => by have := hblk.out.1 b hb; simp; omega)
                  have Hhat : Hid (gg < wr.drew.heap.size ∨ w6.heap.size ≤ gg) := by
                    rcases hat with h | h
                    · left
                      have := hblk.out.1 gg h
                      simp
                      omega
                    · right
                      rw [h]
                      simp
                  have HFs : Hid (∀ i, i < l.length → ∀ b, Fs i b → b < wr.drew.heap.size) := fun i hi b hb => by
                    have := hblk.out.2 i hi b hb
                    simp
                    omega
                  clear hK K hown7 hgrow hat hlt7 H6 M6 F6 c6 c6a y0 y1 W0 B1 hone h63 hbyt n0 hi0 hz0 hz1 hz2 hmf ng
                  refine wpAny_ready (rs := [5, 7]) (by kernel_rfl) (by simp) ?_
                  refine AllReady.cons rfl (fun K hK => ?_) ?_
                  · go_simp
                    refine hK _ _ ?_
                    clear hK K
                    refine wpAny_ready (rs := [6, 7]) (by kernel_rfl) (by simp) ?_
                    refine AllReady.cons rfl (fun K hK => ?_) ?_
                    · go_simp
                      refine hK _ _ ?_
                      clear hK K
                      refine wpAny_ready (rs := [7]) (by kernel_rfl) (by simp) ?_
                      refine AllReady.cons rfl (fun K hK => ?_) ?_
                      · go_simp
                        refine hK _ _ ?_
                        clear hK K
                        refine wpAny_done (by kernel_rfl) ?_ _
                        go_wp2_with fail
                        go_meet
                        case rel => exact ⟨_, rfl, ReadW.fin1 HG.out hC6.out HMx.out Hhat.out HFs.out⟩
                      exact AllReady.nil
                    refine AllReady.cons rfl (fun K hK => ?_) ?_
                    · go_simp
                      refine hK _ _ ?_
                      clear hK K
                      refine wpAny_ready (rs := [6]) (by kernel_rfl) (by simp) ?_
                      refine AllReady.cons rfl (fun K hK => ?_) ?_
                      · go_simp
                        refine hK _ _ ?_
                        clear hK K
                        refine wpAny_done (by kernel_rfl) ?_ _
                        go_wp2_with fail
                        go_meet
                        case rel => exact ⟨_, rfl, ReadW.fin2 HG.out hC6.out HMx.out Hhat.out HFs.out⟩
                      exact AllReady.nil
                    exact AllReady.nil
                  refine AllReady.cons rfl (fun K hK => ?_) ?_
                  · go_simp
                    refine hK _ _ ?_
                    clear hK K
                    refine wpAny_ready (rs := [5]) (by kernel_rfl) (by simp) ?_
                    refine AllReady.cons rfl (fun K hK => ?_) ?_
                    · go_simp
                      refine hK _ _ ?_
                      clear hK K
                      refine wpAny_ready (rs := [6]) (by kernel_rfl) (by simp) ?_
                      refine AllReady.cons rfl (fun K hK => ?_) ?_
                      · go_simp
                        refine hK _ _ ?_
                        clear hK K
                        refine wpAny_done (by kernel_rfl) ?_ _
                        go_wp2_with fail
                        go_meet
                        case rel => exact ⟨_, rfl, ReadW.fin2 HG.out hC6.out HMx.out Hhat.out HFs.out⟩
                      exact AllReady.nil
                    exact AllReady.nil
                  exact AllReady.nil
                exact AllReady.nil
              refine AllReady.cons rfl (fun K hK => ?_) ?_
              · go_simp
                refine hK _ _ ?_
                clear hK K
                refine wpAny_ready (rs := [1]) (by kernel_rfl) (by simp) ?_
                refine AllReady.cons rfl (fun K hK => ?_) ?_
                · go_simp
                  refine (Hcall.out _ (W0.below (((Below.refl _ _).alloc (Nat.le_refl _) _).drew))).mono ?_
                  rintro e w6 ⟨kd, sq, nm, tx, xa, xn, xc, ka, kn, kc, rfl, H6, M6, F6⟩
                  have c6 := H6.c
                  have c6a := cell_al (x := .cells #[.int .i64 0, .int .i64 0, .string ⟨#[]⟩, .slice none 0 0, .string ⟨#[]⟩, .slice none 0 0] 25) H6.c
                  refine hK _ _ ?_
                  clear hK K
                  refine wpAny_ready (rs := [4]) (by kernel_rfl) (by simp) ?_
                  refine AllReady.cons rfl (fun K hK => ?_) AllReady.nil
                  refine step_append_lies _ (by rfl) _ _ _ (by rfl) (w.heap.size + 3) 25 i0 _ 6 96 Tryz.underlying23 hi0 hz0 hz1 hz2 rfl (by omega) (.slice g l.length cap) l.length C (by rfl) H6.row.1 ⟨_, 0, none⟩ 1 1 zero6L (by rfl) (by rfl) (news_kept F6 (by omega)) hone (by omega) h63 hbyt (by have := H6.size; omega) _ rfl ?_
                  intro gg cap6 w7 hown7 hgrow hat hlt7
                  refine hK _ _ ?_
                  have HG : Hid _ := ReadW.grow H6 hown7 hgrow (lies_at hat)
                  obtain ⟨⟨k0, k1, k2, k3, k4, k5⟩, f0, f1, f2, f3, f4, f5⟩ := row_tail hown7 hC6.out
                  obtain ⟨⟨l0, l1, l2, l3, l4, l5⟩, _⟩ := row_tail (owns_setC (i := 0) (u := .slice (some ⟨gg, 0, none⟩) (l.length + 1) cap6) hown7 (show w.heap.size < w.heap.size + 3 by omega)) hC6.out
                  have ng : w.heap.size ≠ gg := (by have hh : w.heap.size + 3 ≤ gg := (own_since hown7 rfl).1; omega)
                  have k6 := HG.out.c
                  have z6 := HG.out.z
                  have k7 := set6_cell (o := l.length * 6) (a0 := .int .i64 kd) (a1 := .int .i64 sq) (a2 := .string nm) (a3 := .slice xa xn xc) (a4 := .string tx) (a5 := .slice ka kn kc) k6 ng
                  have HMx : Hid (MadeX w7 (w.heap.size + 3) (s.size + 1) x (.agg #[.int .i64 kd, .int .i64 sq, .string nm, .slice xa xn xc, .string tx, .slice ka kn kc]) (wr.alloc (.cells #[.int .i64 0, .int .i64 0, .string ⟨#[]⟩, .slice none 0 0, .string ⟨#[]⟩, .slice none 0 0] 25)).drew.heap.size w6.heap.size) := MadeX.grown M6 hgrow (fun b hb => by have := hblk.out.1 b hb; simp; omega)
                  have Hhat : Hid (gg < (wr.alloc (.cells #[.int .i64 0, .int .i64 0, .string ⟨#[]⟩, .slice none 0 0, .string ⟨#[]⟩, .slice none 0 0] 25)).drew.heap.size ∨ w6.heap.size ≤ gg) := by
                    rcases hat with h | h
                    · left
                      have := hblk.out.1 gg h
                      simp
                      omega
                    · right
                      rw [h]
                      simp
                  have HFs : Hid (∀ i, i < l.length → ∀ b, Fs i b → b < (wr.alloc (.cells #[.int .i64 0, .int .i64 0, .string ⟨#[]⟩, .slice none 0 0, .string ⟨#[]⟩, .slice none 0 0] 25)).drew.heap.size) := fun i hi b hb => by
                    have := hblk.out.2 i hi b hb
                    simp
                    omega
                  clear hK K hown7 hgrow hat hlt7 H6 M6 F6 c6 c6a y0 y1 W0 B1 hone h63 hbyt n0 hi0 hz0 hz1 hz2 hmf ng
                  refine wpAny_ready (rs := [5, 7]) (by kernel_rfl) (by simp) ?_
                  refine AllReady.cons rfl (fun K hK => ?_) ?_
                  · go_simp
                    refine hK _ _ ?_
                    clear hK K
                    refine wpAny_ready (rs := [6, 7]) (by kernel_rfl) (by simp) ?_
                    refine AllReady.cons rfl (fun K hK => ?_) ?_
                    · go_simp
                      refine hK _ _ ?_
                      clear hK K
                      refine wpAny_ready (rs := [7]) (by kernel_rfl) (by simp) ?_
                      refine AllReady.cons rfl (fun K hK => ?_) ?_
                      · go_simp
                        refine hK _ _ ?_
                        clear hK K
                        refine wpAny_done (by kernel_rfl) ?_ _
                        go_wp2_with fail
                        go_meet
                        case rel => exact ⟨_, rfl, ReadW.fin1 HG.out hC6.out HMx.out Hhat.out HFs.out⟩
                      exact AllReady.nil
                    refine AllReady.cons rfl (fun K hK => ?_) ?_
                    · go_simp
                      refine hK _ _ ?_
                      clear hK K
                      refine wpAny_ready (rs := [6]) (by kernel_rfl) (by simp) ?_
                      refine AllReady.cons rfl (fun K hK => ?_) ?_
                      · go_simp
                        refine hK _ _ ?_
                        clear hK K
                        refine wpAny_done (by kernel_rfl) ?_ _
                        go_wp2_with fail
                        go_meet
                        case rel => exact ⟨_, rfl, ReadW.fin2 HG.out hC6.out HMx.out Hhat.out HFs.out⟩
                      exact AllReady.nil
                    exact AllReady.nil
                  refine AllReady.cons rfl (fun K hK => ?_) ?_
                  · go_simp
                    refine hK _ _ ?_
                    clear hK K
                    refine wpAny_ready (rs := [5]) (by kernel_rfl) (by simp) ?_
                    refine AllReady.cons rfl (fun K hK => ?_) ?_
                    · go_simp
                      refine hK _ _ ?_
                      clear hK K
                      refine wpAny_ready (rs := [6]) (by kernel_rfl) (by simp) ?_
                      refine AllReady.cons rfl (fun K hK => ?_) ?_
                      · go_simp
                        refine hK _ _ ?_
                        clear hK K
                        refine wpAny_done (by kernel_rfl) ?_ _
                        go_wp2_with fail
                        go_meet
                        case rel => exact ⟨_, rfl, ReadW.fin2 HG.out hC6.out HMx.out Hhat.out HFs.out⟩
                      exact AllReady.nil
                    exact AllReady.nil
                  exact AllReady.nil
                exact AllReady.nil
              exact AllReady.nil
            refine AllReady.cons rfl (fun K hK => ?_) ?_
            · go_simp
              refine hK _ _ ?_
              clear hK K
              refine wpAny_ready (rs := [1, 2]) (by kernel_rfl) (by simp) ?_
              refine AllReady.cons rfl (fun K hK => ?_) ?_
              · go_simp
                refine (Hcall.out _ (W0.below (((Below.refl _ _).alloc (Nat.le_refl _) _).drew))).mono ?_
                rintro e w6 ⟨kd, sq, nm, tx, xa, xn, xc, ka, kn, kc, rfl, H6, M6, F6⟩
                have c6 := H6.c
                have c6a := cell_al (x := .cells #[.int .i64 0, .int .i64 0, .string ⟨#[]⟩, .slice none 0 0, .string ⟨#[]⟩, .slice none 0 0] 25) H6.c
                refine hK _ _ ?_
                clear hK K
                refine wpAny_ready (rs := [2]) (by kernel_rfl) (by simp) ?_
                refine AllReady.cons rfl (fun K hK => ?_) ?_
                · go_simp
                  refine hK _ _ ?_
                  clear hK K
                  refine wpAny_ready (rs := [4]) (by kernel_rfl) (by simp) ?_
                  refine AllReady.cons rfl (fun K hK => ?_) AllReady.nil
                  refine step_append_lies _ (by rfl) _ _ _ (by rfl) (w.heap.size + 3) 25 i0 _ 6 96 Tryz.underlying23 hi0 hz0 hz1 hz2 rfl (by omega) (.slice g l.length cap) l.length C (by rfl) H6.row.1 ⟨_, 0, none⟩ 1 1 zero6L (by rfl) (by rfl) (news_kept F6 (by omega)) hone (by omega) h63 hbyt (by have := H6.size; omega) _ rfl ?_
                  intro gg cap6 w7 hown7 hgrow hat hlt7
                  refine hK _ _ ?_
                  have HG : Hid _ := ReadW.grow H6 hown7 hgrow (lies_at hat)
                  obtain ⟨⟨k0, k1, k2, k3, k4, k5⟩, f0, f1, f2, f3, f4, f5⟩ := row_tail hown7 hC6.out
                  obtain ⟨⟨l0, l1, l2, l3, l4, l5⟩, _⟩ := row_tail (owns_setC (i := 0) (u := .slice (some ⟨gg, 0, none⟩) (l.length + 1) cap6) hown7 (show w.heap.size < w.heap.size + 3 by omega)) hC6.out
                  have ng : w.heap.size ≠ gg := (by have hh : w.heap.size + 3 ≤ gg := (own_since hown7 rfl).1; omega)
                  have k6 := HG.out.c
                  have z6 := HG.out.z
                  have k7 := set6_cell (o := l.length * 6) (a0 := .int .i64 kd) (a1 := .int .i64 sq) (a2 := .string nm) (a3 := .slice xa xn xc) (a4 := .string tx) (a5 := .slice ka kn kc) k6 ng
                  have HMx : Hid (MadeX w7 (w.heap.size + 3) (s.size + 1) x (.agg #[.int .i64 kd, .int .i64 sq, .string nm, .slice xa xn xc, .string tx, .slice ka kn kc]) (wr.alloc (.cells #[.int .i64 0, .int .i64 0, .string ⟨#[]⟩, .slice none 0 0, .string ⟨#[]⟩, .slice none 0 0] 25)).drew.heap.size w6.heap.size) := MadeX.grown M6 hgrow (fun b hb => by have := hblk.out.1 b hb; simp; omega)
                  have Hhat : Hid (gg < (wr.alloc (.cells #[.int .i64 0, .int .i64 0, .string ⟨#[]⟩, .slice none 0 0, .string ⟨#[]⟩, .slice none 0 0] 25)).drew.heap.size ∨ w6.heap.size ≤ gg) := by
                    rcases hat with h | h
                    · left
                      have := hblk.out.1 gg h
                      simp
                      omega
                    · right
                      rw [h]
                      simp
                  have HFs : Hid (∀ i, i < l.length → ∀ b, Fs i b → b < (wr.alloc (.cells #[.int .i64 0, .int .i64 0, .string ⟨#[]⟩, .slice none 0 0, .string ⟨#[]⟩, .slice none 0 0] 25)).drew.heap.size) := fun i hi b hb => by
                    have := hblk.out.2 i hi b hb
                    simp
                    omega
                  clear hK K hown7 hgrow hat hlt7 H6 M6 F6 c6 c6a y0 y1 W0 B1 hone h63 hbyt n0 hi0 hz0 hz1 hz2 hmf ng
                  refine wpAny_ready (rs := [5, 7]) (by kernel_rfl) (by simp) ?_
                  refine AllReady.cons rfl (fun K hK => ?_) ?_
                  · go_simp
                    refine hK _ _ ?_
                    clear hK K
                    refine wpAny_ready (rs := [6, 7]) (by kernel_rfl) (by simp) ?_
                    refine AllReady.cons rfl (fun K hK => ?_) ?_
                    · go_simp
                      refine hK _ _ ?_
                      clear hK K
                      refine wpAny_ready (rs := [7]) (by kernel_rfl) (by simp) ?_
                      refine AllReady.cons rfl (fun K hK => ?_) ?_
                      · go_simp
                        refine hK _ _ ?_
                        clear hK K
                        refine wpAny_done (by kernel_rfl) ?_ _
                        go_wp2_with fail
                        go_meet
                        case rel => exact ⟨_, rfl, ReadW.fin1 HG.out hC6.out HMx.out Hhat.out HFs.out⟩
                      exact AllReady.nil
                    refine AllReady.cons rfl (fun K hK => ?_) ?_
                    · go_simp
                      refine hK _ _ ?_
                      clear hK K
                      refine wpAny_ready (rs := [6]) (by kernel_rfl) (by simp) ?_
                      refine AllReady.cons rfl (fun K hK => ?_) ?_
                      · go_simp
                        refine hK _ _ ?_
                        clear hK K
                        refine wpAny_done (by kernel_rfl) ?_ _
                        go_wp2_with fail
                        go_meet
                        case rel => exact ⟨_, rfl, ReadW.fin2 HG.out hC6.out HMx.out Hhat.out HFs.out⟩
                      exact AllReady.nil
                    exact AllReady.nil
                  refine AllReady.cons rfl (fun K hK => ?_) ?_
                  · go_simp
                    refine hK _ _ ?_
                    clear hK K
                    refine wpAny_ready (rs := [5]) (by kernel_rfl) (by simp) ?_
                    refine AllReady.cons rfl (fun K hK => ?_) ?_
                    · go_simp
                      refine hK _ _ ?_
                      clear hK K
                      refine wpAny_ready (rs := [6]) (by kernel_rfl) (by simp) ?_
                      refine AllReady.cons rfl (fun K hK => ?_) ?_
                      · go_simp
                        refine hK _ _ ?_
                        clear hK K
                        refine wpAny_done (by kernel_rfl) ?_ _
                        go_wp2_with fail
                        go_meet
                        case rel => exact ⟨_, rfl, ReadW.fin2 HG.out hC6.out HMx.out Hhat.out HFs.out⟩
                      exact AllReady.nil
                    exact AllReady.nil
                  exact AllReady.nil
                exact AllReady.nil
              refine AllReady.cons rfl (fun K hK => ?_) ?_
              · go_simp
                refine hK _ _ ?_
                clear hK K
                refine wpAny_ready (rs := [1]) (by kernel_rfl) (by simp) ?_
                refine AllReady.cons rfl (fun K hK => ?_) ?_
                · go_simp
                  refine (Hcall.out _ (W0.below (((Below.refl _ _).alloc (Nat.le_refl _) _).drew))).mono ?_
                  rintro e w6 ⟨kd, sq, nm, tx, xa, xn, xc, ka, kn, kc, rfl, H6, M6, F6⟩
                  have c6 := H6.c
                  have c6a := cell_al (x := .cells #[.int .i64 0, .int .i64 0, .string ⟨#[]⟩, .slice none 0 0, .string ⟨#[]⟩, .slice none 0 0] 25) H6.c
                  refine hK _ _ ?_
                  clear hK K
                  refine wpAny_ready (rs := [4]) (by kernel_rfl) (by simp) ?_
                  refine AllReady.cons rfl (fun K hK => ?_) AllReady.nil
                  refine step_append_lies _ (by rfl) _ _ _ (by rfl) (w.heap.size + 3) 25 i0 _ 6 96 Tryz.underlying23 hi0 hz0 hz1 hz2 rfl (by omega) (.slice g l.length cap) l.length C (by rfl) H6.row.1 ⟨_, 0, none⟩ 1 1 zero6L (by rfl) (by rfl) (news_kept F6 (by omega)) hone (by omega) h63 hbyt (by have := H6.size; omega) _ rfl ?_
                  intro gg cap6 w7 hown7 hgrow hat hlt7
                  refine hK _ _ ?_
                  have HG : Hid _ := ReadW.grow H6 hown7 hgrow (lies_at hat)
                  obtain ⟨⟨k0, k1, k2, k3, k4, k5⟩, f0, f1, f2, f3, f4, f5⟩ := row_tail hown7 hC6.out
                  obtain ⟨⟨l0, l1, l2, l3, l4, l5⟩, _⟩ := row_tail (owns_setC (i := 0) (u := .slice (some ⟨gg, 0, none⟩) (l.length + 1) cap6) hown7 (show w.heap.size < w.heap.size + 3 by omega)) hC6.out
                  have ng : w.heap.size ≠ gg := (by have hh : w.heap.size + 3 ≤ gg := (own_since hown7 rfl).1; omega)
                  have k6 := HG.out.c
                  have z6 := HG.out.z
                  have k7 := set6_cell (o := l.length * 6) (a0 := .int .i64 kd) (a1 := .int .i64 sq) (a2 := .string nm) (a3 := .slice xa xn xc) (a4 := .string tx) (a5 := .slice ka kn kc) k6 ng
                  have HMx : Hid (MadeX w7 (w.heap.size + 3) (s.size + 1) x (.agg #[.int .i64 kd, .int .i64 sq, .string nm, .slice xa xn xc, .string tx, .slice ka kn kc]) (wr.alloc (.cells #[.int .i64 0, .int .i64 0, .string ⟨#[]⟩, .slice none 0 0, .string ⟨#[]⟩, .slice none 0 0] 25)).drew.heap.size w6.heap.size) := MadeX.grown M6 hgrow (fun b hb => by have := hblk.out.1 b hb; simp; omega)
                  have Hhat : Hid (gg < (wr.alloc (.cells #[.int .i64 0, .int .i64 0, .string ⟨#[]⟩, .slice none 0 0, .string ⟨#[]⟩, .slice none 0 0] 25)).drew.heap.size ∨ w6.heap.size ≤ gg) := by
                    rcases hat with h | h
                    · left
                      have := hblk.out.1 gg h
                      simp
                      omega
                    · right
                      rw [h]
                      simp
                  have HFs : Hid (∀ i, i < l.length → ∀ b, Fs i b → b < (wr.alloc (.cells #[.int .i64 0, .int .i64 0, .string ⟨#[]⟩, .slice none 0 0, .string ⟨#[]⟩, .slice none 0 0] 25)).drew.heap.size) := fun i hi b hb => by
                    have := hblk.out.2 i hi b hb
                    simp
                    omega
                  clear hK K hown7 hgrow hat hlt7 H6 M6 F6 c6 c6a y0 y1 W0 B1 hone h63 hbyt n0 hi0 hz0 hz1 hz2 hmf ng
                  refine wpAny_ready (rs := [5, 7]) (by kernel_rfl) (by simp) ?_
                  refine AllReady.cons rfl (fun K hK => ?_) ?_
                  · go_simp
                    refine hK _ _ ?_
                    clear hK K
                    refine wpAny_ready (rs := [6, 7]) (by kernel_rfl) (by simp) ?_
                    refine AllReady.cons rfl (fun K hK => ?_) ?_
                    · go_simp
                      refine hK _ _ ?_
                      clear hK K
                      refine wpAny_ready (rs := [7]) (by kernel_rfl) (by simp) ?_
                      refine AllReady.cons rfl (fun K hK => ?_) ?_
                      · go_simp
                        refine hK _ _ ?_
                        clear hK K
                        refine wpAny_done (by kernel_rfl) ?_ _
                        go_wp2_with fail
                        go_meet
                        case rel => exact ⟨_, rfl, ReadW.fin1 HG.out hC6.out HMx.out Hhat.out HFs.out⟩
                      exact AllReady.nil
                    refine AllReady.cons rfl (fun K hK => ?_) ?_
                    · go_simp
                      refine hK _ _ ?_
                      clear hK K
                      refine wpAny_ready (rs := [6]) (by kernel_rfl) (by simp) ?_
                      refine AllReady.cons rfl (fun K hK => ?_) ?_
                      · go_simp
                        refine hK _ _ ?_
                        clear hK K
                        refine wpAny_done (by kernel_rfl) ?_ _
                        go_wp2_with fail
                        go_meet
                        case rel => exact ⟨_, rfl, ReadW.fin2 HG.out hC6.out HMx.out Hhat.out HFs.out⟩
                      exact AllReady.nil
                    exact AllReady.nil
                  refine AllReady.cons rfl (fun K hK => ?_) ?_
                  · go_simp
                    refine hK _ _ ?_
                    clear hK K
                    refine wpAny_ready (rs := [5]) (by kernel_rfl) (by simp) ?_
                    refine AllReady.cons rfl (fun K hK => ?_) ?_
                    · go_simp
                      refine hK _ _ ?_
                      clear hK K
                      refine wpAny_ready (rs := [6]) (by kernel_rfl) (by simp) ?_
                      refine AllReady.cons rfl (fun K hK => ?_) ?_
                      · go_simp
                        refine hK _ _ ?_
                        clear hK K
                        refine wpAny_done (by kernel_rfl) ?_ _
                        go_wp2_with fail
                        go_meet
                        case rel => exact ⟨_, rfl, ReadW.fin2 HG.out hC6.out HMx.out Hhat.out HFs.out⟩
                      exact AllReady.nil
                    exact AllReady.nil
                  exact AllReady.nil
                exact AllReady.nil
              exact AllReady.nil
            exact AllReady.nil
          refine AllReady.cons rfl (fun K hK => ?_) ?_
          · go_simp
            refine (Hcall.out _ (W0.below ((Below.refl _ _).drew))).mono ?_
            rintro e w6 ⟨kd, sq, nm, tx, xa, xn, xc, ka, kn, kc, rfl, H6, M6, F6⟩
            have c6 := H6.c
            have c6a := cell_al (x := .cells #[.int .i64 0, .int .i64 0, .string ⟨#[]⟩, .slice none 0 0, .string ⟨#[]⟩, .slice none 0 0] 25) H6.c
            refine hK _ _ ?_
            clear hK K
            refine wpAny_ready (rs := [0, 3]) (by kernel_rfl) (by simp) ?_
            refine AllReady.cons rfl (fun K hK => ?_) ?_
            · go_simp
              refine hK _ _ ?_
              clear hK K
              refine wpAny_ready (rs := [2, 3]) (by kernel_rfl) (by simp) ?_
              refine AllReady.cons rfl (fun K hK => ?_) ?_
              · go_simp
                refine hK _ _ ?_
                clear hK K
                refine wpAny_ready (rs := [3]) (by kernel_rfl) (by simp) ?_
                refine AllReady.cons rfl (fun K hK => ?_) ?_
                · go_simp
                  refine hK _ _ ?_
                  clear hK K
                  refine wpAny_ready (rs := [4]) (by kernel_rfl) (by simp) ?_
                  refine AllReady.cons rfl (fun K hK => ?_) AllReady.nil
                  refine step_append_lies _ (by rfl) _ _ _ (by rfl) (w.heap.size + 3) 25 i0 _ 6 96 Tryz.underlying23 hi0 hz0 hz1 hz2 rfl (by omega) (.slice g l.length cap) l.length C (by rfl) (H6.row.1.alloc _) ⟨_, 0, none⟩ 1 1 zero6L (by rfl) (by rfl) (World.news_of_block (cs := #[.int .i64 0, .int .i64 0, .string ⟨#[]⟩, .slice none 0 0, .string ⟨#[]⟩, .slice none 0 0]) (t := 25) (fr := (0, 0)) (heap_alloc_new w6 _)) hone (by omega) h63 hbyt (by have := H6.size; simp; omega) _ rfl ?_
                  intro gg cap6 w7 hown7 hgrow hat hlt7
                  refine hK _ _ ?_
                  have HG : Hid _ := ReadW.grow (H6.below ((Below.refl _ _).alloc (Nat.le_refl _) _)) hown7 hgrow (lies_at hat)
                  obtain ⟨⟨k0, k1, k2, k3, k4, k5⟩, f0, f1, f2, f3, f4, f5⟩ := row_tail hown7 hC6.out
                  obtain ⟨⟨l0, l1, l2, l3, l4, l5⟩, _⟩ := row_tail (owns_setC (i := 0) (u := .slice (some ⟨gg, 0, none⟩) (l.length + 1) cap6) hown7 (show w.heap.size < w.heap.size + 3 by omega)) hC6.out
                  have ng : w.heap.size ≠ gg := (by have hh : w.heap.size + 3 ≤ gg := (own_since hown7 rfl).1; omega)
                  have k6 := HG.out.c
                  have z6 := HG.out.z
                  have k7 := set6_cell (o := l.length * 6) (a0 := .int .i64 kd) (a1 := .int .i64 sq) (a2 := .string nm) (a3 := .slice xa xn xc) (a4 := .string tx) (a5 := .slice ka kn kc) k6 ng
                  have HMx : Hid (MadeX w7 (w.heap.size + 3) (s.size + 1) x (.agg #[.int .i64 kd, .int .i64 sq, .string nm, .slice xa xn xc, .string tx, .slice ka kn kc]) wr.drew.heap.size w6.heap.size) := MadeX.grown (M6.keep (by simp) (fun b _ h2 => (Below.heap_alloc w6 (.cells #[.int .i64 0, .int .i64 0, .string ⟨#[]⟩, .slice none 0 0, .string ⟨#[]⟩, .slice none 0 0] 25) b h2))) hgrow (fun b hb => by have := hblk.out.1 b hb; simp; omega)
                  have Hhat : Hid (gg < wr.drew.heap.size ∨ w6.heap.size ≤ gg) := by
                    rcases hat with h | h
                    · left
                      have := hblk.out.1 gg h
                      simp
                      omega
                    · right
                      rw [h]
                      simp
                  have HFs : Hid (∀ i, i < l.length → ∀ b, Fs i b → b < wr.drew.heap.size) := fun i hi b hb => by
                    have := hblk.out.2 i hi b hb
                    simp
                    omega
                  clear hK K hown7 hgrow hat hlt7 H6 M6 F6 c6 c6a y0 y1 W0 B1 hone h63 hbyt n0 hi0 hz0 hz1 hz2 hmf ng
                  refine wpAny_ready (rs := [5, 7]) (by kernel_rfl) (by simp) ?_
                  refine AllReady.cons rfl (fun K hK => ?_) ?_
                  · go_simp
                    refine hK _ _ ?_
                    clear hK K
                    refine wpAny_ready (rs := [6, 7]) (by kernel_rfl) (by simp) ?_
                    refine AllReady.cons rfl (fun K hK => ?_) ?_
                    · go_simp
                      refine hK _ _ ?_
                      clear hK K
                      refine wpAny_ready (rs := [7]) (by kernel_rfl) (by simp) ?_
                      refine AllReady.cons rfl (fun K hK => ?_) ?_
                      · go_simp
                        refine hK _ _ ?_
                        clear hK K
                        refine wpAny_done (by kernel_rfl) ?_ _
                        go_wp2_with fail
                        go_meet
                        case rel => exact ⟨_, rfl, ReadW.fin1 HG.out hC6.out HMx.out Hhat.out HFs.out⟩
                      exact AllReady.nil
                    refine AllReady.cons rfl (fun K hK => ?_) ?_
                    · go_simp
                      refine hK _ _ ?_
                      clear hK K
                      refine wpAny_ready (rs := [6]) (by kernel_rfl) (by simp) ?_
                      refine AllReady.cons rfl (fun K hK => ?_) ?_
                      · go_simp
                        refine hK _ _ ?_
                        clear hK K
                        refine wpAny_done (by kernel_rfl) ?_ _
                        go_wp2_with fail
                        go_meet
                        case rel => exact ⟨_, rfl, ReadW.fin2 HG.out hC6.out HMx.out Hhat.out HFs.out⟩
                      exact AllReady.nil
                    exact AllReady.nil
                  refine AllReady.cons rfl (fun K hK => ?_) ?_
                  · go_simp
                    refine hK _ _ ?_
                    clear hK K
                    refine wpAny_ready (rs := [5]) (by kernel_rfl) (by simp) ?_
                    refine AllReady.cons rfl (fun K hK => ?_) ?_
                    · go_simp
                      refine hK _ _ ?_
                      clear hK K
                      refine wpAny_ready (rs := [6]) (by kernel_rfl) (by simp) ?_
                      refine AllReady.cons rfl (fun K hK => ?_) ?_
                      · go_simp
                        refine hK _ _ ?_
                        clear hK K
                        refine wpAny_done (by kernel_rfl) ?_ _
                        go_wp2_with fail
                        go_meet
                        case rel => exact ⟨_, rfl, ReadW.fin2 HG.out hC6.out HMx.out Hhat.out HFs.out⟩
                      exact AllReady.nil
                    exact AllReady.nil
                  exact AllReady.nil
                exact AllReady.nil
              refine AllReady.cons rfl (fun K hK => ?_) ?_
              · go_simp
                refine hK _ _ ?_
                clear hK K
                refine wpAny_ready (rs := [2]) (by kernel_rfl) (by simp) ?_
                refine AllReady.cons rfl (fun K hK => ?_) ?_
                · go_simp
                  refine hK _ _ ?_
                  clear hK K
                  refine wpAny_ready (rs := [4]) (by kernel_rfl) (by simp) ?_
                  refine AllReady.cons rfl (fun K hK => ?_) AllReady.nil
                  refine step_append_lies _ (by rfl) _ _ _ (by rfl) (w.heap.size + 3) 25 i0 _ 6 96 Tryz.underlying23 hi0 hz0 hz1 hz2 rfl (by omega) (.slice g l.length cap) l.length C (by rfl) (H6.row.1.alloc _) ⟨_, 0, none⟩ 1 1 zero6L (by rfl) (by rfl) (World.news_of_block (cs := #[.int .i64 0, .int .i64 0, .string ⟨#[]⟩, .slice none 0 0, .string ⟨#[]⟩, .slice none 0 0]) (t := 25) (fr := (0, 0)) (heap_alloc_new w6 _)) hone (by omega) h63 hbyt (by have := H6.size; simp; omega) _ rfl ?_
                  intro gg cap6 w7 hown7 hgrow hat hlt7
                  refine hK _ _ ?_
                  have HG : Hid _ := ReadW.grow (H6.below ((Below.refl _ _).alloc (Nat.le_refl _) _)) hown7 hgrow (lies_at hat)
                  obtain ⟨⟨k0, k1, k2, k3, k4, k5⟩, f0, f1, f2, f3, f4, f5⟩ := row_tail hown7 hC6.out
                  obtain ⟨⟨l0, l1, l2, l3, l4, l5⟩, _⟩ := row_tail (owns_setC (i := 0) (u := .slice (some ⟨gg, 0, none⟩) (l.length + 1) cap6) hown7 (show w.heap.size < w.heap.size + 3 by omega)) hC6.out
                  have ng : w.heap.size ≠ gg := (by have hh : w.heap.size + 3 ≤ gg := (own_since hown7 rfl).1; omega)
                  have k6 := HG.out.c
                  have z6 := HG.out.z
                  have k7 := set6_cell (o := l.length * 6) (a0 := .int .i64 kd) (a1 := .int .i64 sq) (a2 := .string nm) (a3 := .slice xa xn xc) (a4 := .string tx) (a5 := .slice ka kn kc) k6 ng
                  have HMx : Hid (MadeX w7 (w.heap.size + 3) (s.size + 1) x (.agg #[.int .i64 kd, .int .i64 sq, .string nm, .slice xa xn xc, .string tx, .slice ka kn kc]) wr.drew.heap.size w6.heap.size) := MadeX.grown (M6.keep (by simp) (fun b _ h2 => (Below.heap_alloc w6 (.cells #[.int .i64 0, .int .i64 0, .string ⟨#[]⟩, .slice none 0 0, .string ⟨#[]⟩, .slice none 0 0] 25) b h2))) hgrow (fun b hb => by have := hblk.out.1 b hb; simp; omega)
                  have Hhat : Hid (gg < wr.drew.heap.size ∨ w6.heap.size ≤ gg) := by
                    rcases hat with h | h
                    · left
                      have := hblk.out.1 gg h
                      simp
                      omega
                    · right
                      rw [h]
                      simp
                  have HFs : Hid (∀ i, i < l.length → ∀ b, Fs i b → b < wr.drew.heap.size) := fun i hi b hb => by
                    have := hblk.out.2 i hi b hb
                    simp
                    omega
                  clear hK K hown7 hgrow hat hlt7 H6 M6 F6 c6 c6a y0 y1 W0 B1 hone h63 hbyt n0 hi0 hz0 hz1 hz2 hmf ng
                  refine wpAny_ready (rs := [5, 7]) (by kernel_rfl) (by simp) ?_
                  refine AllReady.cons rfl (fun K hK => ?_) ?_
                  · go_simp
                    refine hK _ _ ?_
                    clear hK K
                    refine wpAny_ready (rs := [6, 7]) (by kernel_rfl) (by simp) ?_
                    refine AllReady.cons rfl (fun K hK => ?_) ?_
                    · go_simp
                      refine hK _ _ ?_
                      clear hK K
                      refine wpAny_ready (rs := [7]) (by kernel_rfl) (by simp) ?_
                      refine AllReady.cons rfl (fun K hK => ?_) ?_
                      · go_simp
                        refine hK _ _ ?_
                        clear hK K
                        refine wpAny_done (by kernel_rfl) ?_ _
                        go_wp2_with fail
                        go_meet
                        case rel => exact ⟨_, rfl, ReadW.fin1 HG.out hC6.out HMx.out Hhat.out HFs.out⟩
                      exact AllReady.nil
                    refine AllReady.cons rfl (fun K hK => ?_) ?_
                    · go_simp
                      refine hK _ _ ?_
                      clear hK K
                      refine wpAny_ready (rs := [6]) (by kernel_rfl) (by simp) ?_
                      refine AllReady.cons rfl (fun K hK => ?_) ?_
                      · go_simp
                        refine hK _ _ ?_
                        clear hK K
                        refine wpAny_done (by kernel_rfl) ?_ _
                        go_wp2_with fail
                        go_meet
                        case rel => exact ⟨_, rfl, ReadW.fin2 HG.out hC6.out HMx.out Hhat.out HFs.out⟩
                      exact AllReady.nil
                    exact AllReady.nil
                  refine AllReady.cons rfl (fun K hK => ?_) ?_
                  · go_simp
                    refine hK _ _ ?_
                    clear hK K
                    refine wpAny_ready (rs := [5]) (by kernel_rfl) (by simp) ?_
                    refine AllReady.cons rfl (fun K hK => ?_) ?_
                    · go_simp
                      refine hK _ _ ?_
                      clear hK K
                      refine wpAny_ready (rs := [6]) (by kernel_rfl) (by simp) ?_
                      refine AllReady.cons rfl (fun K hK => ?_) ?_
                      · go_simp
                        refine hK _ _ ?_
                        clear hK K
                        refine wpAny_done (by kernel_rfl) ?_ _
                        go_wp2_with fail
                        go_meet
                        case rel => exact ⟨_, rfl, ReadW.fin2 HG.out hC6.out HMx.out Hhat.out HFs.out⟩
                      exact AllReady.nil
                    exact AllReady.nil
                  exact AllReady.nil
                exact AllReady.nil
              exact AllReady.nil
            refine AllReady.cons rfl (fun K hK => ?_) ?_
            · go_simp
              refine hK _ _ ?_
              clear hK K
              refine wpAny_ready (rs := [0]) (by kernel_rfl) (by simp) ?_
              refine AllReady.cons rfl (fun K hK => ?_) ?_
              · go_simp
                refine hK _ _ ?_
                clear hK K
                refine wpAny_ready (rs := [2]) (by kernel_rfl) (by simp) ?_
                refine AllReady.cons rfl (fun K hK => ?_) ?_
                · go_simp
                  refine hK _ _ ?_
                  clear hK K
                  refine wpAny_ready (rs := [4]) (by kernel_rfl) (by simp) ?_
                  refine AllReady.cons rfl (fun K hK => ?_) AllReady.nil
                  refine step_append_lies _ (by rfl) _ _ _ (by rfl) (w.heap.size + 3) 25 i0 _ 6 96 Tryz.underlying23 hi0 hz0 hz1 hz2 rfl (by omega) (.slice g l.length cap) l.length C (by rfl) (H6.row.1.alloc _) ⟨_, 0, none⟩ 1 1 zero6L (by rfl) (by rfl) (World.news_of_block (cs := #[.int .i64 0, .int .i64 0, .string ⟨#[]⟩, .slice none 0 0, .string ⟨#[]⟩, .slice none 0 0]) (t := 25) (fr := (0, 0)) (heap_alloc_new w6 _)) hone (by omega) h63 hbyt (by have := H6.size; simp; omega) _ rfl ?_
                  intro gg cap6 w7 hown7 hgrow hat hlt7
                  refine hK _ _ ?_
                  have HG : Hid _ := ReadW.grow (H6.below ((Below.refl _ _).alloc (Nat.le_refl _) _)) hown7 hgrow (lies_at hat)
                  obtain ⟨⟨k0, k1, k2, k3, k4, k5⟩, f0, f1, f2, f3, f4, f5⟩ := row_tail hown7 hC6.out
                  obtain ⟨⟨l0, l1, l2, l3, l4, l5⟩, _⟩ := row_tail (owns_setC (i := 0) (u := .slice (some ⟨gg, 0, none⟩) (l.length + 1) cap6) hown7 (show w.heap.size < w.heap.size + 3 by omega)) hC6.out
                  have ng : w.heap.size ≠ gg := (by have hh : w.heap.size + 3 ≤ gg := (own_since hown7 rfl).1; omega)
                  have k6 := HG.out.c
                  have z6 := HG.out.z
                  have k7 := set6_cell (o := l.length * 6) (a0 := .int .i64 kd) (a1 := .int .i64 sq) (a2 := .string nm) (a3 := .slice xa xn xc) (a4 := .string tx) (a5 := .slice ka kn kc) k6 ng
                  have HMx : Hid (MadeX w7 (w.heap.size + 3) (s.size + 1) x (.agg #[.int .i64 kd, .int .i64 sq, .string nm, .slice xa xn xc, .string tx, .slice ka kn kc]) wr.drew.heap.size w6.heap.size) := MadeX.grown (M6.keep (by simp) (fun b _ h2 => (Below.heap_alloc w6 (.cells #[.int .i64 0, .int .i64 0, .string ⟨#[]⟩, .slice none 0 0, .string ⟨#[]⟩, .slice none 0 0] 25) b h2))) hgrow (fun b hb => by have := hblk.out.1 b hb; simp; omega)
                  have Hhat : Hid (gg < wr.drew.heap.size ∨ w6.heap.size ≤ gg) := by
                    rcases hat with h | h
                    · left
                      have := hblk.out.1 gg h
                      simp
                      omega
                    · right
                      rw [h]
                      simp
                  have HFs : Hid (∀ i, i < l.length → ∀ b, Fs i b → b < wr.drew.heap.size) := fun i hi b hb => by
                    have := hblk.out.2 i hi b hb
                    simp
                    omega
                  clear hK K hown7 hgrow hat hlt7 H6 M6 F6 c6 c6a y0 y1 W0 B1 hone h63 hbyt n0 hi0 hz0 hz1 hz2 hmf ng
                  refine wpAny_ready (rs := [5, 7]) (by kernel_rfl) (by simp) ?_
                  refine AllReady.cons rfl (fun K hK => ?_) ?_
                  · go_simp
                    refine hK _ _ ?_
                    clear hK K
                    refine wpAny_ready (rs := [6, 7]) (by kernel_rfl) (by simp) ?_
                    refine AllReady.cons rfl (fun K hK => ?_) ?_
                    · go_simp
                      refine hK _ _ ?_
                      clear hK K
                      refine wpAny_ready (rs := [7]) (by kernel_rfl) (by simp) ?_
                      refine AllReady.cons rfl (fun K hK => ?_) ?_
                      · go_simp
                        refine hK _ _ ?_
                        clear hK K
                        refine wpAny_done (by kernel_rfl) ?_ _
                        go_wp2_with fail
                        go_meet
                        case rel => exact ⟨_, rfl, ReadW.fin1 HG.out hC6.out HMx.out Hhat.out HFs.out⟩
                      exact AllReady.nil
                    refine AllReady.cons rfl (fun K hK => ?_) ?_
                    · go_simp
                      refine hK _ _ ?_
                      clear hK K
                      refine wpAny_ready (rs := [6]) (by kernel_rfl) (by simp) ?_
                      refine AllReady.cons rfl (fun K hK => ?_) ?_
                      · go_simp
                        refine hK _ _ ?_
                        clear hK K
                        refine wpAny_done (by kernel_rfl) ?_ _
                        go_wp2_with fail
                        go_meet
                        case rel => exact ⟨_, rfl, ReadW.fin2 HG.out hC6.out HMx.out Hhat.out HFs.out⟩
                      exact AllReady.nil
                    exact AllReady.nil
                  refine AllReady.cons rfl (fun K hK => ?_) ?_
                  · go_simp
                    refine hK _ _ ?_
                    clear hK K
                    refine wpAny_ready (rs := [5]) (by kernel_rfl) (by simp) ?_
                    refine AllReady.cons rfl (fun K hK => ?_) ?_
                    · go_simp
                      refine hK _ _ ?_
                      clear hK K
                      refine wpAny_ready (rs := [6]) (by kernel_rfl) (by simp) ?_
                      refine AllReady.cons rfl (fun K hK => ?_) ?_
                      · go_simp
                        refine hK _ _ ?_
                        clear hK K
                        refine wpAny_done (by kernel_rfl) ?_ _
                        go_wp2_with fail
                        go_meet
                        case rel => exact ⟨_, rfl, ReadW.fin2 HG.out hC6.out HMx.out Hhat.out HFs.out⟩
                      exact AllReady.nil
                    exact AllReady.nil
                  exact AllReady.nil
                exact AllReady.nil
              exact AllReady.nil
            exact AllReady.nil
          refine AllReady.cons rfl (fun K hK => ?_) ?_
          · go_simp
            refine hK _ _ ?_
            clear hK K
            refine wpAny_ready (rs := [0, 1]) (by kernel_rfl) (by simp) ?_
            refine AllReady.cons rfl (fun K hK => ?_) ?_
            · go_simp
              refine hK _ _ ?_
              clear hK K
              refine wpAny_ready (rs := [1, 2]) (by kernel_rfl) (by simp) ?_
              refine AllReady.cons rfl (fun K hK => ?_) ?_
              · go_simp
                refine (Hcall.out _ (W0.below (((Below.refl _ _).alloc (Nat.le_refl _) _).drew))).mono ?_
                rintro e w6 ⟨kd, sq, nm, tx, xa, xn, xc, ka, kn, kc, rfl, H6, M6, F6⟩
                have c6 := H6.c
                have c6a := cell_al (x := .cells #[.int .i64 0, .int .i64 0, .string ⟨#[]⟩, .slice none 0 0, .string ⟨#[]⟩, .slice none 0 0] 25) H6.c
                refine hK _ _ ?_
                clear hK K
                refine wpAny_ready (rs := [2]) (by kernel_rfl) (by simp) ?_
                refine AllReady.cons rfl (fun K hK => ?_) ?_
                · go_simp
                  refine hK _ _ ?_
                  clear hK K
                  refine wpAny_ready (rs := [4]) (by kernel_rfl) (by simp) ?_
                  refine AllReady.cons rfl (fun K hK => ?_) AllReady.nil
                  refine step_append_lies _ (by rfl) _ _ _ (by rfl) (w.heap.size + 3) 25 i0 _ 6 96 Tryz.underlying23 hi0 hz0 hz1 hz2 rfl (by omega) (.slice g l.length cap) l.length C (by rfl) H6.row.1 ⟨_, 0, none⟩ 1 1 zero6L (by rfl) (by rfl) (news_kept F6 (by omega)) hone (by omega) h63 hbyt (by have := H6.size; omega) _ rfl ?_
                  intro gg cap6 w7 hown7 hgrow hat hlt7
                  refine hK _ _ ?_
                  have HG : Hid _ := ReadW.grow H6 hown7 hgrow (lies_at hat)
                  obtain ⟨⟨k0, k1, k2, k3, k4, k5⟩, f0, f1, f2, f3, f4, f5⟩ := row_tail hown7 hC6.out
                  obtain ⟨⟨l0, l1, l2, l3, l4, l5⟩, _⟩ := row_tail (owns_setC (i := 0) (u := .slice (some ⟨gg, 0, none⟩) (l.length + 1) cap6) hown7 (show w.heap.size < w.heap.size + 3 by omega)) hC6.out
                  have ng : w.heap.size ≠ gg := (by have hh : w.heap.size + 3 ≤ gg := (own_since hown7 rfl).1; omega)
                  have k6 := HG.out.c
                  have z6 := HG.out.z
                  have k7 := set6_cell (o := l.length * 6) (a0 := .int .i64 kd) (a1 := .int .i64 sq) (a2 := .string nm) (a3 := .slice xa xn xc) (a4 := .string tx) (a5 := .slice ka kn kc) k6 ng
                  have HMx : Hid (MadeX w7 (w.heap.size + 3) (s.size + 1) x (.agg #[.int .i64 kd, .int .i64 sq, .string nm, .slice xa xn xc, .string tx, .slice ka kn kc]) (wr.alloc (.cells #[.int .i64 0, .int .i64 0, .string ⟨#[]⟩, .slice none 0 0, .string ⟨#[]⟩, .slice none 0 0] 25)).drew.heap.size w6.heap.size) := MadeX.grown M6 hgrow (fun b hb => by have := hblk.out.1 b hb; simp; omega)
                  have Hhat : Hid (gg < (wr.alloc (.cells #[.int .i64 0, .int .i64 0, .string ⟨#[]⟩, .slice none 0 0, .string ⟨#[]⟩, .slice none 0 0] 25)).drew.heap.size ∨ w6.heap.size ≤ gg) := by
                    rcases hat with h | h
                    · left
                      have := hblk.out.1 gg h
                      simp
                      omega
                    · right
                      rw [h]
                      simp
                  have HFs : Hid (∀ i, i < l.length → ∀ b, Fs i b → b < (wr.alloc (.cells #[.int .i64 0, .int .i64 0, .string ⟨#[]⟩, .slice none 0 0, .string ⟨#[]⟩, .slice none 0 0] 25)).drew.heap.size) := fun i hi b hb => by
                    have := hblk.out.2 i hi b hb
                    simp
                    omega
                  clear hK K hown7 hgrow hat hlt7 H6 M6 F6 c6 c6a y0 y1 W0 B1 hone h63 hbyt n0 hi0 hz0 hz1 hz2 hmf ng
                  refine wpAny_ready (rs := [5, 7]) (by kernel_rfl) (by simp) ?_
                  refine AllReady.cons rfl (fun K hK => ?_) ?_
                  · go_simp
                    refine hK _ _ ?_
                    clear hK K
                    refine wpAny_ready (rs := [6, 7]) (by kernel_rfl) (by simp) ?_
                    refine AllReady.cons rfl (fun K hK => ?_) ?_
                    · go_simp
                      refine hK _ _ ?_
                      clear hK K
                      refine wpAny_ready (rs := [7]) (by kernel_rfl) (by simp) ?_
                      refine AllReady.cons rfl (fun K hK => ?_) ?_
                      · go_simp
                        refine hK _ _ ?_
                        clear hK K
                        refine wpAny_done (by kernel_rfl) ?_ _
                        go_wp2_with fail
                        go_meet
                        case rel => exact ⟨_, rfl, ReadW.fin1 HG.out hC6.out HMx.out Hhat.out HFs.out⟩
                      exact AllReady.nil
                    refine AllReady.cons rfl (fun K hK => ?_) ?_
                    · go_simp
                      refine hK _ _ ?_
                      clear hK K
                      refine wpAny_ready (rs := [6]) (by kernel_rfl) (by simp) ?_
                      refine AllReady.cons rfl (fun K hK => ?_) ?_
                      · go_simp
                        refine hK _ _ ?_
                        clear hK K
                        refine wpAny_done (by kernel_rfl) ?_ _
                        go_wp2_with fail
                        go_meet
                        case rel => exact ⟨_, rfl, ReadW.fin2 HG.out hC6.out HMx.out Hhat.out HFs.out⟩
                      exact AllReady.nil
                    exact AllReady.nil
                  refine AllReady.cons rfl (fun K hK => ?_) ?_
                  · go_simp
                    refine hK _ _ ?_
                    clear hK K
                    refine wpAny_ready (rs := [5]) (by kernel_rfl) (by simp) ?_
                    refine AllReady.cons rfl (fun K hK => ?_) ?_
                    · go_simp
                      refine hK _ _ ?_
                      clear hK K
                      refine wpAny_ready (rs := [6]) (by kernel_rfl) (by simp) ?_
                      refine AllReady.cons rfl (fun K hK => ?_) ?_
                      · go_simp
                        refine hK _ _ ?_
                        clear hK K
                        refine wpAny_done (by kernel_rfl) ?_ _
                        go_wp2_with fail
                        go_meet
                        case rel => exact ⟨_, rfl, ReadW.fin2 HG.out hC6.out HMx.out Hhat.out HFs.out⟩
                      exact AllReady.nil
                    exact AllReady.nil
                  exact AllReady.nil
                exact AllReady.nil
              refine AllReady.cons rfl (fun K hK => ?_) ?_
              · go_simp
                refine hK _ _ ?_
                clear hK K
                refine wpAny_ready (rs := [1]) (by kernel_rfl) (by simp) ?_
                refine AllReady.cons rfl (fun K hK => ?_) ?_
                · go_simp
                  refine (Hcall.out _ (W0.below (((Below.refl _ _).alloc (Nat.le_refl _) _).drew))).mono ?_
                  rintro e w6 ⟨kd, sq, nm, tx, xa, xn, xc, ka, kn, kc, rfl, H6, M6, F6⟩
                  have c6 := H6.c
                  have c6a := cell_al (x := .cells #[.int .i64 0, .int .i64 0, .string ⟨#[]⟩, .slice none 0 0, .string ⟨#[]⟩, .slice none 0 0] 25) H6.c
                  refine hK _ _ ?_
                  clear hK K
                  refine wpAny_ready (rs := [4]) (by kernel_rfl) (by simp) ?_
                  refine AllReady.cons rfl (fun K hK => ?_) AllReady.nil
                  refine step_append_lies _ (by rfl) _ _ _ (by rfl) (w.heap.size + 3) 25 i0 _ 6 96 Tryz.underlying23 hi0 hz0 hz1 hz2 rfl (by omega) (.slice g l.length cap) l.length C (by rfl) H6.row.1 ⟨_, 0, none⟩ 1 1 zero6L (by rfl) (by rfl) (news_kept F6 (by omega)) hone (by omega) h63 hbyt (by have := H6.size; omega) _ rfl ?_
                  intro gg cap6 w7 hown7 hgrow hat hlt7
                  refine hK _ _ ?_
                  have HG : Hid _ := ReadW.grow H6 hown7 hgrow (lies_at hat)
                  obtain ⟨⟨k0, k1, k2, k3, k4, k5⟩, f0, f1, f2, f3, f4, f5⟩ := row_tail hown7 hC6.out
                  obtain ⟨⟨l0, l1, l2, l3, l4, l5⟩, _⟩ := row_tail (owns_setC (i := 0) (u := .slice (some ⟨gg, 0, none⟩) (l.length + 1) cap6) hown7 (show w.heap.size < w.heap.size + 3 by omega)) hC6.out
                  have ng : w.heap.size ≠ gg := (by have hh : w.heap.size + 3 ≤ gg := (own_since hown7 rfl).1; omega)
                  have k6 := HG.out.c
                  have z6 := HG.out.z
                  have k7 := set6_cell (o := l.length * 6) (a0 := .int .i64 kd) (a1 := .int .i64 sq) (a2 := .string nm) (a3 := .slice xa xn xc) (a4 := .string tx) (a5 := .slice ka kn kc) k6 ng
                  have HMx : Hid (MadeX w7 (w.heap.size + 3) (s.size + 1) x (.agg #[.int .i64 kd, .int .i64 sq, .string nm, .slice xa xn xc, .string tx, .slice ka kn kc]) (wr.alloc (.cells #[.int .i64 0, .int .i64 0, .string ⟨#[]⟩, .slice none 0 0, .string ⟨#[]⟩, .slice none 0 0] 25)).drew.heap.size w6.heap.size) := MadeX.grown M6 hgrow (fun b hb => by have := hblk.out.1 b hb; simp; omega)
                  have Hhat : Hid (gg < (wr.alloc (.cells #[.int .i64 0, .int .i64 0, .string ⟨#[]⟩, .slice none 0 0, .string ⟨#[]⟩, .slice none 0 0] 25)).drew.heap.size ∨ w6.heap.size ≤ gg) := by
                    rcases hat with h | h
                    · left
                      have := hblk.out.1 gg h
                      simp
                      omega
                    · right
                      rw [h]
                      simp
                  have HFs : Hid (∀ i, i < l.length → ∀ b, Fs i b → b < (wr.alloc (.cells #[.int .i64 0, .int .i64 0, .string ⟨#[]⟩, .slice none 0 0, .string ⟨#[]⟩, .slice none 0 0] 25)).drew.heap.size) := fun i hi b hb => by
                    have := hblk.out.2 i hi b hb
                    simp
                    omega
                  clear hK K hown7 hgrow hat hlt7 H6 M6 F6 c6 c6a y0 y1 W0 B1 hone h63 hbyt n0 hi0 hz0 hz1 hz2 hmf ng
                  refine wpAny_ready (rs := [5, 7]) (by kernel_rfl) (by simp) ?_
                  refine AllReady.cons rfl (fun K hK => ?_) ?_
                  · go_simp
                    refine hK _ _ ?_
                    clear hK K
                    refine wpAny_ready (rs := [6, 7]) (by kernel_rfl) (by simp) ?_
                    refine AllReady.cons rfl (fun K hK => ?_) ?_
                    · go_simp
                      refine hK _ _ ?_
                      clear hK K
                      refine wpAny_ready (rs := [7]) (by kernel_rfl) (by simp) ?_
                      refine AllReady.cons rfl (fun K hK => ?_) ?_
                      · go_simp
                        refine hK _ _ ?_
                        clear hK K
                        refine wpAny_done (by kernel_rfl) ?_ _
                        go_wp2_with fail
                        go_meet
                        case rel => exact ⟨_, rfl, ReadW.fin1 HG.out hC6.out HMx.out Hhat.out HFs.out⟩
                      exact AllReady.nil
                    refine AllReady.cons rfl (fun K hK => ?_) ?_
                    · go_simp
                      refine hK _ _ ?_
                      clear hK K
                      refine wpAny_ready (rs := [6]) (by kernel_rfl) (by simp) ?_
                      refine AllReady.cons rfl (fun K hK => ?_) ?_
                      · go_simp
                        refine hK _ _ ?_
                        clear hK K
                        refine wpAny_done (by kernel_rfl) ?_ _
                        go_wp2_with fail
                        go_meet
                        case rel => exact ⟨_, rfl, ReadW.fin2 HG.out hC6.out HMx.out Hhat.out HFs.out⟩
                      exact AllReady.nil
                    exact AllReady.nil
                  refine AllReady.cons rfl (fun K hK => ?_) ?_
                  · go_simp
                    refine hK _ _ ?_
                    clear hK K
                    refine wpAny_ready (rs := [5]) (by kernel_rfl) (by simp) ?_
                    refine AllReady.cons rfl (fun K hK => ?_) ?_
                    · go_simp
                      refine hK _ _ ?_
                      clear hK K
                      refine wpAny_ready (rs := [6]) (by kernel_rfl) (by simp) ?_
                      refine AllReady.cons rfl (fun K hK => ?_) ?_
                      · go_simp
                        refine hK _ _ ?_
                        clear hK K
                        refine wpAny_done (by kernel_rfl) ?_ _
                        go_wp2_with fail
                        go_meet
                        case rel => exact ⟨_, rfl, ReadW.fin2 HG.out hC6.out HMx.out Hhat.out HFs.out⟩
                      exact AllReady.nil
                    exact AllReady.nil
                  exact AllReady.nil
                exact AllReady.nil
              exact AllReady.nil
            refine AllReady.cons rfl (fun K hK => ?_) ?_
            · go_simp
              refine (Hcall.out _ (W0.below (((Below.refl _ _).alloc (Nat.le_refl _) _).drew))).mono ?_
              rintro e w6 ⟨kd, sq, nm, tx, xa, xn, xc, ka, kn, kc, rfl, H6, M6, F6⟩
              have c6 := H6.c
              have c6a := cell_al (x := .cells #[.int .i64 0, .int .i64 0, .string ⟨#[]⟩, .slice none 0 0, .string ⟨#[]⟩, .slice none 0 0] 25) H6.c
              refine hK _ _ ?_
              clear hK K
              refine wpAny_ready (rs := [0]) (by kernel_rfl) (by simp) ?_
              refine AllReady.cons rfl (fun K hK => ?_) ?_
              · go_simp
                refine hK _ _ ?_
                clear hK K
                refine wpAny_ready (rs := [2]) (by kernel_rfl) (by simp) ?_
                refine AllReady.cons rfl (fun K hK => ?_) ?_
                · go_simp
                  refine hK _ _ ?_
                  clear hK K
                  refine wpAny_ready (rs := [4]) (by kernel_rfl) (by simp) ?_
                  refine AllReady.cons rfl (fun K hK => ?_) AllReady.nil
                  refine step_append_lies _ (by rfl) _ _ _ (by rfl) (w.heap.size + 3) 25 i0 _ 6 96 Tryz.underlying23 hi0 hz0 hz1 hz2 rfl (by omega) (.slice g l.length cap) l.length C (by rfl) H6.row.1 ⟨_, 0, none⟩ 1 1 zero6L (by rfl) (by rfl) (news_kept F6 (by omega)) hone (by omega) h63 hbyt (by have := H6.size; omega) _ rfl ?_
                  intro gg cap6 w7 hown7 hgrow hat hlt7
                  refine hK _ _ ?_
                  have HG : Hid _ := ReadW.grow H6 hown7 hgrow (lies_at hat)
                  obtain ⟨⟨k0, k1, k2, k3, k4, k5⟩, f0, f1, f2, f3, f4, f5⟩ := row_tail hown7 hC6.out
                  obtain ⟨⟨l0, l1, l2, l3, l4, l5⟩, _⟩ := row_tail (owns_setC (i := 0) (u := .slice (some ⟨gg, 0, none⟩) (l.length + 1) cap6) hown7 (show w.heap.size < w.heap.size + 3 by omega)) hC6.out
                  have ng : w.heap.size ≠ gg := (by have hh : w.heap.size + 3 ≤ gg := (own_since hown7 rfl).1; omega)
                  have k6 := HG.out.c
                  have z6 := HG.out.z
                  have k7 := set6_cell (o := l.length * 6) (a0 := .int .i64 kd) (a1 := .int .i64 sq) (a2 := .string nm) (a3 := .slice xa xn xc) (a4 := .string tx) (a5 := .slice ka kn kc) k6 ng
                  have HMx : Hid (MadeX w7 (w.heap.size + 3) (s.size + 1) x (.agg #[.int .i64 kd, .int .i64 sq, .string nm, .slice xa xn xc, .string tx, .slice ka kn kc]) (wr.alloc (.cells #[.int .i64 0, .int .i64 0, .string ⟨#[]⟩, .slice none 0 0, .string ⟨#[]⟩, .slice none 0 0] 25)).drew.heap.size w6.heap.size) := MadeX.grown M6 hgrow (fun b hb => by have := hblk.out.1 b hb; simp; omega)
                  have Hhat : Hid (gg < (wr.alloc (.cells #[.int .i64 0, .int .i64 0, .string ⟨#[]⟩, .slice none 0 0, .string ⟨#[]⟩, .slice none 0 0] 25)).drew.heap.size ∨ w6.heap.size ≤ gg) := by
                    rcases hat with h | h
                    · left
                      have := hblk.out.1 gg h
                      simp
                      omega
                    · right
                      rw [h]
                      simp
                  have HFs : Hid (∀ i, i < l.length → ∀ b, Fs i b → b < (wr.alloc (.cells #[.int .i64 0, .int .i64 0, .string ⟨#[]⟩, .slice none 0 0, .string ⟨#[]⟩, .slice none 0 0] 25)).drew.heap.size) := fun i hi b hb => by
                    have := hblk.out.2 i hi b hb
                    simp
                    omega
                  clear hK K hown7 hgrow hat hlt7 H6 M6 F6 c6 c6a y0 y1 W0 B1 hone h63 hbyt n0 hi0 hz0 hz1 hz2 hmf ng
                  refine wpAny_ready (rs := [5, 7]) (by kernel_rfl) (by simp) ?_
                  refine AllReady.cons rfl (fun K hK => ?_) ?_
                  · go_simp
                    refine hK _ _ ?_
                    clear hK K
                    refine wpAny_ready (rs := [6, 7]) (by kernel_rfl) (by simp) ?_
                    refine AllReady.cons rfl (fun K hK => ?_) ?_
                    · go_simp
                      refine hK _ _ ?_
                      clear hK K
                      refine wpAny_ready (rs := [7]) (by kernel_rfl) (by simp) ?_
                      refine AllReady.cons rfl (fun K hK => ?_) ?_
                      · go_simp
                        refine hK _ _ ?_
                        clear hK K
                        refine wpAny_done (by kernel_rfl) ?_ _
                        go_wp2_with fail
                        go_meet
                        case rel => exact ⟨_, rfl, ReadW.fin1 HG.out hC6.out HMx.out Hhat.out HFs.out⟩
                      exact AllReady.nil
                    refine AllReady.cons rfl (fun K hK => ?_) ?_
                    · go_simp
                      refine hK _ _ ?_
                      clear hK K
                      refine wpAny_ready (rs := [6]) (by kernel_rfl) (by simp) ?_
                      refine AllReady.cons rfl (fun K hK => ?_) ?_
                      · go_simp
                        refine hK _ _ ?_
                        clear hK K
                        refine wpAny_done (by kernel_rfl) ?_ _
                        go_wp2_with fail
                        go_meet
                        case rel => exact ⟨_, rfl, ReadW.fin2 HG.out hC6.out HMx.out Hhat.out HFs.out⟩
                      exact AllReady.nil
                    exact AllReady.nil
                  refine AllReady.cons rfl (fun K hK => ?_) ?_
                  · go_simp
                    refine hK _ _ ?_
                    clear hK K
                    refine wpAny_ready (rs := [5]) (by kernel_rfl) (by simp) ?_
                    refine AllReady.cons rfl (fun K hK => ?_) ?_
                    · go_simp
                      refine hK _ _ ?_
                      clear hK K
                      refine wpAny_ready (rs := [6]) (by kernel_rfl) (by simp) ?_
                      refine AllReady.cons rfl (fun K hK => ?_) ?_
                      · go_simp
                        refine hK _ _ ?_
                        clear hK K
                        refine wpAny_done (by kernel_rfl) ?_ _
                        go_wp2_with fail
                        go_meet
                        case rel => exact ⟨_, rfl, ReadW.fin2 HG.out hC6.out HMx.out Hhat.out HFs.out⟩
                      exact AllReady.nil
                    exact AllReady.nil
                  exact AllReady.nil
                exact AllReady.nil
              exact AllReady.nil
            exact AllReady.nil
          exact AllReady.nil

        case rest =>
          obtain ⟨w9, rfl, v', C', Fs', HW9⟩ := hcut
          have HW9h : Hid (ReadW s (s.size + 1) w w9 m v' (l ++ [x]) v' C' Fs') := HW9
          clear Hcall HW9 y0 y1 W0 B1 hblk hC6 i1 i2 hone h63 hbyt n0 c1
          cases hnl : standsB s m nlS
          · have HN := want_no a (w.heap.size + 2) s nlS m w9 (HW9h.out.rq HXw.out) hm.2.1 hnl
            have hno : readR s = none := by
              have hn : R = none := by
                rw [← HR.out, hst]
                simp [hnl]
              rw [HP.out, hn]
            unfold nlS at HN
            go_wp2_with fail
            refine HN.mono ?_
            rintro e w10 ⟨rfl, F10⟩
            have HS : Hid (FaceR w w10 v') := HW9h.out.faceFr F10
            clear HN HW9h F10
            go_wp2_with fail
            refine leaves_cons (f := 32) (args := #[.pointer (some ⟨w.heap.size, 0, none⟩), .pointer (some ⟨w.heap.size + 1, 0, none⟩)]) (by simp) (by simp [go_sem]) ?_
            refine (rdFace_panics w.heap.size (w.heap.size + 1) _ _ a [] _ HS.out.c HS.out.z HS.out.c1 HS.out.z1 (by omega)).mono ?_
            rintro e u' w'' ⟨rfl, rfl, rfl⟩
            have HD := HS.out.done
            have t0 := HD.c
            have t1 := HD.c1
            have HB : Hid (Below w.heap.size w _) := HD.b
            clear HD HS
            simp [Leaves, settle, results, Tryz.results12, go_sem, t0, t1]
            exact read_no hno HB.out
          · have hnl1 := stands_le hnl
            have u1 : nlS.size = 1 := rfl
            rw [u1] at hnl1
            have HY := want_yes a (w.heap.size + 2) s nlS m w9 (HW9h.out.rq HXw.out) hm.2.1 (by omega) (by rw [u1]; omega) hnl
            rw [u1] at HY
            unfold nlS at HY
            have HRn : Hid ((docQ s (fun q => elQ s (s.size + 1) 60 q (-1)) f' (m + 1)).map (fun r => (l ++ [x]) ++ r) = R) := by
              show _ = _
              rw [← HR.out, hst]
              simp [hnl]
              cases docQ s (fun q => elQ s (s.size + 1) 60 q (-1)) f' (m + 1) <;> simp
            have hl1 : (l ++ [x]).length = l.length + 1 := by simp
            go_wp2_with fail
            refine HY.mono ?_
            rintro e w10 ⟨rfl, R10, F10⟩
            have HW10 : Hid (ReadW s (s.size + 1) w w10 (m + 1) v' (l ++ [x]) v' C' Fs') := HW9h.out.fr F10 R10.1
            clear HY HW9h R10 F10
            go_wp2_with fail
            go_roundw
            case rel => exact ⟨l ++ [x], f', m + 1, v', C', Fs', by omega, by omega, by omega, by rw [hl1]; omega, HRn, HW10⟩
            case measure =>
              rw [rqLeft_at HW10.out.q, HM.out]
              omega
    · have g0 : decide ((j : Int) < (s.size : Int)) = false := decide_eq_false (by omega)
      have HRe : Hid (R = some l) := by
        show _ = _
        rw [← HR.out, docQ, if_pos hlt]
        simp
      have hsl := Hsize.out l HRe.out
      obtain ⟨ka, kc, ev, hk⟩ := OwnS.kids _ HQ.out.row.own
      subst ev
      have hXr := HXw.out.below HQ.out.b
      have HD := implDocOk l (w.heap.size + 3) ka kc wr hk.qa (els_small l (by omega)) (by have := elsN_le l; omega) ⟨hXr.1.1, hXr.2⟩
      have y0 := HQ.out.c
      clear Hsize HM HR hk hXr
      cases hd : docF 0 0 l
      · rw [hd] at HD
        have hno : readR s = none := by rw [HP.out, HRe.out]; simp [hd]
        go_wp2_with fail
        refine HD.mono ?_
        rintro e w6 ⟨rfl, b6⟩
        have HS : Hid (FaceR w w6 _) := (HQ.out.below b6).face
        have hE := (HXw.out.below HS.out.b).1.2
        clear HD HQ b6 y0 c1
        go_wp2_with fail
        refine (must_no a _ hE).mono ?_
        rintro e w7 ⟨rfl, rfl⟩
        go_wp2_with fail
        refine leaves_cons (f := 32) (args := #[.pointer (some ⟨w.heap.size, 0, none⟩), .pointer (some ⟨w.heap.size + 1, 0, none⟩)]) (by simp) (by simp [go_sem]) ?_
        refine (rdFace_panics w.heap.size (w.heap.size + 1) _ _ a [] _ HS.out.c HS.out.z HS.out.c1 HS.out.z1 (by omega)).mono ?_
        rintro e u' w'' ⟨rfl, rfl, rfl⟩
        have HD := HS.out.done
        have t0 := HD.c
        have t1 := HD.c1
        have HB : Hid (Below w.heap.size w _) := HD.b
        clear HD HS
        simp [Leaves, settle, results, Tryz.results12, go_sem, t0, t1]
        exact read_no hno HB.out
      · rw [hd] at HD
        have hyes : readR s = some l := by rw [HP.out, HRe.out]; simp [hd]
        go_wp2_with fail
        refine HD.mono ?_
        rintro e w6 ⟨rfl, b6⟩
        have HW6 : Hid (ReadW s (s.size + 1) w w6 j _ l _ C Fs) := HQ.out.below b6
        clear HD HQ b6 y0 c1 HP HRe
        go_wp2_with fail
        refine (must_yes _).mono ?_
        rintro e w6 ⟨rfl, rfl⟩
        have y0 := HW6.out.c
        have z0 := HW6.out.z
        have y1 := HW6.out.c1
        have z1 := HW6.out.z1
        have HP6 := HW6.out.put (.slice ka l.length kc)
        have y2 := HP6.c1
        have t0 : ((w6.setCell ⟨w.heap.size, 0, none⟩ (.slice ka l.length kc)).setCell ⟨w.heap.size + 1, 0, none⟩ (.bool true)).cell? ⟨w.heap.size, 0, none⟩ = some (.slice ka l.length kc) := (World.cell?_setCell_other _ _ _ _ (fun e => absurd (congrArg Addr.block e) (by show w.heap.size + 1 ≠ w.heap.size; omega))).trans HP6.c
        have t1 : ((w6.setCell ⟨w.heap.size, 0, none⟩ (.slice ka l.length kc)).setCell ⟨w.heap.size + 1, 0, none⟩ (.bool true)).cell? ⟨w.heap.size + 1, 0, none⟩ = some (.bool true) := World.cell?_setCell_same _ _ _ HP6.c1
        have HR : Hid _ := read_yes hyes (HP6.b.setCell (Nat.le_succ _) (.bool true)) (show w.heap.size ≤ w.heap.size + 3 by omega) ((HP6.row.set (i := 0) (u := .bool true) (show w.heap.size + 1 < w.heap.size + 3 by omega)).own) (fun _ h => h.1)
        clear HW6 HP6
        go_wp2_with fail
        refine leaves_cons (f := 32) (args := #[.pointer (some ⟨w.heap.size, 0, none⟩), .pointer (some ⟨w.heap.size + 1, 0, none⟩)]) (by simp) (by simp [go_sem]) ?_
        refine (rdFace_returns w.heap.size (w.heap.size + 1) _).mono ?_
        rintro e u' w'' ⟨rfl, rfl, rfl⟩
        simp [Leaves, settle, results, Tryz.results12, go_sem, t0, t1]
        exact HR.out

end Go.Proofs.YtbmmghkieolpkaaGreatDoor.Sg

namespace Go.Proofs.YtbmmghkieolpkaaGreatDoor.Sg
open Go.ChangeShapes Go.WideShapes Go.ChangeAt Go.RowKit

/-- What Well and Again tell. -/
def wellB (s : ByteArray) : Bool := (readR s).isSome
def againS (s : ByteArray) : ByteArray := match readR s with | none => ⟨#[]⟩ | some l => writeB l

set_option maxHeartbeats 1000000 in
theorem specWell (s : ByteArray) (w : World) (hs : s.size ≤ 1073741824) :
    Calls Tryz.prog 16 #[.string s] w fun r w' => r = .returned (.bool (wellB s)) ∧ Below w.heap.size w w' := by
  have HC := specRead s w hs
  go_enter Tryz.func16, Tryz.ntmps16
  go_wp2_with fail
  refine HC.mono ?_
  rintro r w1 ⟨b1, ⟨l, g, c, hR, rfl, _⟩ | ⟨hR, g, rfl⟩⟩
  · have Hn : Hid (true = wellB s) := by show _ = _; unfold wellB; rw [hR]; rfl
    clear HC
    go_wp2_with fail
    go_ret
    exact ⟨ret_st Hn.out, b1⟩
  · have Hn : Hid (false = wellB s) := by show _ = _; unfold wellB; rw [hR]; rfl
    clear HC
    go_wp2_with fail
    go_ret
    exact ⟨ret_st Hn.out, b1⟩


end Go.Proofs.YtbmmghkieolpkaaGreatDoor.Sg

namespace Go.Proofs.YtbmmghkieolpkaaGreatDoor.Sg
open Go.ChangeShapes Go.WideShapes Go.ChangeAt Go.RowKit

set_option maxHeartbeats 1000000 in
theorem implWell (s : ByteArray) (a : Addr) (w : World) (hs : s.size ≤ 1048576) (hX : PcX a w) :
    Calls Tryz.prog 17 #[.string s] w fun e w' => e = .returned (.bool (wellB s)) ∧ Below w.heap.size w w' := by
  have HR := implRead s a w hs hX
  go_enter Tryz.func17, Tryz.ntmps17
  go_wp2_with fail
  refine HR.mono ?_
  rintro r w1 ⟨hb, v, n, F, rfl, _, _⟩
  have HB : Hid (Below w.heap.size w w1) := hb
  clear HR hb
  go_wp2_with fail
  go_ret
  exact ⟨rfl, HB.out⟩

end Go.Proofs.YtbmmghkieolpkaaGreatDoor.Sg

namespace Go.Proofs.YtbmmghkieolpkaaGreatDoor.Sg
open Go.ChangeShapes Go.WideShapes Go.ChangeAt Go.RowKit

set_option maxHeartbeats 1000000 in
theorem lawWell (T : World → Prop) (keep : ∀ W W', T W → Below W.heap.size W W' → T W') (hI : ∀ (s : ByteArray) (W : World), s.size ≤ 1048576 → T W → Calls Tryz.prog 17 #[.string s] W fun e w' => e = .returned (.bool (wellB s)) ∧ Below W.heap.size W w') (w : World) (s : ByteArray) (_hs : s.size ≤ 9223372036854775807) (hT : T w) :
    Calls Tryz.prog 5 #[.string s] w fun e w' => e = .returned (.bool true) ∧ Below w.heap.size w w' := by
  have HT : Hid (T w) := hT
  have Hk : Hid (∀ W W', T W → Below W.heap.size W W' → T W') := keep
  have HI : Hid (∀ (s : ByteArray) (W : World), s.size ≤ 1048576 → T W → Calls Tryz.prog 17 #[.string s] W fun e w' => e = .returned (.bool (wellB s)) ∧ Below W.heap.size W w') := hI
  clear hT keep hI
  by_cases hbig : (1048576 : Int) < (s.size : Int)
  · go_enter Tryz.func5, Tryz.ntmps5
    go_wp2_with fail
    go_ret
    exact ⟨rfl, Below.refl _ _⟩
  have hself : ((wellB s) != (wellB s)) = false := by simp
  go_enter Tryz.func5, Tryz.ntmps5
  go_wp2_with fail
  refine (specWell s _ (by omega)).mono ?_
  rintro e w1 ⟨rfl, b1⟩
  have HT1 : Hid (T w1) := Hk.out _ _ HT.out b1
  go_wp2_with fail
  refine (HI.out s _ (by omega) HT1.out).mono ?_
  rintro e w2 ⟨rfl, b2⟩
  go_wp2_with fail
  go_ret
  exact ⟨rfl, b1.trans (b2.mono b1.size)⟩

end Go.Proofs.YtbmmghkieolpkaaGreatDoor.Sg
