/- Contract of the program's writeTag, out of that of its kids' write. -/
import Derived.Test.YtkngdlbedelgnaaGreatDoorEwSay
import Derived.Test.YtkngdlbedelgnaaGreatDoorMAG04
import Derived.Deep.Cut
import Derived.Deep.CutRange
import Derived.Deep.RegionHeld3
namespace Go.Proofs.YtkngdlbedelgnaaGreatDoor.Sg
open Go.ChangeShapes Go.WideShapes Go.ChangeAt Go.RowKit

theorem fm_take {α : Type} (f : α → List UInt8) (l : List α) (k : Nat) (h : k < l.length) : (l.take (k + 1)).flatMap f = (l.take k).flatMap f ++ f (l[k]'h) := by
  rw [List.take_succ_eq_append_getElem h, List.flatMap_append, List.flatMap_cons, List.flatMap_nil, List.append_nil]
theorem fm_at {α : Type} (f : α → List UInt8) (l : List α) (k : Nat) (h : k < l.length) : ((l.take k).flatMap f).length + (f (l[k]'h)).length ≤ (l.flatMap f).length := by
  have e : l.flatMap f = (l.take (k + 1)).flatMap f ++ (l.drop (k + 1)).flatMap f := by rw [← List.flatMap_append, List.take_append_drop]
  rw [e, fm_take f l k h, List.length_append, List.length_append]
  omega
theorem box8 {W : World} {k : Nat} {t : TypeId} {f : Nat × Nat} {a0 a1 a2 a3 a4 a5 a6 a7 : Value} (h : W.heap[k]? = some (.cells #[a0, a1, a2, a3, a4, a5, a6, a7] t f)) :
    W.cell? ⟨k, 0, none⟩ = some a0 ∧ W.cell? ⟨k, 1, none⟩ = some a1 ∧ W.cell? ⟨k, 2, none⟩ = some a2 ∧ W.cell? ⟨k, 3, none⟩ = some a3 ∧ W.cell? ⟨k, 4, none⟩ = some a4 ∧ W.cell? ⟨k, 5, none⟩ = some a5 ∧ W.cell? ⟨k, 6, none⟩ = some a6 ∧ W.cell? ⟨k, 7, none⟩ = some a7 :=
  ⟨cell_in h 0, cell_in h 1, cell_in h 2, cell_in h 3, cell_in h 4, cell_in h 5, cell_in h 6, cell_in h 7⟩
theorem Kp.news {B b : Nat} {w w' : World} (h : Kp B b w w') (hB : B ≤ w.heap.size) (o : Obj) : Kp B b w (w'.alloc o) := h.trans (Kp.of ((Below.refl _ _).alloc (Nat.le_refl _) _) (Nat.le_trans hB h.size))
theorem QB.kp {B b : Nat} {w w' : World} {v : Value} {l : List AttrB} (h : QB B w v l) (k : Kp B b w w') : QB B w' v l := (QB.liesP B).agree h (fun b hb => k.bel.block b hb) k.size
theorem KidsIn.kp {B b : Nat} {w w' : World} {ka : Option Addr} {ks : List ElB} (h : KidsIn (QB B) (· < B) w ka ks) (k : Kp B b w w') : KidsIn (QB B) (· < B) w' ka ks := h.agree (QB.liesP B) (fun b hb => k.bel.block b hb) k.size
theorem QB.row {B : Nat} {w : World} {a : Option Addr} {n c : Nat} {l : List AttrB} (h : QB B w (.slice a n c) l) : AttrsAt w a l := by
  obtain ⟨⟨x, c', e, _, _, h3, _⟩, _⟩ := h
  cases e
  exact h3
theorem alC {w : World} {b o : Nat} {v : Value} {x : Obj} (h : w.cell? ⟨b, o, none⟩ = some v) : (w.alloc x).cell? ⟨b, o, none⟩ = some v := keep_cell ((Below.refl w.heap.size w).alloc (Nat.le_refl _) _) h

theorem ElV.kp {B b : Nat} {w w' : World} {v : Value} {e : ElB} (h : ElV (QB B) (· < B) w v e) (k : Kp B b w w') : ElV (QB B) (· < B) w' v e := h.agree (QB.liesP B) (fun b hb => k.bel.block b hb) k.size
theorem ElIn.parts3 {B : Nat} {W : World} {e : ElB} {b o : Nat} (h : ElIn (QB B) (· < B) W e b o) : ∃ kd sp nm xa n xc tx ka m kc, W.cell? ⟨b, o, none⟩ = some (.int .i64 kd) ∧ W.cell? ⟨b, o + 1, none⟩ = some (.int .i64 sp) ∧ W.cell? ⟨b, o + 2, none⟩ = some (.string nm) ∧ W.cell? ⟨b, o + 3, none⟩ = some (.slice xa n xc) ∧ W.cell? ⟨b, o + 4, none⟩ = some (.string tx) ∧ W.cell? ⟨b, o + 5, none⟩ = some (.slice ka m kc) ∧ ElV (QB B) (· < B) W (.agg #[.int .i64 kd, .int .i64 sp, .string nm, .slice xa n xc, .string tx, .slice ka m kc]) e := by
  obtain ⟨kd, sp, nm, ats, tx, ks⟩ := e
  unfold ElIn at h
  obtain ⟨c0, c1, c2, ⟨av, c3, hq⟩, c4, ka, kc, c5, hk⟩ := h
  obtain ⟨xa, xc, rfl⟩ := hq.slice
  exact ⟨kd, sp, nm, xa, _, xc, tx, ka, _, kc, c0, c1, c2, c3, c4, c5, _, ka, kc, rfl, hq, hk⟩
/-- An element is written. -/
def SayC (e : ElB) : Prop := ∀ (B b : Nat) (acc : List UInt8) (about : Int) (v0 v1 v2 v3 v4 v5 : Value) (w : World), Bl B b acc w → B ≤ w.heap.size → ElV (QB B) (· < B) w (.agg #[v0, v1, v2, v3, v4, v5]) e → okE e = true → ElSmall e → acc.length + (bL (saidE e about)).length ≤ 1099511000000 →
  Calls Tryz.prog 23 #[.agg #[.pointer (some ⟨b, 0, none⟩), .int .i64 about, v0, v1, v2, v3, v4, v5]] w fun r w' => r = .returned (.tuple #[]) ∧ Bl B b (acc ++ bL (saidE e about)) w' ∧ Kp B b w w'

set_option maxRecDepth 20000 in
set_option maxHeartbeats 8000000 in
theorem writeTag_of (sp : Int) (nm : ByteArray) (ats : List AttrB) (tx : ByteArray) (ks : List ElB) (ih : ∀ e ∈ ks, SayC e) (B b : Nat) (acc : List UInt8) (about : Int) (v0 v1 v2 v3 v4 v5 : Value) (w : World) (hb : Bl B b acc w) (hB : B ≤ w.heap.size) (hv : ElV (QB B) (· < B) w (.agg #[v0, v1, v2, v3, v4, v5]) (.mk 1 sp nm ats tx ks)) (hok : ∀ e ∈ ks, okE e = true) (hs : ElSmall (.mk 1 sp nm ats tx ks)) (hl : acc.length + (tagL sp about nm ats ks).length ≤ 1099511000000) :
    Calls Tryz.prog 46 #[.agg #[.pointer (some ⟨b, 0, none⟩), .int .i64 about, v0, v1, v2, v3, v4, v5]] w fun r w' => r = .returned (.tuple #[]) ∧ Bl B b (acc ++ tagL sp about nm ats ks) w' ∧ Kp B b w w' := by
  obtain ⟨av, ka, kc, ev, hq, hk⟩ := hv
  cases ev
  obtain ⟨ab, ac, rfl⟩ := hq.slice
  have Hih : Hid (∀ e ∈ ks, SayC e) := ih
  have Hok : Hid (∀ e ∈ ks, okE e = true) := hok
  unfold ElSmall at hs
  have Has : Hid (∀ p ∈ ats, p.1.size ≤ 16777216 ∧ p.2.size ≤ 16777216) := hs.2.2.2.1
  have Hks : Hid (ElsSmall ks) := hs.2.2.2.2.2
  have hnk : ks.length ≤ 16777216 := hs.2.2.2.2.1
  have hna : ats.length ≤ 16777216 := hs.2.2.1
  have bA := (Below.refl w.heap.size w).alloc (Nat.le_refl _) (.cells #[.pointer (some ⟨b, 0, none⟩), .int .i64 about, .int .i64 1, .int .i64 sp, .string nm, .slice ab ats.length ac, .string tx, .slice ka ks.length kc] 56)
  have HB1 : Hid (Bl B b acc (w.alloc (.cells #[.pointer (some ⟨b, 0, none⟩), .int .i64 about, .int .i64 1, .int .i64 sp, .string nm, .slice ab ats.length ac, .string tx, .slice ka ks.length kc] 56))) := hb.below bA
  have HK1 : Hid (Kp B b w (w.alloc (.cells #[.pointer (some ⟨b, 0, none⟩), .int .i64 about, .int .i64 1, .int .i64 sp, .string nm, .slice ab ats.length ac, .string tx, .slice ka ks.length kc] 56))) := Kp.of bA hB
  have hxb : w.heap.size ≠ b := by
    obtain ⟨_, c, hc⟩ := hb.block
    have := (Array.getElem?_eq_some_iff.1 hc).1
    omega
  have HX : Hid ((w.alloc (.cells #[.pointer (some ⟨b, 0, none⟩), .int .i64 about, .int .i64 1, .int .i64 sp, .string nm, .slice ab ats.length ac, .string tx, .slice ka ks.length kc] 56)).heap[w.heap.size]? = some (.cells #[.pointer (some ⟨b, 0, none⟩), .int .i64 about, .int .i64 1, .int .i64 sp, .string nm, .slice ab ats.length ac, .string tx, .slice ka ks.length kc] 56 (0, 0))) := news_obj w _ _
  have HQ1 : Hid (QB B (w.alloc (.cells #[.pointer (some ⟨b, 0, none⟩), .int .i64 about, .int .i64 1, .int .i64 sp, .string nm, .slice ab ats.length ac, .string tx, .slice ka ks.length kc] 56)) (.slice ab ats.length ac) ats) := hq.kp HK1.out
  have HKi : Hid (KidsIn (QB B) (· < B) (w.alloc (.cells #[.pointer (some ⟨b, 0, none⟩), .int .i64 about, .int .i64 1, .int .i64 sp, .string nm, .slice ab ats.length ac, .string tx, .slice ka ks.length kc] 56)) ka ks) := hk.kp HK1.out
  obtain ⟨fin, Hfin⟩ : ∃ fin : List UInt8, Hid (fin = if ks.length = 0 then bL ⟨#[47, 62]⟩ else bL ⟨#[62]⟩ ++ (ks.flatMap fun e => bL (saidE e sp)) ++ (bL ⟨#[60, 47]⟩ ++ bL nm ++ bL ⟨#[62]⟩)) := ⟨_, rfl⟩
  have Htag : Hid (tagL sp about nm ats ks = (bL ⟨#[60]⟩ ++ bL nm) ++ turnL sp about ++ ats.flatMap sayL ++ fin) := by
    show _ = _
    rw [Hfin.out]
    rfl
  obtain ⟨A2, HA2⟩ : ∃ A2 : List UInt8, Hid (acc ++ (bL ⟨#[60]⟩ ++ bL nm) ++ turnL sp about = A2) := ⟨_, rfl⟩
  have HRes : Hid (acc ++ tagL sp about nm ats ks = A2 ++ ats.flatMap sayL ++ fin) := by
    show _ = _
    rw [← HA2.out, Htag.out]
    simp only [List.append_assoc]
  rw [HRes.out]
  rw [Htag.out] at hl
  simp only [List.length_append] at hl
  have hA2 : A2.length + (ats.flatMap sayL).length + fin.length ≤ 1099511000000 := by
    rw [← HA2.out]
    simp only [List.length_append]
    omega
  clear Htag HRes
  have hc1 : catB [⟨#[60]⟩, nm] = bL ⟨#[60]⟩ ++ bL nm := by simp [catB, bL]
  have hl1 : (catB [⟨#[60]⟩, nm]).length = (bL ⟨#[60]⟩).length + (bL nm).length := by rw [hc1, List.length_append]
  clear bA hb hq hk ih hok hs
  go_enter Tryz.func46, Tryz.ntmps46
  go_upto_region 1 with fail
  generalize w.alloc (.cells #[.pointer (some ⟨b, 0, none⟩), .int .i64 about, .int .i64 1, .int .i64 sp, .string nm, .slice ab ats.length ac, .string tx, .slice ka ks.length kc] 56) = w1 at *
  have hB1 := Nat.le_trans hB HK1.out.size
  obtain ⟨x0, x1, x2, x3, x4, x5, x6, x7⟩ := box8 HX.out
  have bN := (Below.refl w1.heap.size w1).alloc (Nat.le_refl _) (.cells #[.string ⟨#[60]⟩, .string nm] 9)
  have HP := implPut B b w1.heap.size 2 acc [⟨#[60]⟩, nm] about _ (HB1.out.below bN) (Nat.le_trans hB1 bN.size) (news_obj w1 _ _) (by omega) (by simp)
  rw [hc1] at HP
  have HK1' := (Kp.refl B b w1).news hB1 (.cells #[.string ⟨#[60]⟩, .string nm] 9)
  go_wp2_with fail
  refine HP.mono ?_
  rintro e w2 ⟨rfl, hb2, hk2⟩
  have HB2 : Hid (Bl B b (acc ++ (bL ⟨#[60]⟩ ++ bL nm)) w2) := hb2
  have HK2 : Hid (Kp B b w1 w2) := HK1'.trans hk2
  clear HP HK1' hb2 hk2 bN HB1 x0 x1 x2 x3 x4 x5 x6 x7 hc1 hl1
  obtain ⟨x0, x1, x2, x3, x4, x5, x6, x7⟩ := box8 (HK2.out.obj HX.out (by decide) hxb)
  have HT := implPutTurn B b _ about sp w2 HB2.out (Nat.le_trans hB1 HK2.out.size) (by simp only [List.length_append]; omega)
  go_wp2_with fail
  refine HT.mono ?_
  rintro e w3 ⟨rfl, hb3, hk3⟩
  have HB3 : Hid (Bl B b (acc ++ (bL ⟨#[60]⟩ ++ bL nm) ++ turnL sp about) w3) := hb3
  have HK3 : Hid (Kp B b w1 w3) := HK2.out.trans hk3
  clear HT hb3 hk3 HB2 HK2 x0 x1 x2 x3 x4 x5 x6 x7
  obtain ⟨x0, x1, x2, x3, x4, x5, x6, x7⟩ := box8 (HK3.out.obj HX.out (by decide) hxb)
  rw [HA2.out] at HB3
  clear hl
  go_wp2_with fail
  go_loopw [23] (fun iv wr => ∃ k : Nat, k ≤ ats.length ∧ iv = .int .i64 (k : Int) ∧ Hid (Bl B b (A2 ++ (ats.take k).flatMap sayL) wr) ∧ Hid (Kp B b w1 wr)) (fun iv _ => ats.length - (intOf iv).toNat)
  case atStart =>
    refine ⟨0, Nat.zero_le _, rfl, ?_, HK3.out⟩
    show Bl _ _ _ _
    rw [List.take_zero, List.flatMap_nil, List.append_nil]
    exact HB3.out
  case round =>
    clear HB3 HK3 x0 x1 x2 x3 x4 x5 x6 x7
    obtain ⟨k, hk, rfl, HBk, HKk⟩ := hrel
    obtain ⟨x0, x1, x2, x3, x4, x5, x6, x7⟩ := box8 (HKk.out.obj HX.out (by decide) hxb)
    have hBr := Nat.le_trans hB1 HKk.out.size
    by_cases hlt : k < ats.length
    · obtain ⟨gb, eg, c0, c1⟩ := attrs_one ((HQ1.out.kp HKk.out).row) k hlt
      cases eg
      have hp := Has.out _ (List.getElem_mem hlt)
      have hfl := fm_at sayL ats k hlt
      have Hst : Hid (A2 ++ (ats.take (k + 1)).flatMap sayL = A2 ++ (ats.take k).flatMap sayL ++ sayL (ats[k]'hlt)) := by
        show _ = _
        rw [fm_take sayL ats k hlt, List.append_assoc]
      generalize ats[k]'hlt = q at *
      obtain ⟨an, avl⟩ := q
      simp only at c0 c1 hp
      have Hcat : Hid (catB [⟨#[32]⟩, an, ⟨#[61, 34]⟩, escS avl true, ⟨#[34]⟩] = sayL (an, avl)) := by
        show _ = _
        simp [catB, sayL, bL]
      have HE := fun W => implEscape avl true W (by omega)
      generalize escS avl true = ev at *
      generalize sayL (an, avl) = SL at *
      have k0 : (0 : Int) ≤ (k : Int) := by omega
      have k1 : (k : Int) < (ats.length : Int) := by omega
      have hk1 : k + 1 ≤ ats.length := hlt
      have bN := (Below.refl wr.heap.size wr).alloc (Nat.le_refl _) (.cells #[.string an, .string avl] 68)
      have HK4 : Hid (Kp B b w1 (wr.alloc (.cells #[.string an, .string avl] 68))) := HKk.out.news hB1 _
      have HB4 : Hid (Bl B b (A2 ++ (ats.take k).flatMap sayL) (wr.alloc (.cells #[.string an, .string avl] 68))) := HBk.out.below bN
      have HXA : Hid ((wr.alloc (.cells #[.string an, .string avl] 68)).heap[wr.heap.size]? = some (.cells #[.string an, .string avl] 68 (0, 0))) := news_obj wr _ _
      have HXb : Hid ((wr.alloc (.cells #[.string an, .string avl] 68)).heap[w.heap.size]? = some (.cells #[.pointer (some ⟨b, 0, none⟩), .int .i64 about, .int .i64 1, .int .i64 sp, .string nm, .slice (some ⟨gb, 0, none⟩) ats.length ac, .string tx, .slice ka ks.length kc] 56 (0, 0))) := HK4.out.obj HX.out (by decide) hxb
      have hab : wr.heap.size ≠ b := by
        obtain ⟨_, c, hc⟩ := HBk.out.block
        have := (Array.getElem?_eq_some_iff.1 hc).1
        omega
      have hB4 : B ≤ (wr.alloc (.cells #[.string an, .string avl] 68)).heap.size := Nat.le_trans hBr bN.size
      have y0 := keep_cell bN x0
      have y1 := keep_cell bN x1
      have a0 : (wr.alloc (.cells #[.string an, .string avl] 68)).cell? ⟨wr.heap.size, 0, none⟩ = some (.string an) := by simp
      have a1 : (wr.alloc (.cells #[.string an, .string avl] 68)).cell? ⟨wr.heap.size, 1, none⟩ = some (.string avl) := by simp
      clear bN HBk HKk
      go_upto_region 6 with fail
      clear c0 c1 x0 x1 x2 x3 x4 x5 x6 x7
      generalize wr.alloc (.cells #[.string an, .string avl] 68) = w4 at *
      generalize wr.heap.size = ak at *
      go_region_held3 (fun w' => w'.cell? ⟨w.heap.size, 0, none⟩ = some (.pointer (some ⟨b, 0, none⟩)) ∧ w'.cell? ⟨w.heap.size, 1, none⟩ = some (.int .i64 about) ∧ w'.cell? ⟨ak, 0, none⟩ = some (.string an) ∧ w'.cell? ⟨ak, 1, none⟩ = some (.string avl))
        (first | exact ⟨y0, y1, a0, a1⟩ | exact ⟨q0, q1, q2, q3⟩ | exact ⟨alC q0, alC q1, alC q2, alC q3⟩ | exact ⟨X6.1, X6.2.1, cell_in A6 0, cell_in A6 1⟩)
        (first
          | (go_at_call 47; refine (HE _).mono ?_; rintro e w5 ⟨rfl, hbE⟩; have bE := ((Below.refl w4.heap.size w4).drew).trans hbE; have q0 := keep_cell bE y0; have q1 := keep_cell bE y1; have q2 := keep_cell bE a0; have q3 := keep_cell bE a1; have K5 : Kp B b w4 w5 := Kp.of bE hB4; have K5a := K5.news hB4 (.cells #[.string ⟨#[32]⟩, .string an, .string ⟨#[61, 34]⟩, .string ev, .string ⟨#[34]⟩] 9); have B5 := (HB4.out.below bE).below ((Below.refl w5.heap.size w5).alloc (Nat.le_refl _) (.cells #[.string ⟨#[32]⟩, .string an, .string ⟨#[61, 34]⟩, .string ev, .string ⟨#[34]⟩] 9)))
          | (go_at_call 22; refine (implPut B b w5.heap.size 5 _ [⟨#[32]⟩, an, ⟨#[61, 34]⟩, ev, ⟨#[34]⟩] about _ B5 (Nat.le_trans hB4 K5a.size) (news_obj w5 _ _) (by rw [Hcat.out, List.length_append]; omega) (by simp)).mono ?_; rintro e w6 ⟨rfl, hb6, hk6⟩; have K6 := K5a.trans hk6; have X6 := box8 (K6.obj HXb.out (by decide) hxb); have A6 := K6.obj HXA.out (by decide) hab))
      have HB6 : Hid (Bl B b (A2 ++ (ats.take (k + 1)).flatMap sayL) w6) := by
        show Bl _ _ _ _
        rw [Hst.out, ← Hcat.out]
        exact hb6
      have HK6 : Hid (Kp B b w1 w6) := HK4.out.trans K6
      clear hb6 hk6 K6 X6 A6 K5 K5a B5 bE hbE q0 q1 q2 q3 y0 y1 a0 a1 HB4 HK4 HXA HXb Hst Hcat HE
      go_wp2_with fail
      go_roundw
      case rel => exact ⟨k + 1, hk1, by go_num, HB6, HK6⟩
      case measure => simp [intOf]; omega
    · have g0 : decide ((k : Int) < (ats.length : Int)) = false := decide_eq_false (by omega)
      have HBa : Hid (Bl B b (A2 ++ ats.flatMap sayL) wr) := by
        have h := HBk.out
        rw [List.take_of_length_le (by omega)] at h
        exact h
      obtain ⟨A3, HA3⟩ : ∃ A3 : List UInt8, Hid (A2 ++ ats.flatMap sayL = A3) := ⟨_, rfl⟩
      rw [HA3.out] at HBa
      have hA3 : A3.length + fin.length ≤ 1099511000000 := by
        rw [← HA3.out, List.length_append]
        omega
      clear HBk
      by_cases hz : ks.length = 0
      · have gz : ((ks.length : Int) == 0) = true := by rw [beq_iff_eq]; omega
        have Hf : Hid (catB [⟨#[47, 62]⟩] = fin) := by
          show _ = _
          rw [Hfin.out, if_pos hz]
          simp [catB, bL]
        have bN := (Below.refl wr.heap.size wr).alloc (Nat.le_refl _) (.cells #[.string ⟨#[47, 62]⟩] 9)
        have HP := implPut B b wr.heap.size 1 A3 [⟨#[47, 62]⟩] about _ (HBa.out.below bN) (Nat.le_trans hBr bN.size) (news_obj wr _ _) (by rw [Hf.out]; omega) (by simp)
        rw [Hf.out] at HP
        have HKn := HKk.out.news hB1 (.cells #[.string ⟨#[47, 62]⟩] 9)
        have HKw : Hid (∀ X, Kp B b (wr.alloc (.cells #[.string ⟨#[47, 62]⟩] 9)) X → Kp B b w X) := fun X hX => HK1.out.trans (HKn.trans hX)
        clear Hfin HKn bN HKk HBa
        go_wp2_with fail
        refine HP.mono ?_
        rintro e w6 ⟨rfl, hb6, hk6⟩
        have HB6 : Hid (Bl B b (A3 ++ fin) w6) := hb6
        have HK6 : Hid (Kp B b w w6) := HKw.out _ hk6
        clear HP hb6 hk6 HKw
        go_wp2_with fail
        exact bodyPost_ret (results_none rfl _ _ _) rfl ⟨rfl, by rw [HA3.out]; exact HB6.out, HK6.out⟩
      · have gz : ((ks.length : Int) == 0) = false := by rw [beq_eq_false_iff_ne]; omega
        have Hf : Hid (fin = bL ⟨#[62]⟩ ++ (ks.flatMap fun e => bL (saidE e sp)) ++ (bL ⟨#[60, 47]⟩ ++ bL nm ++ bL ⟨#[62]⟩)) := by
          show _ = _
          rw [Hfin.out, if_neg hz]
        have hlf := congrArg List.length Hf.out
        simp only [List.length_append] at hlf
        have hc1 : catB [⟨#[62]⟩] = bL ⟨#[62]⟩ := by simp [catB, bL]
        have hc2 : catB [⟨#[60, 47]⟩, nm, ⟨#[62]⟩] = bL ⟨#[60, 47]⟩ ++ bL nm ++ bL ⟨#[62]⟩ := by simp [catB, bL]
        have hl2 : (catB [⟨#[60, 47]⟩, nm, ⟨#[62]⟩]).length = (bL ⟨#[60, 47]⟩).length + (bL nm).length + (bL ⟨#[62]⟩).length := by rw [hc2, List.length_append, List.length_append]
        have bN := (Below.refl wr.heap.size wr).alloc (Nat.le_refl _) (.cells #[.string ⟨#[62]⟩] 9)
        have HP := implPut B b wr.heap.size 1 A3 [⟨#[62]⟩] about _ (HBa.out.below bN) (Nat.le_trans hBr bN.size) (news_obj wr _ _) (by rw [hc1]; omega) (by simp)
        rw [hc1] at HP
        have HKn := HKk.out.news hB1 (.cells #[.string ⟨#[62]⟩] 9)
        clear Hfin bN HKk HBa
        go_wp2_with fail
        refine HP.mono ?_
        rintro e w6 ⟨rfl, hb6, hk6⟩
        obtain ⟨A4, HA4⟩ : ∃ A4 : List UInt8, Hid (A3 ++ bL ⟨#[62]⟩ = A4) := ⟨_, rfl⟩
        have hA4 : A4.length + (ks.flatMap fun e => bL (saidE e sp)).length + (catB [⟨#[60, 47]⟩, nm, ⟨#[62]⟩]).length ≤ 1099511000000 := by
          rw [← HA4.out, List.length_append]
          omega
        rw [HA4.out] at hb6
        have HB6 : Hid (Bl B b A4 w6) := hb6
        have HK6 : Hid (Kp B b w1 w6) := HKn.trans hk6
        clear HP hb6 hk6 HKn x0 x1 x2 x3 x4 x5 x6 x7 hlf hl2
        obtain ⟨x0, x1, x2, x3, x4, x5, x6, x7⟩ := box8 (HK6.out.obj HX.out (by decide) hxb)
        go_wp2_with fail
        go_loopw [54] (fun iv wr => ∃ k : Nat, k ≤ ks.length ∧ iv = .int .i64 (k : Int) ∧ Hid (Bl B b (A4 ++ (ks.take k).flatMap fun e => bL (saidE e sp)) wr) ∧ Hid (Kp B b w1 wr)) (fun iv _ => ks.length - (intOf iv).toNat)
        case atStart =>
          refine ⟨0, Nat.zero_le _, rfl, ?_, HK6.out⟩
          show Bl _ _ _ _
          rw [List.take_zero, List.flatMap_nil, List.append_nil]
          exact HB6.out
        case round =>
          clear HB6 HK6 x0 x1 x2 x3 x4 x5 x6 x7
          obtain ⟨j, hj, rfl, HBk, HKk⟩ := hrel
          obtain ⟨x0, x1, x2, x3, x4, x5, x6, x7⟩ := box8 (HKk.out.obj HX.out (by decide) hxb)
          have hBr := Nat.le_trans hB1 HKk.out.size
          by_cases hlt : j < ks.length
          · rcases HKi.out.kp HKk.out with h | ⟨kb, ko, ek, _, hc⟩
            · omega
            cases ek
            obtain ⟨ekd, esp, enm, exa, en, exc, etx, eka, em, ekc, c0, c1, c2, c3, c4, c5, hV⟩ := (hc.get j hlt).parts3
            have hfl := fm_at (fun e => bL (saidE e sp)) ks j hlt
            have Hst : Hid (A4 ++ ((ks.take (j + 1)).flatMap fun e => bL (saidE e sp)) = A4 ++ ((ks.take j).flatMap fun e => bL (saidE e sp)) ++ bL (saidE (ks[j]'hlt) sp)) := by
              show _ = _
              rw [fm_take (fun e => bL (saidE e sp)) ks j hlt, List.append_assoc]
            have HS := fun W hB' hl' hb' hv' => Hih.out _ (List.getElem_mem hlt) B b (A4 ++ ((ks.take j).flatMap fun e => bL (saidE e sp))) sp (.int .i64 ekd) (.int .i64 esp) (.string enm) (.slice exa en exc) (.string etx) (.slice eka em ekc) W hb' hB' hv' (Hok.out _ (List.getElem_mem hlt)) (Hks.out.get _ (List.getElem_mem hlt)) hl'
            have HV : Hid (ElV (QB B) (· < B) wr (.agg #[.int .i64 ekd, .int .i64 esp, .string enm, .slice exa en exc, .string etx, .slice eka em ekc]) (ks[j]'hlt)) := hV
            generalize bL (saidE (ks[j]'hlt) sp) = SL at *
            generalize ks[j]'hlt = ej at *
            have k0 : (0 : Int) ≤ (j : Int) := by omega
            have k1 : (j : Int) < (ks.length : Int) := by omega
            have hk1 : j + 1 ≤ ks.length := hlt
            have bN := (Below.refl wr.heap.size wr).alloc (Nat.le_refl _) (.cells #[.int .i64 ekd, .int .i64 esp, .string enm, .slice exa en exc, .string etx, .slice eka em ekc] 39)
            have HK4 : Hid (Kp B b w1 (wr.alloc (.cells #[.int .i64 ekd, .int .i64 esp, .string enm, .slice exa en exc, .string etx, .slice eka em ekc] 39))) := HKk.out.news hB1 _
            have HB4 : Hid (Bl B b (A4 ++ ((ks.take j).flatMap fun e => bL (saidE e sp))) (wr.alloc (.cells #[.int .i64 ekd, .int .i64 esp, .string enm, .slice exa en exc, .string etx, .slice eka em ekc] 39))) := HBk.out.below bN
            have HXA : Hid ((wr.alloc (.cells #[.int .i64 ekd, .int .i64 esp, .string enm, .slice exa en exc, .string etx, .slice eka em ekc] 39)).heap[wr.heap.size]? = some (.cells #[.int .i64 ekd, .int .i64 esp, .string enm, .slice exa en exc, .string etx, .slice eka em ekc] 39 (0, 0))) := news_obj wr _ _
            have HXb : Hid ((wr.alloc (.cells #[.int .i64 ekd, .int .i64 esp, .string enm, .slice exa en exc, .string etx, .slice eka em ekc] 39)).heap[w.heap.size]? = some (.cells #[.pointer (some ⟨b, 0, none⟩), .int .i64 about, .int .i64 1, .int .i64 sp, .string nm, .slice ab ats.length ac, .string tx, .slice (some ⟨kb, ko, none⟩) ks.length kc] 56 (0, 0))) := HK4.out.obj HX.out (by decide) hxb
            have HV4 : Hid (ElV (QB B) (· < B) (wr.alloc (.cells #[.int .i64 ekd, .int .i64 esp, .string enm, .slice exa en exc, .string etx, .slice eka em ekc] 39)) (.agg #[.int .i64 ekd, .int .i64 esp, .string enm, .slice exa en exc, .string etx, .slice eka em ekc]) ej) := HV.out.kp (Kp.of (b := b) bN hBr)
            have hab : wr.heap.size ≠ b := by
              obtain ⟨_, c, hc⟩ := HBk.out.block
              have := (Array.getElem?_eq_some_iff.1 hc).1
              omega
            have hB4 : B ≤ (wr.alloc (.cells #[.int .i64 ekd, .int .i64 esp, .string enm, .slice exa en exc, .string etx, .slice eka em ekc] 39)).heap.size := Nat.le_trans hBr bN.size
            have y0 := keep_cell bN x0
            have y1 := keep_cell bN x1
            have y3 := keep_cell bN x3
            have a0 : (wr.alloc (.cells #[.int .i64 ekd, .int .i64 esp, .string enm, .slice exa en exc, .string etx, .slice eka em ekc] 39)).cell? ⟨wr.heap.size, 0, none⟩ = some (.int .i64 ekd) := by simp
            have a1 : (wr.alloc (.cells #[.int .i64 ekd, .int .i64 esp, .string enm, .slice exa en exc, .string etx, .slice eka em ekc] 39)).cell? ⟨wr.heap.size, 1, none⟩ = some (.int .i64 esp) := by simp
            have a2 : (wr.alloc (.cells #[.int .i64 ekd, .int .i64 esp, .string enm, .slice exa en exc, .string etx, .slice eka em ekc] 39)).cell? ⟨wr.heap.size, 2, none⟩ = some (.string enm) := by simp
            have a3 : (wr.alloc (.cells #[.int .i64 ekd, .int .i64 esp, .string enm, .slice exa en exc, .string etx, .slice eka em ekc] 39)).cell? ⟨wr.heap.size, 3, none⟩ = some (.slice exa en exc) := by simp
            have a4 : (wr.alloc (.cells #[.int .i64 ekd, .int .i64 esp, .string enm, .slice exa en exc, .string etx, .slice eka em ekc] 39)).cell? ⟨wr.heap.size, 4, none⟩ = some (.string etx) := by simp
            have a5 : (wr.alloc (.cells #[.int .i64 ekd, .int .i64 esp, .string enm, .slice exa en exc, .string etx, .slice eka em ekc] 39)).cell? ⟨wr.heap.size, 5, none⟩ = some (.slice eka em ekc) := by simp
            clear bN HBk HKk hV HV hc
            go_upto_region 14 with fail
            clear c0 c1 c2 c3 c4 c5 x0 x1 x2 x3 x4 x5 x6 x7
            generalize wr.alloc (.cells #[.int .i64 ekd, .int .i64 esp, .string enm, .slice exa en exc, .string etx, .slice eka em ekc] 39) = w4 at *
            generalize wr.heap.size = ak at *
            go_region_held3 (fun w' => w'.cell? ⟨w.heap.size, 0, none⟩ = some (.pointer (some ⟨b, 0, none⟩)) ∧ w'.cell? ⟨w.heap.size, 1, none⟩ = some (.int .i64 about) ∧ w'.cell? ⟨w.heap.size, 3, none⟩ = some (.int .i64 sp) ∧ w'.cell? ⟨ak, 0, none⟩ = some (.int .i64 ekd) ∧ w'.cell? ⟨ak, 1, none⟩ = some (.int .i64 esp) ∧ w'.cell? ⟨ak, 2, none⟩ = some (.string enm) ∧ w'.cell? ⟨ak, 3, none⟩ = some (.slice exa en exc) ∧ w'.cell? ⟨ak, 4, none⟩ = some (.string etx) ∧ w'.cell? ⟨ak, 5, none⟩ = some (.slice eka em ekc))
              (first | exact ⟨y0, y1, y3, a0, a1, a2, a3, a4, a5⟩ | exact ⟨keep_cell bE y0, keep_cell bE y1, keep_cell bE y3, keep_cell bE a0, keep_cell bE a1, keep_cell bE a2, keep_cell bE a3, keep_cell bE a4, keep_cell bE a5⟩ | exact ⟨X6.1, X6.2.1, X6.2.2.2.1, cell_in A6 0, cell_in A6 1, cell_in A6 2, cell_in A6 3, cell_in A6 4, cell_in A6 5⟩)
              (first
                | (go_at_call 77; refine (implWithin b about sp _).mono ?_; rintro e w5 ⟨rfl, hbE⟩; have bE := ((Below.refl w4.heap.size w4).drew).trans hbE; have K5 : Kp B b w4 w5 := Kp.of bE hB4)
                | (go_at_call 23; refine (HS _ (Nat.le_trans hB4 K5.size) (by rw [List.length_append]; omega) (HB4.out.below bE) (HV4.out.kp K5)).mono ?_; rintro e w6 ⟨rfl, hb6, hk6⟩; have K6 := K5.trans hk6; have X6 := box8 (K6.obj HXb.out (by decide) hxb); have A6 := K6.obj HXA.out (by decide) hab))
            have HB6 : Hid (Bl B b (A4 ++ ((ks.take (j + 1)).flatMap fun e => bL (saidE e sp))) w6) := by
              show Bl _ _ _ _
              rw [Hst.out]
              exact hb6
            have HK6 : Hid (Kp B b w1 w6) := HK4.out.trans K6
            clear hb6 hk6 K6 X6 A6 K5 bE hbE y0 y1 y3 a0 a1 a2 a3 a4 a5 HB4 HK4 HXA HXb HV4 Hst HS
            go_wp2_with fail
            go_roundw
            case rel => exact ⟨j + 1, hk1, by go_num, HB6, HK6⟩
            case measure => simp [intOf]; omega
          · have g1 : decide ((j : Int) < (ks.length : Int)) = false := decide_eq_false (by omega)
            have HBa : Hid (Bl B b (A4 ++ (ks.flatMap fun e => bL (saidE e sp))) wr) := by
              have h := HBk.out
              rw [List.take_of_length_le (by omega)] at h
              exact h
            have bN := (Below.refl wr.heap.size wr).alloc (Nat.le_refl _) (.cells #[.string ⟨#[60, 47]⟩, .string nm, .string ⟨#[62]⟩] 9)
            have HP := implPut B b wr.heap.size 3 _ [⟨#[60, 47]⟩, nm, ⟨#[62]⟩] about _ (HBa.out.below bN) (Nat.le_trans hBr bN.size) (news_obj wr _ _) (by rw [List.length_append]; omega) (by simp)
            have HKn := HKk.out.news hB1 (.cells #[.string ⟨#[60, 47]⟩, .string nm, .string ⟨#[62]⟩] 9)
            have HKw : Hid (∀ X, Kp B b (wr.alloc (.cells #[.string ⟨#[60, 47]⟩, .string nm, .string ⟨#[62]⟩] 9)) X → Kp B b w X) := fun X hX => HK1.out.trans (HKn.trans hX)
            have Hend : Hid (A4 ++ (ks.flatMap fun e => bL (saidE e sp)) ++ catB [⟨#[60, 47]⟩, nm, ⟨#[62]⟩] = A3 ++ fin) := by
              show _ = _
              rw [← HA4.out, Hf.out, hc2]
              simp only [List.append_assoc]
            clear HKn bN HKk HBa HBk
            go_wp2_with fail
            refine HP.mono ?_
            rintro e w6 ⟨rfl, hb6, hk6⟩
            rw [Hend.out] at hb6
            have HB6 : Hid (Bl B b (A3 ++ fin) w6) := hb6
            have HK6 : Hid (Kp B b w w6) := HKw.out _ hk6
            clear HP hb6 hk6 HKw
            go_wp2_with fail
            exact bodyPost_end (results_none rfl _ _ _) rfl ⟨rfl, by rw [HA3.out]; exact HB6.out, HK6.out⟩

end Go.Proofs.YtkngdlbedelgnaaGreatDoor.Sg
