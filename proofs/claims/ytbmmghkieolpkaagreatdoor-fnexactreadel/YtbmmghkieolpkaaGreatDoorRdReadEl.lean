/- Contract of the model's ReadEl. -/
import Derived.Test.YtbmmghkieolpkaaGreatDoorRdRead
import Derived.BigRegion
namespace Go.Proofs.YtbmmghkieolpkaaGreatDoor.Sg
open Go.ChangeShapes Go.WideShapes Go.ChangeAt Go.RowKit

def zeroE : ElB := .mk 0 0 ⟨#[]⟩ [] ⟨#[]⟩ []
/-- What is read of an element at a place, and where it ends; none: refused. -/
def readElR (s : ByteArray) (i about : Int) : Option (ElB × Nat) :=
  if i < 0 ∨ (s.size : Int) ≤ i then none
  else match elM s (s.size + 1) 60 i.toNat about with
    | none => none
    | some x => if strictE x.1 = true then some x else none
def readElE (s : ByteArray) (i about : Int) : ElB := match readElR s i about with | none => zeroE | some x => x.1
def readElI (s : ByteArray) (i about : Int) : Int := match readElR s i about with | none => -1 | some x => (x.2 : Int)
theorem readEl_some {s : ByteArray} {i about : Int} {x : ElB × Nat} (h : readElR s i about = some x) : readElE s i about = x.1 ∧ readElI s i about = (x.2 : Int) := by unfold readElE readElI; rw [h]; exact ⟨rfl, rfl⟩
theorem readEl_none {s : ByteArray} {i about : Int} (h : readElR s i about = none) : readElE s i about = zeroE ∧ readElI s i about = -1 := by unfold readElE readElI; rw [h]; exact ⟨rfl, rfl⟩
theorem readEl_size (s : ByteArray) (i about : Int) : elW (readElE s i about) ≤ 5 * s.size := by
  cases h : readElR s i about with
  | none =>
    rw [(readEl_none h).1]
    have e1 : elW zeroE = (⟨#[]⟩ : ByteArray).size := elW_bare 0 ⟨#[]⟩
    have e2 : (⟨#[]⟩ : ByteArray).size = 0 := rfl
    omega
  | some x =>
    rw [(readEl_some h).1]
    unfold readElR at h
    split at h
    · cases h
    · rename_i h0
      split at h
      · cases h
      · rename_i y hy
        split at h
        · injection h with h
          subst h
          have := el_size s (s.size + 1) 60 about i.toNat y.1 y.2 (by omega) hy
          omega
        · cases h

/-- Six cells of a block. -/
def Six (w : World) (c : Nat) (v0 v1 v2 v3 v4 v5 : Value) : Prop := w.cell? ⟨c, 0, none⟩ = some v0 ∧ w.cell? ⟨c, 1, none⟩ = some v1 ∧ w.cell? ⟨c, 2, none⟩ = some v2 ∧ w.cell? ⟨c, 3, none⟩ = some v3 ∧ w.cell? ⟨c, 4, none⟩ = some v4 ∧ w.cell? ⟨c, 5, none⟩ = some v5
theorem ElP.zero (P : Nat → Prop) (w : World) : ElP P w (.agg #[.int .i64 0, .int .i64 0, .string ⟨#[]⟩, .slice none 0 0, .string ⟨#[]⟩, .slice none 0 0]) zeroE := ElP.note P w 0 ⟨#[]⟩

theorem six_fin {w W : World} {f : Nat → Value} (v0 v1 v2 v3 v4 v5 : Value) (hB : Below w.heap.size w W) (h6 : Many 6 W w.heap.size f) :
    Many 6 ((((((W.setCell ⟨w.heap.size, 0, none⟩ v0).setCell ⟨w.heap.size, 1, none⟩ v1).setCell ⟨w.heap.size, 2, none⟩ v2).setCell ⟨w.heap.size, 3, none⟩ v3).setCell ⟨w.heap.size, 4, none⟩ v4).setCell ⟨w.heap.size, 5, none⟩ v5) w.heap.size (fun i => [v0, v1, v2, v3, v4, v5].getD i undef) ∧
    Below w.heap.size w ((((((W.setCell ⟨w.heap.size, 0, none⟩ v0).setCell ⟨w.heap.size, 1, none⟩ v1).setCell ⟨w.heap.size, 2, none⟩ v2).setCell ⟨w.heap.size, 3, none⟩ v3).setCell ⟨w.heap.size, 4, none⟩ v4).setCell ⟨w.heap.size, 5, none⟩ v5) :=
  ⟨h6.all6 v0 v1 v2 v3 v4 v5, hB.trans (((((((Fr.set (p := w.heap.size) W 0 v0).trans (Fr.set _ 1 v1)).trans (Fr.set _ 2 v2)).trans (Fr.set _ 3 v3)).trans (Fr.set _ 4 v4)).trans (Fr.set _ 5 v5)).below (Nat.le_refl _) hB.size)⟩

set_option maxRecDepth 20000 in
set_option maxHeartbeats 8000000 in
theorem specReadEl (s : ByteArray) (i about : Int) (w : World) (hs : s.size ≤ 1048576) :
    Calls Tryz.prog 6 #[.string s, .int .i64 i, .int .i64 about] w fun r w' => Below w.heap.size w w' ∧ ∃ v, r = .returned (.tuple #[v, .int .i64 (readElI s i about)]) ∧ ElP (w.heap.size ≤ ·) w' v (readElE s i about) := by
  by_cases hout : i < 0 ∨ (s.size : Int) ≤ i
  · have hR : readElR s i about = none := by unfold readElR; rw [if_pos hout]
    rw [(readEl_none hR).1, (readEl_none hR).2]
    clear hR
    have bA := (Below.refl w.heap.size w).alloc (Nat.le_refl _) (.cells #[.int .i64 0, .int .i64 0, .string ⟨#[]⟩, .slice none 0 0, .string ⟨#[]⟩, .slice none 0 0] 25)
    by_cases h0 : i < 0
    · clear hout
      go_enter Tryz.func6, Tryz.ntmps6
      go_wp2_with fail
      refine bodyPost_ret (v := .tuple #[.agg #[.int .i64 0, .int .i64 0, .string ⟨#[]⟩, .slice none 0 0, .string ⟨#[]⟩, .slice none 0 0], .int .i64 (-1)]) ?_ rfl ⟨bA, _, rfl, ElP.zero _ _⟩
      simp [results, Tryz.results6, go_sem]
    · have h1 : (s.size : Int) ≤ i := hout.resolve_left h0
      have h1' : decide ((s.size : Int) ≤ i) = true := decide_eq_true h1
      have h0' : decide (i < 0) = false := decide_eq_false h0
      clear hout
      go_enter Tryz.func6, Tryz.ntmps6
      go_wp2_with fail
      refine bodyPost_ret (v := .tuple #[.agg #[.int .i64 0, .int .i64 0, .string ⟨#[]⟩, .slice none 0 0, .string ⟨#[]⟩, .slice none 0 0], .int .i64 (-1)]) ?_ rfl ⟨bA, _, rfl, ElP.zero _ _⟩
      simp [results, Tryz.results6, go_sem]
  obtain ⟨k, rfl⟩ : ∃ k : Nat, i = (k : Int) := ⟨i.toNat, by omega⟩
  have hkl : k < s.size := by omega
  have h0 : ¬ (k : Int) < 0 := by omega
  have h0' : decide ((k : Int) < 0) = false := decide_eq_false h0
  have h1 : ¬ (s.size : Int) ≤ (k : Int) := by omega
  have h1' : decide ((s.size : Int) ≤ (k : Int)) = false := decide_eq_false h1
  have Hr : Hid (readElR s (k : Int) about = match elM s (s.size + 1) 60 k about with | none => none | some x => if strictE x.1 = true then some x else none) := by
    show _ = _
    unfold readElR
    rw [if_neg hout]
    rfl
  have Hsz := el_size s (s.size + 1) 60 about k
  have bW : Below w.heap.size w ((w.alloc (.cells #[.int .i64 0, .int .i64 0, .string ⟨#[]⟩, .slice none 0 0, .string ⟨#[]⟩, .slice none 0 0] 25)).alloc (.cells #[.string s, .int .i64 (k : Int), .bool true] 38)) := ((Below.refl w.heap.size w).alloc (Nat.le_refl _) _).alloc (by simp) _
  have HD0 : RdAt ((w.alloc (.cells #[.int .i64 0, .int .i64 0, .string ⟨#[]⟩, .slice none 0 0, .string ⟨#[]⟩, .slice none 0 0] 25)).alloc (.cells #[.string s, .int .i64 (k : Int), .bool true] 38)) (w.heap.size + 1) s (k : Int) true := by
    unfold RdAt
    show ((w.heap.push _).push _)[w.heap.size + 1]? = _
    have e : w.heap.size + 1 = (w.heap.push (.cells #[.int .i64 0, .int .i64 0, .string ⟨#[]⟩, .slice none 0 0, .string ⟨#[]⟩, .slice none 0 0] 25)).size := by simp
    rw [e]
    exact Array.getElem?_push_size
  have H60 : Hid (Many 6 ((w.alloc (.cells #[.int .i64 0, .int .i64 0, .string ⟨#[]⟩, .slice none 0 0, .string ⟨#[]⟩, .slice none 0 0] 25)).alloc (.cells #[.string s, .int .i64 (k : Int), .bool true] 38)) w.heap.size (fun i => [Value.int .i64 0, Value.int .i64 0, Value.string ⟨#[]⟩, Value.slice none 0 0, Value.string ⟨#[]⟩, Value.slice none 0 0].getD i undef)) := (Many.new w [.int .i64 0, .int .i64 0, .string ⟨#[]⟩, .slice none 0 0, .string ⟨#[]⟩, .slice none 0 0] 25 undef).below (B := w.heap.size + 1) (by omega) ((Below.refl _ _).alloc (by simp) _)
  have HC := elC_all s (w.heap.size + 1) (by omega) (s.size + 1) 60 k about _ HD0 (by omega) (by omega) (by omega)
  have HE : Hid (∀ x, readElR s (k : Int) about = some x → readElE s (k : Int) about = x.1 ∧ readElI s (k : Int) about = (x.2 : Int)) := fun x h => readEl_some h
  have HE0 : Hid (readElR s (k : Int) about = none → readElE s (k : Int) about = zeroE ∧ readElI s (k : Int) about = -1) := fun h => readEl_none h
  generalize readElE s (k : Int) about = E at *
  generalize readElI s (k : Int) about = J at *
  clear hout
  go_enter Tryz.func6, Tryz.ntmps6
  go_wp2_with fail
  generalize (w.alloc (.cells #[.int .i64 0, .int .i64 0, .string ⟨#[]⟩, .slice none 0 0, .string ⟨#[]⟩, .slice none 0 0] 25)).alloc (.cells #[.string s, .int .i64 (k : Int), .bool true] 38) = W0 at *
  refine HC.mono ?_
  rintro r w1 ⟨v, rfl, hleft, hfr⟩
  have HB1 : Hid (Below w.heap.size w w1) := bW.trans (hfr.below (by omega) bW.size)
  have H61 : Hid (Many 6 w1 w.heap.size (fun i => [Value.int .i64 0, Value.int .i64 0, Value.string ⟨#[]⟩, Value.slice none 0 0, Value.string ⟨#[]⟩, Value.slice none 0 0].getD i undef)) := H60.out.fr hfr (by omega)
  have hN0 : w.heap.size + 1 < W0.heap.size := HD0.lt
  clear HC HD0 H60 bW hfr
  generalize W0.heap.size = N0 at *
  rcases hleft with ⟨e, j, hR, hkj, hjs, heP, hD⟩ | ⟨hR, ⟨e, heP⟩, kx, hD⟩
  · obtain ⟨kd, sq, nm, ats, tx, ks⟩ := e
    have HeP : Hid (ElP (N0 ≤ ·) w1 v (.mk kd sq nm ats tx ks)) := heP
    obtain ⟨av, ka, kc, ev, ⟨xa, xc, eav, _⟩, _⟩ := heP
    subst eav
    subst ev
    have hc9 := hD.lt
    have bA := (Below.refl w1.heap.size w1).alloc (Nat.le_refl _) (.cells #[.int .i64 kd, .int .i64 sq, .string nm, .slice xa ats.length xc, .string tx, .slice ka ks.length kc] 25)
    have P2 : ElP (N0 ≤ ·) (w1.alloc (.cells #[.int .i64 kd, .int .i64 sq, .string nm, .slice xa ats.length xc, .string tx, .slice ka ks.length kc] 25)) (.agg #[.int .i64 kd, .int .i64 sq, .string nm, .slice xa ats.length xc, .string tx, .slice ka ks.length kc]) (.mk kd sq nm ats tx ks) := HeP.out.stay (fun b _ h2 => bA.block b h2) bA.size
    have HD2 := hD.keep bA
    have HB2 : Hid (Below w.heap.size w (w1.alloc (.cells #[.int .i64 kd, .int .i64 sq, .string nm, .slice xa ats.length xc, .string tx, .slice ka ks.length kc] 25))) := HB1.out.trans (bA.mono HB1.out.size)
    have H62 := H61.out.below (B := w1.heap.size) H61.out.1 bA
    have hw := Hsz _ _ (by omega) hR
    have hRe := Hr.out
    rw [hR] at hRe
    have HOk := specElOk (.mk kd sq nm ats tx ks) w.heap.size _ _ (P2.wide (P' := (w.heap.size ≤ ·)) (fun b _ h => by omega)).val (el_small _ (by omega)) (by have := elN_le (.mk kd sq nm ats tx ks); omega)
    have est : (decide (elD (.mk kd sq nm ats tx ks) ≤ 60) && okE (.mk kd sq nm ats tx ks)) = strictE (.mk kd sq nm ats tx ks) := rfl
    rw [est] at HOk
    have c2 := HD2.c2
    have HP2 : Hid (ElP (N0 ≤ ·) (w1.alloc (.cells #[.int .i64 kd, .int .i64 sq, .string nm, .slice xa ats.length xc, .string tx, .slice ka ks.length kc] 25)) (.agg #[.int .i64 kd, .int .i64 sq, .string nm, .slice xa ats.length xc, .string tx, .slice ka ks.length kc]) (.mk kd sq nm ats tx ks)) := P2
    have HDh : Hid (RdAt (w1.alloc (.cells #[.int .i64 kd, .int .i64 sq, .string nm, .slice xa ats.length xc, .string tx, .slice ka ks.length kc] 25)) (w.heap.size + 1) s (j : Int) true) := HD2
    have H6h : Hid (Many 6 (w1.alloc (.cells #[.int .i64 kd, .int .i64 sq, .string nm, .slice xa ats.length xc, .string tx, .slice ka ks.length kc] 25)) w.heap.size _) := H62
    clear bA P2 HD2 H62 hD H61 HeP HB1 est hw Hsz hR Hr
    cases hst : strictE (.mk kd sq nm ats tx ks)
    · rw [hst] at HOk
      have hRe' : readElR s (k : Int) about = none := by rw [hRe]; simp [hst]
      obtain ⟨rfl, rfl⟩ := HE0.out hRe'
      clear HE HE0 hRe hRe' hst
      go_wp2_with fail
      refine HOk.mono ?_
      rintro r w3 ⟨rfl, b3⟩
      have H63 := H6h.out.below (B := _) H6h.out.1 b3
      have HB3 : Hid (Below w.heap.size w w3) := HB2.out.trans (b3.mono HB2.out.size)
      clear b3 HOk HP2 HDh H6h HB2 c2
      generalize w1.heap.size = c9 at *
      have r0 := (H63.2 0 (by decide)).1
      have r1 := (H63.2 1 (by decide)).1
      have r2 := (H63.2 2 (by decide)).1
      have r3 := (H63.2 3 (by decide)).1
      have r4 := (H63.2 4 (by decide)).1
      have r5 := (H63.2 5 (by decide)).1
      have s0 := (H63.2 0 (by decide)).2
      have s1 := (H63.2 1 (by decide)).2
      have s2 := (H63.2 2 (by decide)).2
      have s3 := (H63.2 3 (by decide)).2
      have s4 := (H63.2 4 (by decide)).2
      have s5 := (H63.2 5 (by decide)).2
      simp at r0 r1 r2 r3 r4 r5
      have HH6 : Hid (Many 6 w3 w.heap.size _) := H63
      have HFin : Hid _ := six_fin (.int .i64 0) (.int .i64 0) (.string ⟨#[]⟩) (.slice none 0 0) (.string ⟨#[]⟩) (.slice none 0 0) HB3.out HH6.out
      clear H63 HH6 HB3
      go_wp2_with fail
      refine bodyPost_ret (v := .tuple #[.agg #[.int .i64 0, .int .i64 0, .string ⟨#[]⟩, .slice none 0 0, .string ⟨#[]⟩, .slice none 0 0], .int .i64 (-1)]) ?_ rfl ⟨HFin.out.2, _, rfl, ElP.zero _ _⟩
      have T := HFin.out.1
      have t0 := (T.2 0 (by decide)).1
      have t1 := (T.2 1 (by decide)).1
      have t2 := (T.2 2 (by decide)).1
      have t3 := (T.2 3 (by decide)).1
      have t4 := (T.2 4 (by decide)).1
      have t5 := (T.2 5 (by decide)).1
      simp at t0 t1 t2 t3 t4 t5
      simp [results, Tryz.results6, go_sem, t0, t1, t2, t3, t4, t5]
    · rw [hst] at HOk
      simp only [hst, if_true] at hRe
      obtain ⟨rfl, rfl⟩ := HE.out _ hRe
      clear HE HE0 hRe hst
      go_wp2_with fail
      refine HOk.mono ?_
      rintro r w3 ⟨rfl, b3⟩
      have HP3 : Hid (ElP (N0 ≤ ·) w3 (.agg #[.int .i64 kd, .int .i64 sq, .string nm, .slice xa ats.length xc, .string tx, .slice ka ks.length kc]) (.mk kd sq nm ats tx ks)) := HP2.out.stay (fun b _ h2 => b3.block b h2) b3.size
      have HD3 : Hid (RdAt w3 (w.heap.size + 1) s (j : Int) true) := HDh.out.keep b3
      have H63 := H6h.out.below (B := _) H6h.out.1 b3
      have HB3 : Hid (Below w.heap.size w w3) := HB2.out.trans (b3.mono HB2.out.size)
      have y0 : w3.cell? ⟨w1.heap.size, 0, none⟩ = some (.int .i64 kd) := keep_cell b3 (by simp)
      have y1 : w3.cell? ⟨w1.heap.size, 1, none⟩ = some (.int .i64 sq) := keep_cell b3 (by simp)
      have y2 : w3.cell? ⟨w1.heap.size, 2, none⟩ = some (.string nm) := keep_cell b3 (by simp)
      have y3 : w3.cell? ⟨w1.heap.size, 3, none⟩ = some (.slice xa ats.length xc) := keep_cell b3 (by simp)
      have y4 : w3.cell? ⟨w1.heap.size, 4, none⟩ = some (.string tx) := keep_cell b3 (by simp)
      have y5 : w3.cell? ⟨w1.heap.size, 5, none⟩ = some (.slice ka ks.length kc) := keep_cell b3 (by simp)
      clear b3 HOk HP2 HDh H6h HB2 c2
      generalize w1.heap.size = c9 at *
      have c1 := HD3.out.c1
      have r0 := (H63.2 0 (by decide)).1
      have r1 := (H63.2 1 (by decide)).1
      have r2 := (H63.2 2 (by decide)).1
      have r3 := (H63.2 3 (by decide)).1
      have r4 := (H63.2 4 (by decide)).1
      have r5 := (H63.2 5 (by decide)).1
      have s0 := (H63.2 0 (by decide)).2
      have s1 := (H63.2 1 (by decide)).2
      have s2 := (H63.2 2 (by decide)).2
      have s3 := (H63.2 3 (by decide)).2
      have s4 := (H63.2 4 (by decide)).2
      have s5 := (H63.2 5 (by decide)).2
      simp at r0 r1 r2 r3 r4 r5
      have HH6 : Hid (Many 6 w3 w.heap.size _) := H63
      clear H63
      have n1 : w.heap.size ≠ w.heap.size + 1 := by omega
      have n2 : w.heap.size + 1 ≠ w.heap.size := by omega
      have n3 : c9 ≠ w.heap.size := by omega
      have n4 : w.heap.size ≠ c9 := by omega
      have HFin : Hid _ := six_fin (.int .i64 kd) (.int .i64 sq) (.string nm) (.slice xa ats.length xc) (.string tx) (.slice ka ks.length kc) HB3.out HH6.out
      have hag := agr_all6 (lo := N0) (c := w.heap.size) w3 (by omega) (.int .i64 kd) (.int .i64 sq) (.string nm) (.slice xa ats.length xc) (.string tx) (.slice ka ks.length kc)
      have HPF : Hid (ElP (w.heap.size ≤ ·) _ (.agg #[.int .i64 kd, .int .i64 sq, .string nm, .slice xa ats.length xc, .string tx, .slice ka ks.length kc]) (.mk kd sq nm ats tx ks)) := (HP3.out.stay (fun b h1 _ => hag.1 b h1) hag.2).wide (fun b _ h => by omega)
      clear hag HP3 HD3 HB3 HH6
      go_upto_region 7 with fail
      go_region
      go_wp2_with fail
      have hdr : ∀ X : World, Below X.heap.size X X.drew := fun X => (Below.refl _ _).drew
      refine bodyPost_ret (v := .tuple #[.agg #[.int .i64 kd, .int .i64 sq, .string nm, .slice xa ats.length xc, .string tx, .slice ka ks.length kc], .int .i64 (j : Int)]) ?_ rfl ⟨HFin.out.2.drew, _, rfl, HPF.out.stay (fun b _ h2 => (hdr _).block b h2) (hdr _).size⟩
      have T := HFin.out.1.below HFin.out.1.1 (hdr _)
      have t0 := (T.2 0 (by decide)).1
      have t1 := (T.2 1 (by decide)).1
      have t2 := (T.2 2 (by decide)).1
      have t3 := (T.2 3 (by decide)).1
      have t4 := (T.2 4 (by decide)).1
      have t5 := (T.2 5 (by decide)).1
      simp at t0 t1 t2 t3 t4 t5
      simp [results, Tryz.results6, go_sem, t0, t1, t2, t3, t4, t5]
  · obtain ⟨kd, sq, nm, ats, tx, ks⟩ := e
    have HeP : Hid (ElP (N0 ≤ ·) w1 v (.mk kd sq nm ats tx ks)) := heP
    obtain ⟨av, ka, kc, ev, ⟨xa, xc, eav, _⟩, _⟩ := heP
    subst eav
    subst ev
    have hc9 := hD.lt
    have bA := (Below.refl w1.heap.size w1).alloc (Nat.le_refl _) (.cells #[.int .i64 kd, .int .i64 sq, .string nm, .slice xa ats.length xc, .string tx, .slice ka ks.length kc] 25)
    have P2 : ElP (N0 ≤ ·) (w1.alloc (.cells #[.int .i64 kd, .int .i64 sq, .string nm, .slice xa ats.length xc, .string tx, .slice ka ks.length kc] 25)) (.agg #[.int .i64 kd, .int .i64 sq, .string nm, .slice xa ats.length xc, .string tx, .slice ka ks.length kc]) (.mk kd sq nm ats tx ks) := HeP.out.stay (fun b _ h2 => bA.block b h2) bA.size
    have HD2 := hD.keep bA
    have HB2 : Hid (Below w.heap.size w (w1.alloc (.cells #[.int .i64 kd, .int .i64 sq, .string nm, .slice xa ats.length xc, .string tx, .slice ka ks.length kc] 25))) := HB1.out.trans (bA.mono HB1.out.size)
    have H62 := H61.out.below (B := w1.heap.size) H61.out.1 bA
    have hRe := Hr.out
    rw [hR] at hRe
    obtain ⟨rfl, rfl⟩ := HE0.out hRe
    have c2 := HD2.c2
    have H63 := H62
    have HB3 := HB2
    clear bA P2 HD2 H62 hD H61 HeP HB1 Hsz hR Hr HE HE0 hRe HB2
    have hc9' := hc9
    clear hc9'
    have r0 := (H63.2 0 (by decide)).1
    have r1 := (H63.2 1 (by decide)).1
    have r2 := (H63.2 2 (by decide)).1
    have r3 := (H63.2 3 (by decide)).1
    have r4 := (H63.2 4 (by decide)).1
    have r5 := (H63.2 5 (by decide)).1
    have s0 := (H63.2 0 (by decide)).2
    have s1 := (H63.2 1 (by decide)).2
    have s2 := (H63.2 2 (by decide)).2
    have s3 := (H63.2 3 (by decide)).2
    have s4 := (H63.2 4 (by decide)).2
    have s5 := (H63.2 5 (by decide)).2
    simp at r0 r1 r2 r3 r4 r5
    have HH6 : Hid (Many 6 _ w.heap.size _) := H63
    have HFin : Hid _ := six_fin (.int .i64 0) (.int .i64 0) (.string ⟨#[]⟩) (.slice none 0 0) (.string ⟨#[]⟩) (.slice none 0 0) HB3.out HH6.out
    clear H63 HH6 HB3
    go_wp2_with fail
    refine bodyPost_ret (v := .tuple #[.agg #[.int .i64 0, .int .i64 0, .string ⟨#[]⟩, .slice none 0 0, .string ⟨#[]⟩, .slice none 0 0], .int .i64 (-1)]) ?_ rfl ⟨HFin.out.2, _, rfl, ElP.zero _ _⟩
    have T := HFin.out.1
    have t0 := (T.2 0 (by decide)).1
    have t1 := (T.2 1 (by decide)).1
    have t2 := (T.2 2 (by decide)).1
    have t3 := (T.2 3 (by decide)).1
    have t4 := (T.2 4 (by decide)).1
    have t5 := (T.2 5 (by decide)).1
    simp at t0 t1 t2 t3 t4 t5
    simp [results, Tryz.results6, go_sem, t0, t1, t2, t3, t4, t5]

end Go.Proofs.YtbmmghkieolpkaaGreatDoor.Sg
