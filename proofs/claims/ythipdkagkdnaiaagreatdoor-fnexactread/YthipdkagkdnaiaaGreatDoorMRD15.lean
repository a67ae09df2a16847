/- Plain: how much an element that was read can hold. Contracts of the laws' elements compared: one with itself. Common to the laws of one element. Written by mk_ellaw.py. Contracts of the model's l15El and ElOk: elements that are strict. Written by mk_elok.py. Contract of the model's DocOk, and its law out of the program's contract. Contracts of the model's l17Said, ElSaid and Write. Contracts of the model's ElSaid and Write. A row of elements that grows beside the reader's block p, which may lie behind it: none of it lies in p. Contracts of the model's Read and Well. Written by mk_rdread.py. -/
import Derived.Test.YthipdkagkdnaiaaGreatDoorRdEl
import Derived.Test.YthipdkagkdnaiaaGreatDoorElToS
import Derived.Test.YthipdkagkdnaiaaGreatDoorMRD02
import Derived.Lib.QuietBelow
import Derived.BigQuiet
import Derived.Test.YthipdkagkdnaiaaGreatDoorElSpec
import Derived.Test.YthipdkagkdnaiaaGreatDoorMRD01
import Derived.Test.YthipdkagkdnaiaaGreatDoorMRD07
import Derived.Test.YthipdkagkdnaiaaGreatDoorMRD04
import Derived.Deep.Cut
import Derived.Deep.CutRange
namespace Go.Proofs.YthipdkagkdnaiaaGreatDoor.Sg
open Go.ChangeShapes Go.WideShapes Go.ChangeAt Go.RowKit

theorem attrsW_more (l : List AttrB) (p : AttrB) : attrsW (l ++ [p]) = attrsW l + 1 + (p.1.size + p.2.size) := by
  unfold attrsW attrW
  simp
  omega
theorem attrsR_size (s : ByteArray) (about : Int) : ∀ (f i : Nat) (out : List AttrB) (sp : Int) (told : Bool) (r : List AttrB × Int × Nat), attrsR s about f i out sp told = some r → i ≤ s.size → i ≤ r.2.2 ∧ r.2.2 ≤ s.size ∧ attrsW r.1 ≤ attrsW out + 5 * (r.2.2 - i)
  | 0, _, _, _, _, _, h, _ => by cases h
  | f + 1, i, out, sp, told, r, h, hi => by
    rw [attrsR] at h
    split at h
    · split at h
      · cases h
      · rename_i hx
        obtain ⟨j, ej, hj, hj2, hj3⟩ := xaI_le hx
        have et : (xaI s ((i : Int) + 1)).toNat = j := by omega
        rw [et] at h
        split at h
        · cases h
        · split at h
          · split at h
            · cases h
            · have := attrsR_size s about f j _ _ _ r h hj2
              omega
          · have h2 := attrsR_size s about f j _ _ _ r h hj2
            rw [attrsW_more] at h2
            simp only at h2
            omega
    · split at h
      · injection h with h
        rw [← h]
        exact ⟨Nat.le_refl _, hi, by simp⟩
      · cases h
theorem elW_bare (k : Int) (t : ByteArray) : elW (.mk k 0 ⟨#[]⟩ [] t []) = t.size := by
  have e0 : (⟨#[]⟩ : ByteArray).size = 0 := rfl
  have e1 : attrsW ([] : List AttrB) = 0 := rfl
  have e2 : elsW ([] : List ElB) = 0 := by unfold elsW; rfl
  unfold elW
  rw [e0, e1, e2, List.length_nil]
  omega
/-- What is read of one element is no more than five times what it takes. -/
def ElSz (s : ByteArray) (el : Nat → Option (ElB × Nat)) : Prop := ∀ k e j, k ≤ s.size → el k = some (e, j) → k < j ∧ j ≤ s.size ∧ elW e + 1 ≤ 5 * (j - k)
theorem kids_size (s : ByteArray) (el : Nat → Option (ElB × Nat)) (hE : ElSz s el) : ∀ (f i : Nat) (r : List ElB × Nat), kidsL s el f i = some r → i ≤ s.size → i ≤ r.2 ∧ r.2 ≤ s.size ∧ r.1.length + elsW r.1 ≤ 5 * (r.2 - i)
  | 0, _, _, h, _ => by cases h
  | f + 1, i, r, h, hi => by
    rw [kidsL] at h
    split at h
    · injection h with h
      rw [← h]
      exact ⟨Nat.le_refl _, hi, by simp [elsW]⟩
    · split at h
      · cases h
      · rename_i hlt
        have hlt' : i < s.size := by omega
        split at h
        · split at h
          · cases h
          · rename_i hx
            obtain ⟨j, ej, hj, hj2, hj3⟩ := xoI_le hx
            have et : (xoI s (i : Int)).toNat = j := by omega
            rw [et] at h
            obtain ⟨r', hr', rfl⟩ := Option.map_eq_some_iff.1 h
            have h2 := kids_size s el hE f j r' hr' hj2
            have hw : elW (.mk 3 0 ⟨#[]⟩ [] (xoS s (i : Int)) []) ≤ (xoS s (i : Int)).size := by
              exact Nat.le_of_eq (elW_bare 3 _)
            simp only [List.length_cons, elsW]
            omega
        · split at h
          · split at h
            · cases h
            · rename_i x hx
              obtain ⟨e, j⟩ := x
              have h1 := hE i e j hi hx
              obtain ⟨r', hr', rfl⟩ := Option.map_eq_some_iff.1 h
              have h2 := kids_size s el hE f j r' hr' h1.2.1
              simp only [List.length_cons, elsW]
              omega
          · rename_i h60
            split at h
            · cases h
            · rename_i hx
              obtain ⟨j, ej, hj, hj2, hj3⟩ := xtI_lt hlt' h60 hx
              have et : (xtI s (i : Int) ltS).toNat = j := by omega
              rw [et] at h
              obtain ⟨r', hr', rfl⟩ := Option.map_eq_some_iff.1 h
              have h2 := kids_size s el hE f j r' hr' hj2
              have hw : elW (.mk 2 0 ⟨#[]⟩ [] (xtS s (i : Int) ltS) []) ≤ (xtS s (i : Int) ltS).size := by
                exact Nat.le_of_eq (elW_bare 2 _)
              simp only [List.length_cons, elsW]
              omega
theorem el_size (s : ByteArray) : ∀ (m deep : Nat) (about : Int), ElSz s (fun i => elM s m deep i about)
  | 0, _, _ => fun k e j _ h => by cases h
  | m + 1, deep, about => fun i e j hi h => by
    simp only [elM] at h
    split at h
    · cases h
    · rename_i h1
      have hst : standsB s i ltS = true := by
        cases e : standsB s i ltS
        · exact absurd (.inl e) h1
        · rfl
      have hi1 := stands_le hst
      have u1 : ltS.size = 1 := rfl
      rw [u1] at hi1
      split at h
      · cases h
      · obtain ⟨j1, ej1, hj1, hj2, hj3⟩ := xnI_le (s := s) (k := i + 1) hi1
        have et : (xnI s ((i + 1 : Nat) : Int)).toNat = j1 := by omega
        rw [et] at h
        have e0 : (⟨#[]⟩ : ByteArray).size = 0 := rfl
        have e1 : attrsW ([] : List AttrB) = 0 := rfl
        have e2 : elsW ([] : List ElB) = 0 := by unfold elsW; rfl
        split at h
        · cases h
        · rename_i r hr
          have ha := attrsR_size s about _ _ _ _ _ r hr hj2
          rw [e1] at ha
          split at h
          · rename_i hsl
            have h2 := stands_le hsl
            have u2 : slashGt.size = 2 := rfl
            injection h with h
            injection h with h3 h4
            rw [← h3, ← h4]
            unfold elW
            rw [e0, e2, List.length_nil]
            omega
          · split at h
            · cases h
            · rename_i hgt
              have hgt' : standsB s r.2.2 gtS = true := by
                cases e : standsB s r.2.2 gtS
                · exact absurd e hgt
                · rfl
              have h2 := stands_le hgt'
              have u2 : gtS.size = 1 := rfl
              split at h
              · cases h
              · rename_i k hk
                have h5 := kids_size s (fun q => elM s m (deep - 1) q r.2.1) (el_size s m (deep - 1) r.2.1) _ _ k hk (by omega)
                split at h
                · rename_i hcl
                  have h6 := stands_le hcl
                  have u3 : ltSlash.size = 2 := rfl
                  have u4 : (ltSlash ++ xnS s ((i + 1 : Nat) : Int) ++ gtS).size = 2 + (xnS s ((i + 1 : Nat) : Int)).size + 1 := by
                    simp only [ByteArray.size_append]
                    rw [u2, u3]
                  injection h with h
                  injection h with h3 h4
                  rw [← h3, ← h4]
                  unfold elW
                  rw [e0]
                  omega
                · cases h

end Go.Proofs.YthipdkagkdnaiaaGreatDoor.Sg

namespace Go.Proofs.YthipdkagkdnaiaaGreatDoor.Sg
open Go.ChangeShapes Go.WideShapes Go.ChangeAt Go.RowKit

def EqEl (e : ElB) : Prop := ∀ (lo1 lo2 : Nat) (v1 v2 : Value) (w : World), ElV (QA lo1) (lo1 ≤ ·) w v1 e → ElV (QA lo2) (lo2 ≤ ·) w v2 e → ElLight e → Calls Tryz.prog 8 #[v1, v2] w fun r w' => r = .returned (.bool true) ∧ Below w.heap.size w w'
def EqElS (es : List ElB) : Prop := ∀ (lo1 lo2 : Nat) (a b : Option Addr) (n ca cb : Nat) (w : World), KidsIn (QA lo1) (lo1 ≤ ·) w a es → KidsIn (QA lo2) (lo2 ≤ ·) w b es → es.length = n → n ≤ 1099511627776 → ElsLight es → Calls Tryz.prog 13 #[.slice a n ca, .slice b n cb] w fun r w' => r = .returned (.bool true) ∧ Below w.heap.size w w'

set_option maxRecDepth 20000 in
set_option maxHeartbeats 4000000 in
theorem eqEl_of (kd sp : Int) (nm : ByteArray) (ats : List AttrB) (tx : ByteArray) (ks : List ElB) (hB : EqElS ks) : EqEl (.mk kd sp nm ats tx ks) := by
  intro lo1 lo2 v1 v2 w h1 h2 hl
  obtain ⟨av1, p1, r1, rfl, ⟨b1, c1, rfl, _, _, A1, _⟩, K1⟩ := h1
  obtain ⟨av2, p2, r2, rfl, ⟨b2, c2, rfl, _, _, A2, _⟩, K2⟩ := h2
  unfold ElLight at hl
  obtain ⟨hn, hk, hkl⟩ := hl
  have g0 : (kd != kd) = false := by simp
  have g5 : (sp != sp) = false := by simp
  have g1 : (nm.toList == nm.toList) = true := by simp
  have g2 : (tx.toList == tx.toList) = true := by simp
  have HA1 : Hid (AttrsAt w b1 ats) := A1
  have HA2 : Hid (AttrsAt w b2 ats) := A2
  have HK : Hid (∀ W, Below w.heap.size w W → Calls Tryz.prog 13 #[.slice p1 ks.length r1, .slice p2 ks.length r2] W fun r w' => r = .returned (.bool true) ∧ Below W.heap.size W w') := fun W hW => hB lo1 lo2 p1 p2 ks.length r1 r2 W (K1.keep (QA.lies _) hW) (K2.keep (QA.lies _) hW) rfl hk hkl
  clear A1 A2 K1 K2 hB hkl
  obtain ⟨X1, hX1⟩ : ∃ X : Obj, X = .cells #[.int .i64 kd, .int .i64 sp, .string nm, .slice b1 ats.length c1, .string tx, .slice p1 ks.length r1] 25 := ⟨_, rfl⟩
  obtain ⟨X2, hX2⟩ : ∃ X : Obj, X = .cells #[.int .i64 kd, .int .i64 sp, .string nm, .slice b2 ats.length c2, .string tx, .slice p2 ks.length r2] 25 := ⟨_, rfl⟩
  have bb : Below w.heap.size w ((w.alloc X1).alloc X2) := ((Below.refl _ _).alloc (Nat.le_refl _) _).alloc (by simp) _
  have hz : ((w.alloc X1).alloc X2).heap.size = w.heap.size + 1 + 1 := by simp
  subst hX1 hX2
  go_enter Tryz.func8, Tryz.ntmps8
  go_wp2_with fail
  refine (eqAttrS_same ats _ _ ats.length c1 c2 _ (HA1.out.below bb) (HA2.out.below bb) rfl (by omega)).mono ?_
  rintro e w1 ⟨rfl, b1'⟩
  rw [hz] at b1'
  have l1 : w.heap.size < w.heap.size + 1 + 1 := by omega
  have l2 : w.heap.size + 1 < w.heap.size + 1 + 1 := by omega
  have d4 : w1.cell? ⟨w.heap.size, 4, none⟩ = some (.string tx) := (b1'.cell l1).trans (by simp)
  have d5 : w1.cell? ⟨w.heap.size, 5, none⟩ = some (.slice p1 ks.length r1) := (b1'.cell l1).trans (by simp)
  have f4 : w1.cell? ⟨w.heap.size + 1, 4, none⟩ = some (.string tx) := (b1'.cell l2).trans (by simp)
  have f5 : w1.cell? ⟨w.heap.size + 1, 5, none⟩ = some (.slice p2 ks.length r2) := (b1'.cell l2).trans (by simp)
  have bb1 : Below w.heap.size w w1 := bb.trans (b1'.mono (by omega))
  clear b1' bb
  go_wp2_with fail
  refine (HK.out _ bb1).mono ?_
  rintro e w2 ⟨rfl, b2'⟩
  have bb2 : Below w.heap.size w w2 := bb1.trans (b2'.mono bb1.size)
  clear b2' bb1 d4 d5 f4 f5
  go_wp2_with fail
  go_ret
  exact ⟨rfl, bb2⟩

set_option maxRecDepth 20000 in
set_option maxHeartbeats 4000000 in
theorem eqElS_of (l : List ElB) (hA : ∀ e ∈ l, EqEl e) : EqElS l := by
  intro lo1 lo2 a b n ca cb w ha hb hl hn hli
  have Ha : Hid (KidsIn (QA lo1) (lo1 ≤ ·) w a l) := ha
  have Hb : Hid (KidsIn (QA lo2) (lo2 ≤ ·) w b l) := hb
  have Hl : Hid (l.length = n) := hl
  have HL : Hid (ElsLight l) := hli
  have HA : Hid (∀ e ∈ l, EqEl e) := hA
  clear ha hb hl hli hA
  go_enter Tryz.func13, Tryz.ntmps13
  go_wp2
  go_loopw [5] (fun i wr => ∃ k : Nat, k ≤ n ∧ i = .int .i64 k ∧ Below w.heap.size w wr) (fun i _ => n - (intOf i).toNat)
  case atStart => exact ⟨0, Nat.zero_le _, rfl, Below.refl _ _⟩
  case round =>
    obtain ⟨k, hk, rfl, hbel⟩ := hrel
    by_cases hlt : k < n
    · have hkl : k < l.length := by rw [Hl.out]; exact hlt
      rcases Ha.out.keep (QA.lies _) hbel with h | ⟨ba, oa, rfl, _, hca⟩
      · rw [h] at hkl
        exact absurd hkl (Nat.not_lt_zero _)
      rcases Hb.out.keep (QA.lies _) hbel with h | ⟨bb, ob, rfl, _, hcb⟩
      · rw [h] at hkl
        exact absurd hkl (Nat.not_lt_zero _)
      obtain ⟨v0, v1, v2, v3, v4, v5, c0, c1, c2, c3, c4, c5, hV⟩ := (hca.get k hkl).cells
      obtain ⟨u0, u1, u2, u3, u4, u5, d0, d1, d2, d3, d4, d5, hU⟩ := (hcb.get k hkl).cells
      have hlen := HL.out.get _ (List.getElem_mem hkl)
      have hE := HA.out _ (List.getElem_mem hkl)
      have Htok : ∀ d os, Calls Tryz.prog 8 #[.agg #[v0, v1, v2, v3, v4, v5], .agg #[u0, u1, u2, u3, u4, u5]] (Sort.grow (redrawn wr d) os) fun e w'' => e = .returned (.bool true) ∧ ∃ p : Regrown, w'' = Sort.grow (redrawn wr p.d) p.os := fun d os => Calls.regrown_of (hE lo1 lo2 _ _ _ (hV.keep (QA.lies _) (below_regrown wr d os)) (hU.keep (QA.lies _) (below_regrown wr d os)) hlen)
      have k0 : (0 : Int) ≤ (k : Int) := by omega
      have k1 : (k : Int) < (n : Int) := by omega
      have x0 := cell_regrown c0
      have x1 := cell_regrown c1
      have x2 := cell_regrown c2
      have x3 := cell_regrown c3
      have x4 := cell_regrown c4
      have x5 := cell_regrown c5
      have y0 := cell_regrown d0
      have y1 := cell_regrown d1
      have y2 := cell_regrown d2
      have y3 := cell_regrown d3
      have y4 := cell_regrown d4
      have y5 := cell_regrown d5
      clear c0 c1 c2 c3 c4 c5 d0 d1 d2 d3 d4 d5 hV hU hlen hE hca hcb
      go_upto_region 6 with fail
      refine wp_region_quiet_below (by kernel_rfl) (by kernel_rfl) ?_
      repeat (go_big_quiet_step (first | exact Htok _ _))
      refine wpQuiet_nil ?_
      intro _ hw'
      obtain ⟨⟨dq, osq⟩, hw''⟩ := hw'
      subst hw''
      have bf := hbel.trans ((below_regrown wr dq osq).mono hbel.size)
      generalize Sort.grow (redrawn wr dq) osq = W at *
      clear x0 x1 x2 x3 x4 x5 y0 y1 y2 y3 y4 y5 Htok
      go_wp2_with fail
      go_roundw
      case rel => exact ⟨k + 1, by omega, by go_num, bf⟩
      case measure => simp [intOf]; omega
    · have g1 : decide ((k : Int) < (n : Int)) = false := decide_eq_false (by omega)
      go_wp2
      go_ret
      exact ⟨rfl, hbel⟩

mutual
theorem eqEl_any : ∀ e : ElB, EqEl e
  | .mk kd sp nm ats tx ks => eqEl_of kd sp nm ats tx ks (eqElS_of ks (eqEl_all ks))
theorem eqEl_all : ∀ es : List ElB, ∀ e ∈ es, EqEl e
  | [], _, h => nomatch h
  | x :: xs, e, h => (List.mem_cons.1 h).elim (fun he => he ▸ eqEl_any x) (fun hm => eqEl_all xs e hm)
end
theorem eqElS_any (es : List ElB) : EqElS es := eqElS_of es fun e _ => eqEl_any e

end Go.Proofs.YthipdkagkdnaiaaGreatDoor.Sg

namespace Go.Proofs.YthipdkagkdnaiaaGreatDoor.Sg
open Go.ChangeShapes Go.WideShapes Go.ChangeAt Go.RowKit

theorem Many.six {w : World} {b : Nat} {v0 v1 v2 v3 v4 v5 : Value} (h : Many 6 w b (fun i => [v0, v1, v2, v3, v4, v5].getD i undef)) :
    w.cell? ⟨b, 0, none⟩ = some v0 ∧ w.cell? ⟨b, 1, none⟩ = some v1 ∧ w.cell? ⟨b, 2, none⟩ = some v2 ∧ w.cell? ⟨b, 3, none⟩ = some v3 ∧ w.cell? ⟨b, 4, none⟩ = some v4 ∧ w.cell? ⟨b, 5, none⟩ = some v5 :=
  ⟨(h.2 0 (by omega)).1, (h.2 1 (by omega)).1, (h.2 2 (by omega)).1, (h.2 3 (by omega)).1, (h.2 4 (by omega)).1, (h.2 5 (by omega)).1⟩
theorem Many.kept {n : Nat} {w w' : World} {b : Nat} {f : Nat → Value} (h : Many n w b f) (hb : Below w.heap.size w w') : Many n w' b f := h.below h.1 hb
theorem attrsW_len (l : List AttrB) : l.length ≤ attrsW l := by unfold attrsW; omega
mutual
theorem el_light : ∀ e : ElB, elW e ≤ 16777216 → ElLight e
  | .mk kd sp nm ats tx ks, h => by
    unfold elW at h
    have := attrsW_len ats
    unfold ElLight
    exact ⟨by omega, by omega, els_light ks (by omega)⟩
theorem els_light : ∀ es : List ElB, elsW es ≤ 16777216 → ElsLight es
  | [], _ => by unfold ElsLight; trivial
  | e :: es, h => by
    unfold elsW at h
    unfold ElsLight
    exact ⟨el_light e (by omega), els_light es (by omega)⟩
end
end Go.Proofs.YthipdkagkdnaiaaGreatDoor.Sg

namespace Go.Proofs.YthipdkagkdnaiaaGreatDoor.Sg
open Go.ChangeShapes Go.WideShapes Go.ChangeAt Go.RowKit

def plainE (sp : Int) (nm : ByteArray) (ats : List AttrB) (n : Nat) : Bool := decide (sp = 0) && (decide (nm.size = 0) && (decide (ats.length = 0) && decide (n = 0)))
/-- An element is strict by itself. -/
def okSelf (kd sp : Int) (nm : ByteArray) (ats : List AttrB) (tx : ByteArray) (n : Nat) : Bool :=
  if kd = 1 then inP sp (0, 2) && (stNameB nm && (attrsSt ats 0 && decide (tx.size = 0)))
  else if kd = 2 then plainE sp nm ats n && (decide (tx.size ≠ 0) && stTextB tx)
  else if kd = 3 then plainE sp nm ats n && stNoteB tx else false
mutual
/-- An element is strict, however deep. -/
def okE : ElB → Bool
  | .mk kd sp nm ats tx ks => okEs 0 ks && okSelf kd sp nm ats tx ks.length
def okEs : Int → List ElB → Bool
  | _, [] => true
  | pk, e :: es => (okE e && !(decide (kindE e = 2) && decide (pk = 2))) && okEs (kindE e) es
end
theorem okEs_drop (es : List ElB) (k : Nat) (h : k < es.length) (pk : Int) : okEs pk (es.drop k) = ((okE (es[k]'h) && !(decide (kindE (es[k]'h) = 2) && decide (pk = 2))) && okEs (kindE (es[k]'h)) (es.drop (k + 1))) := by
  rw [List.drop_eq_getElem_cons h, okEs]
mutual
/-- Texts and lists that are small. -/
def ElSmall : ElB → Prop
  | .mk _ _ nm ats tx ks => nm.size ≤ 16777216 ∧ tx.size ≤ 16777216 ∧ ats.length ≤ 16777216 ∧ (∀ p ∈ ats, p.1.size ≤ 16777216 ∧ p.2.size ≤ 16777216) ∧ ks.length ≤ 16777216 ∧ ElsSmall ks
def ElsSmall : List ElB → Prop
  | [] => True
  | e :: es => ElSmall e ∧ ElsSmall es
end
theorem ElsSmall.get : ∀ {es : List ElB}, ElsSmall es → ∀ e ∈ es, ElSmall e
  | [], _, _, h => nomatch h
  | x :: xs, h, e, hm => by
    unfold ElsSmall at h
    rcases List.mem_cons.1 hm with rfl | hm
    · exact h.1
    · exact h.2.get e hm
theorem ElIn.cellsK {Q : World → Value → List AttrB → Prop} {P : Nat → Prop} {W : World} {e : ElB} {b o : Nat} (h : ElIn Q P W e b o) : ∃ v1 v2 v3 v4 v5, W.cell? ⟨b, o, none⟩ = some (.int .i64 (kindE e)) ∧ W.cell? ⟨b, o + 1, none⟩ = some v1 ∧ W.cell? ⟨b, o + 2, none⟩ = some v2 ∧ W.cell? ⟨b, o + 3, none⟩ = some v3 ∧ W.cell? ⟨b, o + 4, none⟩ = some v4 ∧ W.cell? ⟨b, o + 5, none⟩ = some v5 ∧ ElV Q P W (.agg #[.int .i64 (kindE e), v1, v2, v3, v4, v5]) e := by
  obtain ⟨kd, sp, nm, ats, tx, ks⟩ := e
  unfold ElIn at h
  obtain ⟨c0, c1, c2, ⟨av, c3, hq⟩, c4, ka, kc, c5, hk⟩ := h
  exact ⟨_, _, _, _, _, c0, c1, c2, c3, c4, c5, av, ka, kc, rfl, hq, hk⟩
def SpOk (e : ElB) : Prop := ∀ (lo : Nat) (v : Value) (w : World), ElV (QA lo) (lo ≤ ·) w v e → ElSmall e → Calls Tryz.prog 41 #[v] w fun r w' => r = .returned (.bool (okE e)) ∧ Below w.heap.size w w'

set_option maxRecDepth 20000 in
set_option maxHeartbeats 8000000 in
theorem l15El_of (kd sp : Int) (nm : ByteArray) (ats : List AttrB) (tx : ByteArray) (ks : List ElB) (hA : ∀ e ∈ ks, SpOk e) : SpOk (.mk kd sp nm ats tx ks) := by
  intro lo v w hv hsm
  obtain ⟨av, ka, kc, rfl, ⟨ab, ac, rfl, _, _, A0, hcap⟩, hk⟩ := hv
  unfold ElSmall at hsm
  obtain ⟨hnm, htx, han, hap, hkn, hks⟩ := hsm
  have HK : Hid (KidsIn (QA lo) (lo ≤ ·) w ka ks) := hk
  have HA : Hid (∀ e ∈ ks, SpOk e) := hA
  have HS : Hid (ElsSmall ks) := hks
  have HAt : Hid (AttrsAt w ab ats) := A0
  have Hap : Hid (∀ p ∈ ats, p.1.size ≤ 16777216 ∧ p.2.size ≤ 16777216) := hap
  obtain ⟨R, HR⟩ : ∃ R, Hid (okE (.mk kd sp nm ats tx ks) = R) := ⟨_, rfl⟩
  have HR0 : Hid ((okEs 0 (ks.drop 0) && okSelf kd sp nm ats tx ks.length) = R) := by
    show _ = _
    rw [← HR.out, List.drop_zero, okE]
  rw [HR.out]
  clear hk hA hks A0 hap HR
  have HN : Hid (∀ W, Calls Tryz.prog 71 #[.string nm] W fun r w' => r = .returned (.bool (stNameB nm)) ∧ Below W.heap.size W w') := fun W => specNameOk nm W (by omega)
  have HT : Hid (∀ W, Calls Tryz.prog 73 #[.string tx] W fun r w' => r = .returned (.bool (stTextB tx)) ∧ Below W.heap.size W w') := fun W => specTextOk tx W (by omega)
  have HO : Hid (∀ W, Calls Tryz.prog 52 #[.string tx] W fun r w' => r = .returned (.bool (stNoteB tx)) ∧ Below W.heap.size W w') := fun W => specNoteOk tx W (by omega)
  have HT15 : Hid (∀ W, Below w.heap.size w W → Calls Tryz.prog 72 #[.slice ab ats.length ac] W fun r w' => r = .returned (.bool (attrsSt ats 0)) ∧ Below W.heap.size W w') := fun W hW => specAttrsSt ats _ ats.length ac W (HAt.out.below hW) rfl han hcap Hap.out
  clear HAt Hap hcap han
  have e0 : (⟨#[]⟩ : ByteArray).toList = [] := ByteArray.toList_mk _
  have HM0 : Hid (Many 6 (w.alloc (.cells #[.int .i64 kd, .int .i64 sp, .string nm, .slice ab ats.length ac, .string tx, .slice ka ks.length kc] 25)) w.heap.size (fun i => [Value.int .i64 kd, .int .i64 sp, .string nm, .slice ab ats.length ac, .string tx, .slice ka ks.length kc].getD i undef)) := Many.new w [Value.int .i64 kd, .int .i64 sp, .string nm, .slice ab ats.length ac, .string tx, .slice ka ks.length kc] 25 undef
  have hb0 := (Below.refl w.heap.size w).alloc (Nat.le_refl _) (.cells #[.int .i64 kd, .int .i64 sp, .string nm, .slice ab ats.length ac, .string tx, .slice ka ks.length kc] 25)
  have q0 : (w.alloc (.cells #[.int .i64 kd, .int .i64 sp, .string nm, .slice ab ats.length ac, .string tx, .slice ka ks.length kc] 25)).cell? ⟨w.heap.size, 5, none⟩ = some (.slice ka ks.length kc) := by simp
  go_enter Tryz.func41, Tryz.ntmps41
  go_wp2_with fail
  go_loopw [3] (fun iv wr => ∃ (k : Nat) (pk : Int), k ≤ ks.length ∧ iv = .int .i64 (k : Int) ∧ Hid ((okEs pk (ks.drop k) && okSelf kd sp nm ats tx ks.length) = R) ∧ ((k = 0 ∧ pk = 0) ∨ ∃ m, k = m + 1 ∧ ∃ h : m < ks.length, pk = kindE (ks[m]'h)) ∧ wr.cell? ⟨w.heap.size, 5, none⟩ = some (.slice ka ks.length kc) ∧ Hid (Many 6 wr w.heap.size (fun i => [Value.int .i64 kd, .int .i64 sp, .string nm, .slice ab ats.length ac, .string tx, .slice ka ks.length kc].getD i undef)) ∧ Hid (Below w.heap.size w wr)) (fun iv _ => ks.length - (intOf iv).toNat)
  case atStart => exact ⟨0, 0, Nat.zero_le _, rfl, HR0, .inl ⟨rfl, rfl⟩, q0, HM0, hb0⟩
  case round =>
    clear HR0 q0 HM0 hb0
    obtain ⟨k, pk, hk, rfl, HRk, hpk, q5, HM, HB⟩ := hrel
    by_cases hlt : k < ks.length
    · clear HN HT HO HT15 e0
      rcases HK.out.keep (QA.lies _) HB.out with h | ⟨b, off, rfl, _, hc⟩
      · omega
      obtain ⟨v1, v2, v3, v4, v5, c0, c1, c2, c3, c4, c5, hV⟩ := (hc.get k hlt).cellsK
      have Hs := HA.out _ (List.getElem_mem hlt) lo _ wr hV (HS.out.get _ (List.getElem_mem hlt))
      have hdr := okEs_drop ks k hlt pk
      have hRk := HRk.out
      rw [hdr] at hRk
      have hprev : ∀ m, k = m + 1 → wr.cell? ⟨b, off + m * 6, none⟩ = some (.int .i64 pk) := fun m hm => by
        rcases hpk with ⟨h0, _⟩ | ⟨m', hm', hlt', e⟩
        · omega
        · obtain rfl : m = m' := by omega
          rw [e]
          obtain ⟨_, _, _, _, _, c, _⟩ := (hc.get m hlt').cellsK
          exact c
      have hpk0 : k = 0 → pk = 0 := fun h => by
        rcases hpk with ⟨_, h0⟩ | ⟨m', hm', _⟩
        · exact h0
        · omega
      have Hnext : Hid ((k + 1 = 0 ∧ kindE (ks[k]'hlt) = 0) ∨ ∃ m, k + 1 = m + 1 ∧ ∃ h : m < ks.length, kindE (ks[k]'hlt) = kindE (ks[m]'h)) := .inr ⟨k, rfl, hlt, rfl⟩
      clear hc hV hdr HRk hpk
      generalize okE (ks[k]'hlt) = sb at *
      generalize kindE (ks[k]'hlt) = kk at *
      have hk1 : k + 1 ≤ ks.length := hlt
      have k0 : (0 : Int) ≤ (k : Int) := by omega
      have k1 : (k : Int) < (ks.length : Int) := by omega
      have hbk : b < wr.heap.size := block_lt_of_cell c0
      have hbw : w.heap.size < wr.heap.size := block_lt_of_cell q5
      go_wp2_with fail
      refine Hs.mono ?_
      rintro e w1 ⟨rfl, b1⟩
      have q5' := (b1.cell (by exact hbw)).trans q5
      have c0' := (b1.cell (by exact hbk)).trans c0
      have hprev' : ∀ m, k = m + 1 → w1.cell? ⟨b, off + m * 6, none⟩ = some (.int .i64 pk) := fun m hm => (b1.cell (by exact hbk)).trans (hprev m hm)
      have HM' : Hid (Many 6 w1 w.heap.size _) := HM.out.kept b1
      have HB' : Hid (Below w.heap.size w w1) := HB.out.trans (b1.mono HB.out.size)
      clear b1 q5 c0 c1 c2 c3 c4 c5 hprev HM HB Hs
      cases sb
      · have Hf : Hid (R = false) := by show _ = _; rw [← hRk]; rfl
        clear hRk
        go_wp2_with fail
        go_ret
        exact ⟨ret_st Hf.out.symm, HB'.out⟩
      · by_cases hz : k = 0
        · have hp := hpk0 hz
          subst hz
          subst hp
          have HRn : Hid ((okEs kk (ks.drop (0 + 1)) && okSelf kd sp nm ats tx ks.length) = R) := by show _ = _; rw [← hRk]; simp
          clear hRk hpk0 hprev'
          go_wp2_with fail
          go_roundw
          case rel => exact ⟨0 + 1, kk, hk1, by go_num, HRn, Hnext.out, q5', HM', HB'⟩
          case measure => simp [intOf]; omega
        · obtain ⟨m, hm⟩ : ∃ m, k = m + 1 := ⟨k - 1, by omega⟩
          subst hm
          have cp := hprev' m rfl
          have gpos : decide ((0 : Int) < ((m + 1 : Nat) : Int)) = true := decide_eq_true (by omega)
          have km1 : IntKind.i64.wrap (((m + 1 : Nat) : Int) - 1) = (m : Int) := by rw [show ((m + 1 : Nat) : Int) - 1 = (m : Int) by omega]; exact IntWalk.i64_in _ (by omega)
          have km2 : IntKind.i64.wrap (m : Int) = (m : Int) := IntWalk.i64_in _ (by omega)
          have m0 : (0 : Int) ≤ (m : Int) := by omega
          have m1 : (m : Int) < (ks.length : Int) := by omega
          clear hprev' hpk0 hz
          by_cases h2 : kk = 2
          · have g2 : (kk == 2) = true := by rw [h2]; rfl
            have d2 : decide (kk = 2) = true := decide_eq_true h2
            by_cases h3 : pk = 2
            · have g3 : (pk == 2) = true := by rw [h3]; rfl
              have Hf : Hid (R = false) := by show _ = _; rw [← hRk, d2, decide_eq_true h3]; rfl
              clear hRk h2 h3
              go_wp2_with fail
              go_ret
              exact ⟨ret_st Hf.out.symm, HB'.out⟩
            · have g3 : (pk == 2) = false := by rw [beq_eq_false_iff_ne]; exact h3
              have HRn : Hid ((okEs kk (ks.drop (m + 1 + 1)) && okSelf kd sp nm ats tx ks.length) = R) := by show _ = _; rw [← hRk, d2, decide_eq_false h3]; simp
              clear hRk h2 h3 d2
              go_wp2_with fail
              go_roundw
              case rel => exact ⟨m + 1 + 1, kk, hk1, by go_num, HRn, Hnext.out, q5', HM', HB'⟩
              case measure => simp [intOf]; omega
          · have g2 : (kk == 2) = false := by rw [beq_eq_false_iff_ne]; exact h2
            have HRn : Hid ((okEs kk (ks.drop (m + 1 + 1)) && okSelf kd sp nm ats tx ks.length) = R) := by show _ = _; rw [← hRk, decide_eq_false h2]; simp
            clear hRk h2
            go_wp2_with fail
            go_roundw
            case rel => exact ⟨m + 1 + 1, kk, hk1, by go_num, HRn, Hnext.out, q5', HM', HB'⟩
            case measure => simp [intOf]; omega
    · have HRs : Hid (okSelf kd sp nm ats tx ks.length = R) := by
        show _ = _
        have := HRk.out
        rw [List.drop_eq_nil_of_le (by omega), okEs, Bool.true_and] at this
        exact this
      have g1 : decide ((k : Int) < (ks.length : Int)) = false := decide_eq_false (by omega)
      clear HRk hpk HA HS HK
      obtain ⟨p0, p1, p2, p3, p4, p5⟩ := HM.out.six
      obtain ⟨pl, Hpl⟩ : ∃ pl, Hid (plainE sp nm ats ks.length = pl) := ⟨_, rfl⟩
      go_upto_region 6 with fail
      go_cut [4] from 42 to 61 (fun r wx => r = .bool pl ∧ wx = wr)
      case first =>
        have hpl : (decide (sp = 0) && (decide (nm.size = 0) && (decide (ats.length = 0) && decide (ks.length = 0)))) = pl := Hpl.out
        by_cases s0 : sp = 0
        · have a0 : (sp == 0) = true := by rw [s0]; rfl
          by_cases s1 : nm.size = 0
          · have en := empty_of s1
            have a1 : (nm.toList == []) = true := by rw [en, e0]; rfl
            by_cases s2 : ats.length = 0
            · have a2 : ((ats.length : Int) == 0) = true := by rw [s2]; rfl
              by_cases s3 : ks.length = 0
              · have a3 : ((ks.length : Int) == 0) = true := by rw [s3]; rfl
                obtain rfl : true = pl := by rw [← hpl, decide_eq_true s0, decide_eq_true s1, decide_eq_true s2, decide_eq_true s3]; rfl
                clear hpl s0 s1 s2 s3 en
                go_wp2_with fail
                go_meet
                case rel => exact ⟨rfl, rfl⟩
              · have a3 : ((ks.length : Int) == 0) = false := by rw [beq_eq_false_iff_ne]; omega
                obtain rfl : false = pl := by rw [← hpl, decide_eq_false s3]; simp
                clear hpl s0 s1 s2 s3 en
                go_wp2_with fail
                go_meet
                case rel => exact ⟨rfl, rfl⟩
            · have a2 : ((ats.length : Int) == 0) = false := by rw [beq_eq_false_iff_ne]; omega
              obtain rfl : false = pl := by rw [← hpl, decide_eq_false s2]; simp
              clear hpl s0 s1 s2 en
              go_wp2_with fail
              go_meet
              case rel => exact ⟨rfl, rfl⟩
          · have a1 : (nm.toList == []) = false := not_empty s1
            obtain rfl : false = pl := by rw [← hpl, decide_eq_false s1]; simp
            clear hpl s0 s1
            go_wp2_with fail
            go_meet
            case rel => exact ⟨rfl, rfl⟩
        · have a0 : (sp == 0) = false := by rw [beq_eq_false_iff_ne]; exact s0
          obtain rfl : false = pl := by rw [← hpl, decide_eq_false s0]; simp
          clear hpl s0
          go_wp2_with fail
          go_meet
          case rel => exact ⟨rfl, rfl⟩
      case rest =>
        obtain ⟨rfl, rfl⟩ := hcut
        have hpw : w.heap.size < _ := block_lt_of_cell p0
        by_cases h1 : kd = 1
        · have g1' : (kd == 1) = true := by rw [h1]; rfl
          have HR1 : Hid ((inP sp (0, 2) && (stNameB nm && (attrsSt ats 0 && decide (tx.size = 0)))) = R) := by show _ = _; rw [← HRs.out]; unfold okSelf; rw [if_pos h1]
          clear HRs h1 HT HO Hpl
          have Hin := fun W => l1In_kd sp 0 2 W
          go_wp2_with fail
          refine (Hin _).mono ?_
          rintro e w1 ⟨rfl, rfl⟩
          clear Hin
          cases hin : inP sp (0, 2)
          · rw [hin] at HR1
            go_wp2_with fail
            go_ret
            exact ⟨ret_st HR1.out, HB.out⟩
          rw [hin] at HR1
          clear hin
          go_wp2_with fail
          refine (HN.out _).mono ?_
          rintro e w2 ⟨rfl, b2⟩
          have p3' := (b2.cell (by exact hpw)).trans p3
          have p4' := (b2.cell (by exact hpw)).trans p4
          have HB2 : Hid (Below w.heap.size w w2) := HB.out.trans (b2.mono HB.out.size)
          have hpw2 := Nat.lt_of_lt_of_le hpw b2.size
          clear b2 p0 p1 p2 p3 p4 p5 HB HN hpw HM
          cases hnm' : stNameB nm
          · rw [hnm'] at HR1
            go_wp2_with fail
            go_ret
            exact ⟨ret_st HR1.out, HB2.out⟩
          rw [hnm'] at HR1
          clear hnm'
          go_wp2_with fail
          refine (HT15.out _ HB2.out).mono ?_
          rintro e w3 ⟨rfl, b3⟩
          have p4'' := (b3.cell (by exact hpw2)).trans p4'
          have HB3 : Hid (Below w.heap.size w w3) := HB2.out.trans (b3.mono HB2.out.size)
          clear b3 p3' p4' HB2 HT15 hpw2
          cases hat : attrsSt ats 0
          · rw [hat] at HR1
            go_wp2_with fail
            go_ret
            exact ⟨ret_st HR1.out, HB3.out⟩
          rw [hat] at HR1
          clear hat
          by_cases ht : tx.size = 0
          · have et := empty_of ht
            have a1 : (tx.toList == []) = true := by rw [et, e0]; rfl
            rw [decide_eq_true ht] at HR1
            clear ht et
            go_wp2_with fail
            go_ret
            exact ⟨ret_st HR1.out, HB3.out⟩
          · have a1 : (tx.toList == []) = false := not_empty ht
            rw [decide_eq_false ht] at HR1
            clear ht
            go_wp2_with fail
            go_ret
            exact ⟨ret_st HR1.out, HB3.out⟩
        have g1' : (kd == 1) = false := by rw [beq_eq_false_iff_ne]; exact h1
        by_cases h2 : kd = 2
        · have g2' : (kd == 2) = true := by rw [h2]; rfl
          have HR1 : Hid ((pl && (decide (tx.size ≠ 0) && stTextB tx)) = R) := by show _ = _; rw [← HRs.out, ← Hpl.out]; unfold okSelf; rw [if_neg h1, if_pos h2]
          clear HRs h1 h2 HN HO HT15 Hpl
          cases pl
          · go_wp2_with fail
            go_ret
            exact ⟨ret_st HR1.out, HB.out⟩
          by_cases ht : tx.size = 0
          · have et := empty_of ht
            have a1 : (tx.toList == []) = true := by rw [et, e0]; rfl
            rw [decide_eq_false (fun h => h ht)] at HR1
            clear ht et
            go_wp2_with fail
            go_ret
            exact ⟨ret_st HR1.out, HB.out⟩
          have a1 : (tx.toList == []) = false := not_empty ht
          rw [decide_eq_true ht] at HR1
          clear ht
          go_wp2_with fail
          refine (HT.out _).mono ?_
          rintro e w2 ⟨rfl, b2⟩
          have HB2 : Hid (Below w.heap.size w w2) := HB.out.trans (b2.mono HB.out.size)
          clear b2
          cases htt : stTextB tx
          · rw [htt] at HR1
            go_wp2_with fail
            go_ret
            exact ⟨ret_st HR1.out, HB2.out⟩
          · rw [htt] at HR1
            go_wp2_with fail
            go_ret
            exact ⟨ret_st HR1.out, HB2.out⟩
        have g2' : (kd == 2) = false := by rw [beq_eq_false_iff_ne]; exact h2
        by_cases h3 : kd = 3
        · have g3' : (kd == 3) = true := by rw [h3]; rfl
          have HR1 : Hid ((pl && stNoteB tx) = R) := by show _ = _; rw [← HRs.out, ← Hpl.out]; unfold okSelf; rw [if_neg h1, if_neg h2, if_pos h3]
          clear HRs h1 h2 h3 HN HT HT15 Hpl
          cases pl
          · go_wp2_with fail
            go_ret
            exact ⟨ret_st HR1.out, HB.out⟩
          go_wp2_with fail
          refine (HO.out _).mono ?_
          rintro e w2 ⟨rfl, b2⟩
          have HB2 : Hid (Below w.heap.size w w2) := HB.out.trans (b2.mono HB.out.size)
          clear b2
          cases htt : stNoteB tx
          · rw [htt] at HR1
            go_wp2_with fail
            go_ret
            exact ⟨ret_st HR1.out, HB2.out⟩
          · rw [htt] at HR1
            go_wp2_with fail
            go_ret
            exact ⟨ret_st HR1.out, HB2.out⟩
        have g3' : (kd == 3) = false := by rw [beq_eq_false_iff_ne]; exact h3
        have HR1 : Hid (false = R) := by show _ = _; rw [← HRs.out]; unfold okSelf; rw [if_neg h1, if_neg h2, if_neg h3]
        clear HRs h1 h2 h3
        go_wp2_with fail
        go_ret
        exact ⟨ret_st HR1.out, HB.out⟩

mutual
theorem specL15El : ∀ e : ElB, SpOk e
  | .mk kd sp nm ats tx ks => l15El_of kd sp nm ats tx ks (specL15El_all ks)
theorem specL15El_all : ∀ es : List ElB, ∀ e ∈ es, SpOk e
  | [], _, h => nomatch h
  | x :: xs, e, h => (List.mem_cons.1 h).elim (fun he => he ▸ specL15El x) (fun hm => specL15El_all xs e hm)
end

mutual
theorem el_small : ∀ e : ElB, elW e ≤ 16777216 → ElSmall e
  | .mk kd sp nm ats tx ks, h => by
    unfold elW at h
    have ha : ats.length ≤ attrsW ats ∧ ∀ p ∈ ats, p.1.size + p.2.size ≤ attrsW ats := by
      unfold attrsW
      refine ⟨by omega, fun p hp => ?_⟩
      have h2 : attrW p ≤ (ats.map attrW).sum := by
        clear h
        induction ats with
        | nil => cases hp
        | cons q l ih =>
          rw [List.map_cons, List.sum_cons]
          rcases List.mem_cons.1 hp with rfl | hp
          · omega
          · have := ih hp
            omega
      have h3 : attrW p = p.1.size + p.2.size := rfl
      omega
    unfold ElSmall
    refine ⟨by omega, by omega, by omega, fun p hp => ?_, by omega, els_small ks (by omega)⟩
    have := ha.2 p hp
    omega
theorem els_small : ∀ es : List ElB, elsW es ≤ 16777216 → ElsSmall es
  | [], _ => by unfold ElsSmall; trivial
  | e :: es, h => by
    unfold elsW at h
    unfold ElsSmall
    exact ⟨el_small e (by omega), els_small es (by omega)⟩
end

set_option maxHeartbeats 2000000 in
theorem specElOk (e : ElB) (lo : Nat) (v : Value) (w : World) (hv : ElV (QA lo) (lo ≤ ·) w v e) (hs : ElSmall e) (hn : elN e ≤ 1099511627776) :
    Calls Tryz.prog 19 #[v] w fun r w' => r = .returned (.bool (decide (elD e ≤ 60) && okE e)) ∧ Below w.heap.size w w' := by
  have HD : Hid (∀ W, Below w.heap.size w W → Calls Tryz.prog 40 #[v] W fun r w' => r = .returned (.int .i64 (elD e : Int)) ∧ Below W.heap.size W w') := fun W hW => specElDeep e lo v W (hv.keep (QA.lies _) hW) hn
  have HL : Hid (∀ W, Below w.heap.size w W → Calls Tryz.prog 41 #[v] W fun r w' => r = .returned (.bool (okE e)) ∧ Below W.heap.size W w') := fun W hW => specL15El e lo v W (hv.keep (QA.lies _) hW) hs
  obtain ⟨kd, sp, nm, ats, tx, ks⟩ := e
  obtain ⟨av, ka, kc, rfl, ⟨ab, ac, rfl, _⟩, _⟩ := hv
  have HM0 : Hid (Many 6 (w.alloc (.cells #[.int .i64 kd, .int .i64 sp, .string nm, .slice ab ats.length ac, .string tx, .slice ka ks.length kc] 25)) w.heap.size (fun i => [Value.int .i64 kd, .int .i64 sp, .string nm, .slice ab ats.length ac, .string tx, .slice ka ks.length kc].getD i undef)) := Many.new w [Value.int .i64 kd, .int .i64 sp, .string nm, .slice ab ats.length ac, .string tx, .slice ka ks.length kc] 25 undef
  have hb0 := (Below.refl w.heap.size w).alloc (Nat.le_refl _) (.cells #[.int .i64 kd, .int .i64 sp, .string nm, .slice ab ats.length ac, .string tx, .slice ka ks.length kc] 25)
  generalize okE (.mk kd sp nm ats tx ks) = ok at *
  generalize elD (.mk kd sp nm ats tx ks) = d at *
  obtain ⟨R, HR⟩ : ∃ R, Hid ((decide (d ≤ 60) && ok) = R) := ⟨_, rfl⟩
  rw [HR.out]
  go_enter Tryz.func19, Tryz.ntmps19
  go_wp2_with fail
  refine (HD.out _ hb0).mono ?_
  rintro r w1 ⟨rfl, b1⟩
  have HB1 : Hid (Below w.heap.size w w1) := hb0.trans (b1.mono (by simp))
  obtain ⟨p0, p1, p2, p3, p4, p5⟩ := (HM0.out.kept b1).six
  clear b1 hb0 HM0 HD
  by_cases h : d ≤ 60
  · have g : (d : Int) ≤ 60 := by omega
    have HRt : Hid (ok = R) := by show _ = _; rw [← HR.out, decide_eq_true h, Bool.true_and]
    clear h HR
    go_wp2_with fail
    refine (HL.out _ HB1.out).mono ?_
    rintro r w2 ⟨rfl, b2⟩
    have HB2 : Hid (Below w.heap.size w w2) := HB1.out.trans (b2.mono HB1.out.size)
    clear b2
    go_wp2_with fail
    go_ret
    exact ⟨ret_st HRt.out, HB2.out⟩
  · have g : ¬ (d : Int) ≤ 60 := by omega
    have g' : decide ((d : Int) ≤ 60) = false := decide_eq_false g
    have HRt : Hid (false = R) := by show _ = _; rw [← HR.out, decide_eq_false h, Bool.false_and]
    clear h HL HR
    go_wp2_with fail
    go_ret
    exact ⟨ret_st HRt.out, HB1.out⟩

end Go.Proofs.YthipdkagkdnaiaaGreatDoor.Sg

namespace Go.Proofs.YthipdkagkdnaiaaGreatDoor.Sg
open Go.ChangeShapes Go.WideShapes Go.ChangeAt Go.RowKit

/-- An element is strict, and no deeper than it may be. -/
def strictE (e : ElB) : Bool := decide (elD e ≤ 60) && okE e
/-- Elements are a document, behind so many tags and so many in all. -/
def docF : Nat → Nat → List ElB → Bool
  | t, s, [] => decide (t = 1) && decide (s ≤ 3000)
  | t, s, e :: es => if strictE e = true ∧ kindE e ≠ 2 then docF (t + (if kindE e = 1 then 1 else 0)) (s + elN e) es else false
theorem docF_yes {es : List ElB} {k : Nat} (h : k < es.length) {t s : Nat} (h1 : strictE (es[k]'h) = true) (h2 : kindE (es[k]'h) ≠ 2) : docF t s (es.drop k) = docF (t + (if kindE (es[k]'h) = 1 then 1 else 0)) (s + elN (es[k]'h)) (es.drop (k + 1)) := by
  rw [List.drop_eq_getElem_cons h, docF, if_pos ⟨h1, h2⟩]
theorem docF_no {es : List ElB} {k : Nat} (h : k < es.length) {t s : Nat} (h1 : ¬ (strictE (es[k]'h) = true ∧ kindE (es[k]'h) ≠ 2)) : docF t s (es.drop k) = false := by
  rw [List.drop_eq_getElem_cons h, docF, if_neg h1]

set_option maxHeartbeats 1000000 in
theorem specBitE (b : Bool) (w : World) : Calls Tryz.prog 53 #[.bool b] w fun e w' => e = .returned (.int .i64 (if b then 1 else 0)) ∧ w' = w := by
  cases b
  · go_enter Tryz.func53, Tryz.ntmps53
    go_wp2
    go_ret
    exact ⟨rfl, rfl⟩
  · go_enter Tryz.func53, Tryz.ntmps53
    go_wp2
    go_ret
    exact ⟨rfl, rfl⟩

set_option maxRecDepth 20000 in
set_option maxHeartbeats 8000000 in
theorem specDocOk (l : List ElB) (lo : Nat) (a : Option Addr) (n cap : Nat) (w : World) (hk : KidsIn (QA lo) (lo ≤ ·) w a l) (hl : l.length = n) (hs : ElsSmall l) (hN : elsN l ≤ 1099511627776) :
    Calls Tryz.prog 31 #[.slice a n cap] w fun r w' => r = .returned (.bool (docF 0 0 l)) ∧ Below w.heap.size w w' := by
  have HK : Hid (KidsIn (QA lo) (lo ≤ ·) w a l) := hk
  have HS : Hid (ElsSmall l) := hs
  have Hl : Hid (l.length = n) := hl
  have hlen : n ≤ 1099511627776 := by have := elsN_len l; omega
  obtain ⟨R, HR⟩ : ∃ R, Hid (docF 0 0 (l.drop 0) = R) := ⟨_, rfl⟩
  have HR0 : docF 0 0 l = R := HR.out
  rw [HR0]
  clear hk hs hl HR0
  go_enter Tryz.func31, Tryz.ntmps31
  go_wp2_with fail
  go_loopw [3, 4, 5] (fun tv sv iv wr => ∃ k t s : Nat, k ≤ n ∧ t ≤ k ∧ s + elsN (l.drop k) = elsN l ∧ iv = .int .i64 (k : Int) ∧ tv = .int .i64 (t : Int) ∧ sv = .int .i64 (s : Int) ∧ Hid (docF t s (l.drop k) = R) ∧ Hid (Below w.heap.size w wr)) (fun _ _ iv _ => n - (intOf iv).toNat)
  case atStart => exact ⟨0, 0, 0, Nat.zero_le _, Nat.le_refl _, by simp, rfl, rfl, rfl, HR, Below.refl _ _⟩
  case round =>
    clear HR
    obtain ⟨k, t, s, hk, ht, hsum, rfl, rfl, rfl, HRk, HB⟩ := hrel
    by_cases hlt : k < n
    · have hkl : k < l.length := by rw [Hl.out]; exact hlt
      rcases HK.out.keep (QA.lies _) HB.out with h | ⟨b, off, rfl, _, hc⟩
      · omega
      obtain ⟨v1, v2, v3, v4, v5, c0, c1, c2, c3, c4, c5, hV⟩ := (hc.get k hkl).cellsK
      have hNk := elsN_get l k hkl
      have Hok := specElOk _ lo _ wr hV (HS.out.get _ (List.getElem_mem hkl)) (by omega)
      have Hsz : Hid (∀ W, Below wr.heap.size wr W → Calls Tryz.prog 54 #[.agg #[.int .i64 (kindE (l[k]'hkl)), v1, v2, v3, v4, v5]] W fun r w' => r = .returned (.int .i64 (elN (l[k]'hkl) : Int)) ∧ Below W.heap.size W w') := fun W hW => specElSize _ lo _ W (hV.keep (QA.lies _) hW) (by omega)
      have hyes := docF_yes hkl (t := t) (s := s)
      have hno := docF_no hkl (t := t) (s := s)
      have hdr := elsN_drop l k hkl
      rw [hdr] at hsum
      have est : (decide (elD (l[k]'hkl) ≤ 60) && okE (l[k]'hkl)) = strictE (l[k]'hkl) := rfl
      rw [est] at Hok
      clear hc hV hdr est
      generalize strictE (l[k]'hkl) = sb at *
      generalize kindE (l[k]'hkl) = kk at *
      generalize elN (l[k]'hkl) = m at *
      have hbk : b < wr.heap.size := block_lt_of_cell c0
      have k0 : (0 : Int) ≤ (k : Int) := by omega
      have k1 : (k : Int) < (n : Int) := by omega
      go_wp2_with fail
      refine Hok.mono ?_
      rintro r w1 ⟨rfl, b1⟩
      have d0 := (b1.cell (by exact hbk)).trans c0
      have d1 := (b1.cell (by exact hbk)).trans c1
      have d2 := (b1.cell (by exact hbk)).trans c2
      have d3 := (b1.cell (by exact hbk)).trans c3
      have d4 := (b1.cell (by exact hbk)).trans c4
      have d5 := (b1.cell (by exact hbk)).trans c5
      have HS1 := Hsz.out w1 b1
      have HB1 : Hid (Below w.heap.size w w1) := HB.out.trans (b1.mono HB.out.size)
      clear b1 c0 c1 c2 c3 c4 c5 Hok HB Hsz
      cases sb
      · have Hf : Hid (R = false) := by show _ = _; rw [← HRk.out]; exact hno (fun h => by cases h.1)
        clear hyes hno HRk HS1
        go_wp2_with fail
        go_ret
        exact ⟨ret_st Hf.out.symm, HB1.out⟩
      · by_cases h2 : kk = 2
        · have g2 : (kk == 2) = true := by rw [h2]; rfl
          have Hf : Hid (R = false) := by show _ = _; rw [← HRk.out]; exact hno (fun h => h.2 h2)
          clear hyes hno HRk HS1 h2
          go_wp2_with fail
          go_ret
          exact ⟨ret_st Hf.out.symm, HB1.out⟩
        · have g2 : (kk == 2) = false := by rw [beq_eq_false_iff_ne]; exact h2
          obtain ⟨u, hu⟩ : ∃ u : Nat, (if kk = 1 then 1 else 0) = u := ⟨_, rfl⟩
          have hu1 : u ≤ 1 := by rw [← hu]; split <;> omega
          have HRn : Hid (docF (t + u) (s + m) (l.drop (k + 1)) = R) := by show _ = _; rw [← HRk.out, hyes rfl h2, hu]
          have hbit : (if (kk == 1) = true then (1 : Int) else 0) = (u : Int) := by
            rw [← hu]
            by_cases h1 : kk = 1
            · rw [if_pos h1, if_pos (by rw [h1]; rfl)]
              rfl
            · rw [if_neg h1, if_neg (by simpa using h1)]
              rfl
          have q1 : IntKind.i64.wrap ((t : Int) + (u : Int)) = (t : Int) + (u : Int) := IntWalk.i64_in _ (by omega)
          have q2 : IntKind.i64.wrap ((s : Int) + (m : Int)) = (s : Int) + (m : Int) := IntWalk.i64_in _ (by omega)
          have Hb := fun W => specBitE (kk == 1) W
          rw [hbit] at Hb
          clear hyes hno HRk h2 hu hbit
          go_wp2_with fail
          refine (Hb _).mono ?_
          rintro r w2 ⟨rfl, rfl⟩
          clear Hb
          go_wp2_with fail
          refine HS1.mono ?_
          rintro r w3 ⟨rfl, b3⟩
          have HB3 : Hid (Below w.heap.size w w3) := HB1.out.trans (b3.mono HB1.out.size)
          clear b3 HS1 d0 d1 d2 d3 d4 d5 HB1
          go_wp2_with fail
          go_roundw
          case rel => exact ⟨k + 1, t + u, s + m, by omega, by omega, by omega, by go_num, by go_num, by go_num, HRn, HB3⟩
          case measure => simp [intOf]; omega
    · have hf : (decide (t = 1) && decide (s ≤ 3000)) = R := by
        have := HRk.out
        rw [List.drop_eq_nil_of_le (by rw [Hl.out]; omega), docF] at this
        exact this
      have g1 : decide ((k : Int) < (n : Int)) = false := decide_eq_false (by omega)
      clear HRk
      by_cases h1 : t = 1
      · have a1 : ((t : Int) == 1) = true := by rw [h1]; rfl
        rw [decide_eq_true h1, Bool.true_and] at hf
        clear h1
        by_cases h2 : s ≤ 3000
        · have a2 : decide ((s : Int) ≤ 3000) = true := decide_eq_true (by omega)
          have Hf : Hid (true = R) := by show _ = _; rw [← hf, decide_eq_true h2]
          clear hf h2
          go_wp2_with fail
          go_ret
          exact ⟨ret_st Hf.out, HB.out⟩
        · have a2 : decide ((s : Int) ≤ 3000) = false := decide_eq_false (by omega)
          have Hf : Hid (false = R) := by show _ = _; rw [← hf, decide_eq_false h2]
          clear hf h2
          go_wp2_with fail
          go_ret
          exact ⟨ret_st Hf.out, HB.out⟩
      · have a1 : ((t : Int) == 1) = false := by rw [beq_eq_false_iff_ne]; omega
        have Hf : Hid (false = R) := by show _ = _; rw [← hf, decide_eq_false h1]; rfl
        clear hf h1
        go_wp2_with fail
        go_ret
        exact ⟨ret_st Hf.out, HB.out⟩

end Go.Proofs.YthipdkagkdnaiaaGreatDoor.Sg

namespace Go.Proofs.YthipdkagkdnaiaaGreatDoor.Sg
open Go.ChangeShapes Go.WideShapes Go.ChangeAt Go.RowKit

end Go.Proofs.YthipdkagkdnaiaaGreatDoor.Sg

namespace Go.Proofs.YthipdkagkdnaiaaGreatDoor.Sg
open Go.ChangeShapes Go.WideShapes Go.ChangeAt Go.RowKit

def xmlHead : ByteArray := ⟨#[60, 63, 120, 109, 108, 32, 118, 101, 114, 115, 105, 111, 110, 61, 34, 49, 46, 48, 34, 63, 62, 10]⟩
end Go.Proofs.YthipdkagkdnaiaaGreatDoor.Sg

namespace Go.Proofs.YthipdkagkdnaiaaGreatDoor.Sg
open Go.ChangeShapes Go.WideShapes Go.ChangeAt Go.RowKit

def RowP (p : Nat) (w : World) (lo : Nat) (v : Value) (l : List ElB) : Prop :=
  ∃ g cap C, v = .slice (some ⟨g, 0, none⟩) l.length cap ∧ g ≠ p ∧ w.ownsRow lo 25 6 v l.length C ∧ ∀ i (hi : i < l.length), ElP (fun b => (lo ≤ b ∧ b ≠ g) ∧ b ≠ p) w (sixV C i) (l[i]'hi)
theorem Fr.ownsP {p base g : Nat} {a b : World} (h : Fr p a b) {e : TypeId} {size n c : Nat} {xs : List Value} (hp : g ≠ p) (ho : a.ownsRow base e size (.slice (some ⟨g, 0, none⟩) n c) n xs) : b.ownsRow base e size (.slice (some ⟨g, 0, none⟩) n c) n xs := by
  obtain ⟨h1, h2⟩ := ho
  refine ⟨h1, ?_⟩
  rcases h2 with ⟨h2, _⟩ | ⟨g', cap, cur, e', h3, h4, h5⟩
  · cases h2
  · injection e' with e1 e2 e3
    injection e1 with e1
    injection e1 with e1
    subst e1 e3
    exact .inr ⟨g, c, cur, rfl, h3, (h.block g (Array.getElem?_eq_some_iff.1 h4).1 hp).trans h4, h5⟩
theorem RowP.empty (p : Nat) (w : World) (lo : Nat) (h : lo ≤ w.heap.size) (hp : w.heap.size ≠ p) : RowP p (w.alloc (.cells #[] 25)) lo (.slice (some ⟨w.heap.size, 0, none⟩) 0 0) [] :=
  ⟨w.heap.size, 0, [], rfl, hp, ⟨rfl, .inr ⟨w.heap.size, 0, #[], rfl, h, by show (w.heap.push _)[w.heap.size]? = _; simp, Nat.le_refl _, Nat.zero_le _, rfl, rfl⟩⟩, fun i hi => absurd hi (Nat.not_lt_zero _)⟩
theorem RowP.keep {p : Nat} {w w' : World} {lo : Nat} {v : Value} {l : List ElB} (h : RowP p w lo v l) (hb : Below w.heap.size w w') : RowP p w' lo v l := by
  obtain ⟨g, cap, C, e, hp, ho, hv⟩ := h
  exact ⟨g, cap, C, e, hp, owns_below ho (Nat.le_refl _) hb, fun i hi => (hv i hi).stay (fun b _ h2 => hb.block b h2) hb.size⟩
theorem RowP.fr {p : Nat} {w w' : World} {lo : Nat} {v : Value} {l : List ElB} (h : RowP p w lo v l) (hf : Fr p w w') : RowP p w' lo v l := by
  obtain ⟨g, cap, C, e, hp, ho, hv⟩ := h
  subst e
  exact ⟨g, cap, C, rfl, hp, hf.ownsP hp ho, fun i hi => (hv i hi).fr hf (fun h => h.2 rfl)⟩
theorem RowP.form {p : Nat} {w : World} {lo : Nat} {v : Value} {l : List ElB} (h : RowP p w lo v l) : ∃ g cap, v = .slice (some ⟨g, 0, none⟩) l.length cap ∧ g ≠ p ∧ lo ≤ g ∧ g < w.heap.size := by
  obtain ⟨g, cap, C, e, hp, ho, hv⟩ := h
  subst e
  have := ho.lt g rfl
  exact ⟨g, cap, rfl, hp, this.1, this.2⟩
theorem RowP.kids {p : Nat} {w : World} {lo : Nat} {v : Value} {l : List ElB} (h : RowP p w lo v l) : ∃ g cap, v = .slice (some ⟨g, 0, none⟩) l.length cap ∧ KidsIn (QP (lo ≤ ·)) (lo ≤ ·) w (some ⟨g, 0, none⟩) l := by
  obtain ⟨g, cap, C, e, hp, ho, hv⟩ := h
  exact RowL.kids ⟨g, cap, C, e, ho, fun i hi => (hv i hi).wide (fun b _ h => h.1)⟩
theorem RdAt.grownP {p g n c : Nat} {a b : World} {s : ByteArray} {k : Int} {ok : Bool} (h : RdAt a p s k ok) (hp : g ≠ p) (hg : a.grownBy b (Value.slice (some ⟨g, 0, none⟩) n c).ownBlock) : RdAt b p s k ok :=
  (hg.block p h.lt (fun e => by
    have e' : some p = some g := e
    injection e' with e'
    exact hp e'.symm)).trans h
/-- One more is appended. -/
theorem RowP.more {p : Nat} {w w' : World} {lo N : Nat} {v v' : Value} {l : List ElB} {C : List Value} {g : Nat} {a0 a1 a2 a3 a4 a5 : Value} {e : ElB}
    (hv : v.ownBlock = some g) (hgp : g ≠ p) (hpw : p < w.heap.size) (hC : C.length = l.length * 6) (hl : ∀ i (hi : i < l.length), ElP (fun b => (lo ≤ b ∧ b ≠ g) ∧ b ≠ p) w (sixV C i) (l[i]'hi)) (hN : g < N) (hpN : p < N) (hlo : lo ≤ N) (he : ElP (N ≤ ·) w (.agg #[a0, a1, a2, a3, a4, a5]) e)
    (ho : w'.ownsRow lo 25 6 v' (l.length + 1) (C ++ [a0, a1, a2, a3, a4, a5])) (hg : w.grownBy w' v.ownBlock) (hb : ∀ b, v'.ownBlock = some b → v.ownBlock = some b ∨ w.heap.size ≤ b) : RowP p w' lo v' (l ++ [e]) := by
  rcases ho.2 with ⟨rfl, h0⟩ | ⟨g', cap', cur, rfl, h3, h4, h5⟩
  · omega
  have hlen : (l ++ [e]).length = l.length + 1 := by simp
  have hg' := hb g' rfl
  have kept : ∀ b, (lo ≤ b ∧ b ≠ g) → b < w.heap.size → w'.heap[b]? = w.heap[b]? := fun b h1 h2 => hg.block b h2 (fun e => h1.2 (by rw [hv] at e; injection e))
  have new : ∀ b, b < w.heap.size → b ≠ g → b ≠ g' := fun b h1 h2 => by
    rcases hg' with h | h
    · rw [hv] at h
      injection h with h
      omega
    · omega
  have hg'p : g' ≠ p := by
    rcases hg' with h | h
    · rw [hv] at h
      injection h with h
      omega
    · omega
  refine ⟨g', cap', C ++ [a0, a1, a2, a3, a4, a5], by rw [hlen], hg'p, by rw [hlen]; exact ho, fun i hi => ?_⟩
  have e1 : ∀ j, j < C.length → (C ++ [a0, a1, a2, a3, a4, a5]).getD j undef = C.getD j undef := fun j hj => getD_old hj
  by_cases hil : i < l.length
  · have h1 := (((hl i hil).wide (P' := fun b => ((lo ≤ b ∧ b ≠ g) ∧ b ≠ p) ∧ b ≠ g') (fun b h1 h2 => ⟨h2, new b h1 h2.1.2⟩)).stay (w' := w') (fun b h1 h2 => kept b h1.1.1 h2) hg.size).wide (P' := fun b => (lo ≤ b ∧ b ≠ g') ∧ b ≠ p) (fun b _ h => ⟨⟨h.1.1.1, h.2⟩, h.1.2⟩)
    have eS : sixV (C ++ [a0, a1, a2, a3, a4, a5]) i = sixV C i := by
      unfold sixV
      rw [e1 _ (by omega), e1 _ (by omega), e1 _ (by omega), e1 _ (by omega), e1 _ (by omega), e1 _ (by omega)]
    have eL : (l ++ [e])[i]'hi = l[i]'hil := List.getElem_append_left hil
    rw [eS, eL]
    exact h1
  · have hie : i = l.length := by rw [hlen] at hi; omega
    subst hie
    have h1 := ((he.wide (P' := fun b => ((lo ≤ b ∧ b ≠ g) ∧ b ≠ p) ∧ b ≠ g') (fun b h1 h2 => by
      have h3 : b ≠ g := by omega
      exact ⟨⟨⟨Nat.le_trans hlo h2, h3⟩, by omega⟩, new b h1 h3⟩)).stay (w' := w') (fun b h1 h2 => kept b h1.1.1 h2) hg.size).wide (P' := fun b => (lo ≤ b ∧ b ≠ g') ∧ b ≠ p) (fun b _ h => ⟨⟨h.1.1.1, h.2⟩, h.1.2⟩)
    have e2 : ∀ j, (C ++ [a0, a1, a2, a3, a4, a5]).getD (l.length * 6 + j) undef = [a0, a1, a2, a3, a4, a5].getD j undef := fun j => by rw [← hC]; exact getD_new
    have eS : sixV (C ++ [a0, a1, a2, a3, a4, a5]) l.length = .agg #[a0, a1, a2, a3, a4, a5] := by
      have e20 := e2 0
      rw [Nat.add_zero] at e20
      unfold sixV
      rw [e20, e2 1, e2 2, e2 3, e2 4, e2 5]
      rfl
    have eL : (l ++ [e])[l.length]'hi = e := by simp
    rw [eS, eL]
    exact h1

/-- Elements and notes from place i on, a byte 10 behind each, to the end; none: refused. -/
def nlS : ByteArray := ⟨#[10]⟩
def docL (s : ByteArray) (el : Nat → Option (ElB × Nat)) : Nat → Nat → Option (List ElB)
  | 0, _ => none
  | f + 1, i =>
    if ¬ i < s.size then some []
    else if standsB s i openNoteB = true then
      if xoI s (i : Int) < 0 then none
      else if standsB s (xoI s (i : Int)).toNat nlS = true then (docL s el f ((xoI s (i : Int)).toNat + 1)).map fun r => .mk 3 0 ⟨#[]⟩ [] (xoS s (i : Int)) [] :: r else none
    else match el i with
      | none => none
      | some x => if standsB s x.2 nlS = true then (docL s el f (x.2 + 1)).map fun r => x.1 :: r else none
/-- What is read of a strict text; none: refused. -/
def readR (s : ByteArray) : Option (List ElB) :=
  if 200000 < s.size ∨ standsB s 0 xmlHead = false then none
  else match docL s (fun q => elM s (s.size + 1) 60 q (-1)) (s.size + 1) 22 with
    | none => none
    | some l => if docF 0 0 l = true then some l else none
theorem docL_size (s : ByteArray) (el : Nat → Option (ElB × Nat)) (hE : ElSz s el) : ∀ (f i : Nat) (r : List ElB), docL s el f i = some r → i ≤ s.size → r.length + elsW r ≤ 5 * (s.size - i)
  | 0, _, _, h, _ => by cases h
  | f + 1, i, r, h, hi => by
    have u : nlS.size = 1 := rfl
    rw [docL] at h
    split at h
    · injection h with h
      rw [← h]
      simp [elsW]
    · split at h
      · split at h
        · cases h
        · rename_i hx
          obtain ⟨j, ej, hj, hj2, hj3⟩ := xoI_le hx
          have et : (xoI s (i : Int)).toNat = j := by omega
          rw [et] at h
          split at h
          · rename_i hst
            have h1 := stands_le hst
            obtain ⟨r', hr', rfl⟩ := Option.map_eq_some_iff.1 h
            have h2 := docL_size s el hE f (j + 1) r' hr' (by omega)
            have hw : elW (.mk 3 0 ⟨#[]⟩ [] (xoS s (i : Int)) []) ≤ (xoS s (i : Int)).size := Nat.le_of_eq (elW_bare 3 _)
            simp only [List.length_cons, elsW]
            omega
          · cases h
      · split at h
        · cases h
        · rename_i x hx
          obtain ⟨e, j⟩ := x
          have h1 := hE i e j hi hx
          split at h
          · rename_i hst
            have h3 := stands_le hst
            obtain ⟨r', hr', rfl⟩ := Option.map_eq_some_iff.1 h
            have h2 := docL_size s el hE f (j + 1) r' hr' (by omega)
            simp only [List.length_cons, elsW]
            omega
          · cases h
theorem readR_size {s : ByteArray} {l : List ElB} (h : readR s = some l) : l.length + elsW l ≤ 1000000 ∧ docF 0 0 l = true := by
  unfold readR at h
  split at h
  · cases h
  · rename_i h0
    split at h
    · cases h
    · rename_i l' hl
      split at h
      · rename_i hd
        injection h with h
        subst h
        by_cases h22 : 22 ≤ s.size
        · have h1 := docL_size s _ (el_size s (s.size + 1) 60 (-1)) _ _ _ hl h22
          have h2 : ¬ 200000 < s.size := fun h => h0 (.inl h)
          exact ⟨by omega, hd⟩
        · exfalso
          apply h0
          right
          cases hst : standsB s 0 xmlHead
          · rfl
          · have h3 := stands_le hst
            have u : xmlHead.size = 22 := rfl
            omega
      · cases h

end Go.Proofs.YthipdkagkdnaiaaGreatDoor.Sg

namespace Go.Proofs.YthipdkagkdnaiaaGreatDoor.Sg
open Go.ChangeShapes Go.WideShapes Go.ChangeAt Go.RowKit

theorem below_own {w a b : World} {e : TypeId} {z : Nat} {v : Value} {n : Nat} {xs : List Value} (h : Below w.heap.size w a) (ho : a.ownsRow w.heap.size e z v n xs) (hg : a.grownBy b v.ownBlock) : Below w.heap.size w b :=
  ⟨hg.os.trans h.os, hg.tape.trans h.tape, hg.output.trans h.output, Nat.le_trans h.size hg.size, fun k hk => (hg.block k (Nat.lt_of_lt_of_le hk h.size) (fun e => absurd (own_base ho e.symm) (Nat.not_le_of_lt hk))).trans (h.block k hk)⟩
theorem doc_more {l x : List ElB} {o : Option (List ElB)} : (o.map fun r => x ++ r).map (fun r => l ++ r) = o.map fun r => (l ++ x) ++ r := by
  cases o <;> simp
theorem KidsIn.qa {lo : Nat} {w : World} {a : Option Addr} {l : List ElB} (h : KidsIn (QP (lo ≤ ·)) (lo ≤ ·) w a l) : KidsIn (QA lo) (lo ≤ ·) w a l := by
  rcases h with h | ⟨b, o, e, hp, hk⟩
  · exact .inl h
  · exact .inr ⟨b, o, e, hp, ElsIn.wider (fun _ _ hq => hq.qa) (fun _ hb => hb) l b o hk⟩
theorem QP.lies (P : Nat → Prop) : Lies (QP P) := ⟨fun ⟨x, c, e, h1, h3, h4⟩ hb => ⟨x, c, e, fun b o m h => ⟨(h1 b o m h).1, Nat.lt_of_lt_of_le (h1 b o m h).2 hb.size⟩, h3.below hb, h4⟩, fun ⟨_, c, e, _⟩ => ⟨_, c, e⟩⟩
def finR : Option (List ElB) → Option (List ElB)
  | none => none
  | some l => if docF 0 0 l = true then some l else none
/-- What Read leaves. -/
def ReadLeft (w : World) (R : Option (List ElB)) (r : Ending) (w' : World) : Prop :=
  Below w.heap.size w w' ∧ ((∃ l g c, R = some l ∧ r = .returned (.tuple #[.slice (some ⟨g, 0, none⟩) l.length c, .bool true]) ∧ KidsIn (QP (w.heap.size ≤ ·)) (w.heap.size ≤ ·) w' (some ⟨g, 0, none⟩) l) ∨ (R = none ∧ ∃ g, r = .returned (.tuple #[.slice (some ⟨g, 0, none⟩) 0 0, .bool false])))

set_option maxRecDepth 20000 in
set_option maxHeartbeats 16000000 in
theorem specRead (s : ByteArray) (w : World) (hs : s.size ≤ 1073741824) :
    Calls Tryz.prog 11 #[.string s] w fun r w' => ReadLeft w (readR s) r w' := by
  have bA := (Below.refl w.heap.size w).alloc (Nat.le_refl _) (.cells #[] 25)
  by_cases hbig : 200000 < s.size
  · have hR : readR s = none := by unfold readR; rw [if_pos (.inl hbig)]
    have g1 : (200000 : Int) < (s.size : Int) := by omega
    go_enter Tryz.func11, Tryz.ntmps11
    go_wp2_with fail
    go_ret2
    exact ⟨bA, .inr ⟨hR, _, rfl⟩⟩
  have g1 : ¬ (200000 : Int) < (s.size : Int) := by omega
  obtain ⟨i0, hi0, hz0, hz1, hz2⟩ := info_parts info_el
  have Hi : Hid (Tryz.prog.info? 25 = some i0) := hi0
  have Hz0 : Hid (i0.zero = some (.agg #[.int .i64 0, .int .i64 0, .string ⟨#[]⟩, .slice none 0 0, .string ⟨#[]⟩, .slice none 0 0])) := hz0
  have Hz1 : Hid (i0.size = 6) := hz1
  have Hz2 : Hid (i0.bytes = 96) := hz2
  have HE : Hid (ElC s (w.heap.size + 1) (s.size + 1)) := elC_all s _ hs _
  have hsz := docL_size s _ (el_size s (s.size + 1) 60 (-1)) (s.size + 1) 22
  obtain ⟨el, Hel⟩ : ∃ el : Nat → Option (ElB × Nat), Hid (el = fun q => elM s (s.size + 1) 60 q (-1)) := ⟨_, rfl⟩
  rw [← Hel.out] at hsz
  obtain ⟨R, HR⟩ : ∃ R, Hid ((if standsB s 0 xmlHead = false then none else docL s el (s.size + 1) 22) = R) := ⟨_, rfl⟩
  have Hread : Hid (readR s = finR R) := by
    show _ = _
    unfold readR
    rw [← HR.out, Hel.out]
    cases hst : standsB s 0 xmlHead
    · rw [if_pos (.inr rfl), if_pos rfl]
      rfl
    · rw [if_neg (fun h => h.elim (fun h => hbig h) (fun h => by cases h)), if_neg (by decide)]
      cases docL s (fun q => elM s (s.size + 1) 60 q (-1)) (s.size + 1) 22 <;> rfl
  have HRs : Hid (∀ l, R = some l → l.length + elsW l ≤ 1000000) := fun l hl => by
    have h1 := HR.out
    rw [hl] at h1
    cases hst : standsB s 0 xmlHead
    · rw [hst, if_pos rfl] at h1
      cases h1
    · rw [hst, if_neg (by decide)] at h1
      have h2 := stands_le hst
      have u : xmlHead.size = 22 := rfl
      have := hsz l h1 (by omega)
      omega
  have HO0 : Hid (RowP (w.heap.size + 1) ((w.alloc (.cells #[] 25)).alloc (.cells #[.string s, .int .i64 0, .bool true] 38)) w.heap.size (.slice (some ⟨w.heap.size, 0, none⟩) 0 0) []) := (RowP.empty (w.heap.size + 1) w w.heap.size (Nat.le_refl _) (by omega)).keep ((Below.refl _ _).alloc (Nat.le_refl _) _)
  have HD0 : Hid (RdAt ((w.alloc (.cells #[] 25)).alloc (.cells #[.string s, .int .i64 0, .bool true] 38)) (w.heap.size + 1) s ((0 : Nat) : Int) true) := by
    show RdAt _ _ _ _ _
    unfold RdAt
    show ((w.heap.push _).push _)[w.heap.size + 1]? = _
    have e : w.heap.size + 1 = (w.heap.push (.cells #[] 25)).size := by simp
    rw [e]
    exact Array.getElem?_push_size
  have HB0 : Hid (Below w.heap.size w ((w.alloc (.cells #[] 25)).alloc (.cells #[.string s, .int .i64 0, .bool true] 38))) := bA.alloc (by simp) _
  clear hi0 hz0 hz1 hz2 bA hsz
  go_enter Tryz.func11, Tryz.ntmps11
  go_wp2_with fail
  generalize (w.alloc (.cells #[] 25)).alloc (.cells #[.string s, .int .i64 0, .bool true] 38) = w0 at *
  have hT : Calls Tryz.prog 27 #[.pointer (some ⟨w.heap.size + 1, 0, none⟩), .string ⟨#[60, 63, 120, 109, 108, 32, 118, 101, 114, 115, 105, 111, 110, 61, 34, 49, 46, 48, 34, 63, 62, 10]⟩] w0 fun r w' => r = .returned (.tuple #[]) ∧ Fr (w.heap.size + 1) w0 w' ∧ ((Hid ((docL s el (s.size + 1) 22).map (fun r => [] ++ r) = R) ∧ 22 ≤ s.size ∧ Hid (RdAt w' (w.heap.size + 1) s ((22 : Nat) : Int) true)) ∨ (Hid (R = none) ∧ ∃ k, Hid (RdAt w' (w.heap.size + 1) s k false))) := by
    cases hst : standsB s 0 xmlHead
    · refine (take_no s xmlHead 0 _ w0 HD0.out (by omega) (by omega) (by decide) hst).mono ?_
      rintro r w' ⟨rfl, hD, hF⟩
      refine ⟨rfl, hF, .inr ⟨?_, _, hD⟩⟩
      show _ = _
      rw [← HR.out, if_pos hst]
    · have h2 := stands_le hst
      have u : xmlHead.size = 22 := rfl
      refine (take_yes s xmlHead 0 _ w0 HD0.out (by omega) (by omega) (by decide) hst).mono ?_
      rintro r w' ⟨rfl, hD, hF⟩
      refine ⟨rfl, hF, .inl ⟨?_, by omega, hD⟩⟩
      show _ = _
      rw [← HR.out, if_neg (by rw [hst]; decide)]
      cases docL s el (s.size + 1) 22 <;> simp
  refine hT.mono ?_
  rintro r w1 ⟨rfl, hF1, hmode⟩
  have HO1 : Hid (RowP (w.heap.size + 1) w1 w.heap.size (.slice (some ⟨w.heap.size, 0, none⟩) 0 0) []) := HO0.out.fr hF1
  have HB1 : Hid (Below w.heap.size w w1) := HB0.out.trans (hF1.below (by omega) HB0.out.size)
  clear hT HO0 HD0 HB0 hF1 HR
  go_wp2_with fail
  go_loopw [4] (fun ov wr => ∃ l : List ElB, l.length ≤ s.size ∧ Hid (RowP (w.heap.size + 1) wr w.heap.size ov l) ∧ Hid (Below w.heap.size w wr) ∧ ((∃ f k : Nat, k ≤ s.size ∧ s.size + 1 ≤ f + k ∧ l.length ≤ k ∧ Hid ((docL s el f k).map (fun r => l ++ r) = R) ∧ Hid (RdAt wr (w.heap.size + 1) s (k : Int) true)) ∨ (Hid (R = none) ∧ ∃ k, Hid (RdAt wr (w.heap.size + 1) s k false)))) (fun _ wr => rdLeft s (w.heap.size + 1) wr)
  case atStart =>
    refine ⟨[], Nat.zero_le _, HO1, HB1, ?_⟩
    rcases hmode with ⟨h1, h2, h3⟩ | h
    · exact .inl ⟨s.size + 1, 22, h2, by omega, Nat.zero_le _, h1, h3⟩
    · exact .inr h
  case round =>
    clear HO1 HB1 hmode
    obtain ⟨l, hll, HO, HB, hmode⟩ := hrel
    obtain ⟨g, oc, rfl, hgp, hg1, hg2⟩ := HO.out.form
    rcases hmode with ⟨f, k, hk, hf, hlk, HRk, HD⟩ | ⟨HN, k, HD⟩
    · have c1 := HD.out.c1
      have c2 := HD.out.c2
      have HM : Hid (rdLeft s (w.heap.size + 1) wr = s.size + 2 - k) := rdLeft_on HD.out
      obtain ⟨f', rfl⟩ : ∃ f', f = f' + 1 := ⟨f - 1, by omega⟩
      have hRk := HRk.out
      rw [docL] at hRk
      by_cases hlt : k < s.size
      · rw [if_neg (by omega)] at hRk
        have k1 : (k : Int) < (s.size : Int) := by omega
        have k1' : decide ((k : Int) < (s.size : Int)) = true := decide_eq_true k1
        have HS2 := specStands s k openNoteB wr (by omega) (by omega) (by decide)
        cases hno : standsB s k openNoteB
        · rw [hno] at HS2 hRk
          rw [if_neg (by decide)] at hRk
          have HC := HE.out 60 k (-1) wr HD.out hk (by omega) (by omega)
          have eC : elM s (s.size + 1) 60 k (-1) = el k := by rw [Hel.out]
          rw [eC] at HC
          clear HRk
          go_wp2_with fail
          refine HS2.mono ?_
          rintro r wx ⟨rfl, rfl⟩
          clear HS2
          go_wp2_with fail
          refine HC.mono ?_
          rintro r w2 ⟨v, rfl, hleft, hfr⟩
          have HO2 : Hid (RowP (w.heap.size + 1) w2 w.heap.size _ l) := HO.out.fr hfr
          have HB2 : Hid (Below w.heap.size w w2) := HB.out.trans (hfr.below (by omega) HB.out.size)
          have HN' : Hid (g < wx.heap.size ∧ w.heap.size + 1 < wx.heap.size ∧ w.heap.size ≤ wx.heap.size) := ⟨hg2, HD.out.lt, HB.out.size⟩
          clear HC HO HB HD c1 c2 hfr hg2
          generalize wx.heap.size = N4 at *
          rcases hleft with ⟨e, j, hR, hkj, hjs, heP, hD⟩ | ⟨hR, ⟨e, heP⟩, kx, hD⟩
          · obtain ⟨kd, sq, nm, ats, tx, ks⟩ := e
            have HeP : Hid (ElP (N4 ≤ ·) w2 v (.mk kd sq nm ats tx ks)) := heP
            obtain ⟨av, ka, kc, ev, ⟨xa, xc, eav, _⟩, _⟩ := heP
            subst eav
            subst ev
            rw [hR] at hRk
            have HRj : Hid ((if standsB s j nlS = true then (docL s el f' (j + 1)).map (fun r => (ElB.mk kd sq nm ats tx ks) :: r) else none).map (fun r => l ++ r) = R) := hRk
            have HD2 : Hid (RdAt w2 (w.heap.size + 1) s ((j : Nat) : Int) true) := hD
            clear hRk hR hD
            obtain ⟨gq, capq, C, eV, hgp', hown, hels⟩ := HO2.out
            cases eV
            have bA := (Below.refl w2.heap.size w2).alloc (Nat.le_refl _) (.cells #[.int .i64 kd, .int .i64 sq, .string nm, .slice xa ats.length xc, .string tx, .slice ka ks.length kc] 25)
            have O4 := hown.alloc (.cells #[.int .i64 kd, .int .i64 sq, .string nm, .slice xa ats.length xc, .string tx, .slice ka ks.length kc] 25)
            have hels4 : ∀ i (hi : i < l.length), ElP (fun b => (w.heap.size ≤ b ∧ b ≠ g) ∧ b ≠ w.heap.size + 1) (w2.alloc (.cells #[.int .i64 kd, .int .i64 sq, .string nm, .slice xa ats.length xc, .string tx, .slice ka ks.length kc] 25)) (sixV C i) (l[i]'hi) := fun i hi => (hels i hi).stay (fun b _ h2 => bA.block b h2) bA.size
            have he4 : Hid (ElP (N4 ≤ ·) (w2.alloc (.cells #[.int .i64 kd, .int .i64 sq, .string nm, .slice xa ats.length xc, .string tx, .slice ka ks.length kc] 25)) (.agg #[.int .i64 kd, .int .i64 sq, .string nm, .slice xa ats.length xc, .string tx, .slice ka ks.length kc]) (ElB.mk kd sq nm ats tx ks)) := (HeP.out).stay (fun b _ h2 => bA.block b h2) bA.size
            have F4 : Hid (Below w.heap.size w (w2.alloc (.cells #[.int .i64 kd, .int .i64 sq, .string nm, .slice xa ats.length xc, .string tx, .slice ka ks.length kc] 25))) := HB2.out.trans (bA.mono HB2.out.size)
            have D4 : Hid (RdAt (w2.alloc (.cells #[.int .i64 kd, .int .i64 sq, .string nm, .slice xa ats.length xc, .string tx, .slice ka ks.length kc] 25)) (w.heap.size + 1) s _ _) := HD2.out.keep bA
            have Hels4 : Hid (∀ i (hi : i < l.length), ElP (fun b => (w.heap.size ≤ b ∧ b ≠ g) ∧ b ≠ w.heap.size + 1) (w2.alloc (.cells #[.int .i64 kd, .int .i64 sq, .string nm, .slice xa ats.length xc, .string tx, .slice ka ks.length kc] 25)) (sixV C i) (l[i]'hi)) := hels4
            have hC6 : Hid (C.length = l.length * 6) := hown.1
            clear hels hels4 bA hown
            go_wp2_with (at_builtin; refine wpList_append_at _ rfl (.tmp 61) (.tmp 64) 23 rfl w.heap.size 25 i0 (.agg #[.int .i64 0, .int .i64 0, .string ⟨#[]⟩, .slice none 0 0, .string ⟨#[]⟩, .slice none 0 0]) 6 96 Tryz.underlying23 Hi.out Hz0.out Hz1.out Hz2.out rfl (by decide) _ l.length C rfl O4 ⟨_, 0, none⟩ 1 1 [.int .i64 kd, .int .i64 sq, .string nm, .slice xa ats.length xc, .string tx, .slice ka ks.length kc] rfl rfl (six_cells _ _ _ _ _ _ _ _ _ (by first | rfl | simp | simp [World.setCell])) (by intro u hu; simp only [List.mem_cons, List.not_mem_nil, or_false] at hu; rcases hu with rfl | rfl | rfl | rfl | rfl | rfl <;> rfl) ?x3 ?x4 ?x5 ?_)
            case x3 => unfold maxLen; omega
            case x4 => omega
            case x5 => exact F4.out.size
            intro v' w5 ho5 hg5 hb5
            have HO5 : Hid (RowP (w.heap.size + 1) w5 w.heap.size v' (l ++ [(ElB.mk kd sq nm ats tx ks)])) := RowP.more rfl hgp D4.out.lt hC6.out Hels4.out HN'.out.1 HN'.out.2.1 HN'.out.2.2 he4.out ho5 hg5 (fun b hb => (hb5 b hb).imp (fun h => h) (fun h => by first | exact h | (simp; omega) | (simp [World.setCell]; omega)))
            have HB5 : Hid (Below w.heap.size w w5) := below_own F4.out O4 hg5
            have HD5 : Hid (RdAt w5 (w.heap.size + 1) s _ _) := D4.out.grownP hgp hg5
            have hl1 : (l ++ [(ElB.mk kd sq nm ats tx ks)]).length = l.length + 1 := by simp
            clear ho5 hg5 hb5 O4 F4 D4 Hels4 hC6 he4 HN' HO2 HB2 HD2
            go_wp2_with fail
            cases hnl : standsB s j nlS
            · have HN : Hid (R = none) := by
                show _ = _
                rw [← HRj.out, if_neg (by rw [hnl]; decide)]
                rfl
              clear HRj
              refine (take_no s nlS j _ _ HD5.out (by omega) (by omega) (by decide) hnl).mono ?_
              rintro r w6 ⟨rfl, hD6, hF6⟩
              have HO6 : Hid (RowP (w.heap.size + 1) w6 w.heap.size v' (l ++ [(ElB.mk kd sq nm ats tx ks)])) := HO5.out.fr hF6
              have HB6 : Hid (Below w.heap.size w w6) := HB5.out.trans (hF6.below (by omega) HB5.out.size)
              have HD6 : Hid (RdAt w6 (w.heap.size + 1) s _ false) := hD6
              clear HO5 HB5 HD5 hD6 hF6
              go_wp2_with fail
              go_roundw
              case rel => exact ⟨l ++ [(ElB.mk kd sq nm ats tx ks)], by rw [hl1]; omega, HO6, HB6, .inr ⟨HN, _, HD6⟩⟩
              case measure =>
                rw [rdLeft_off HD6.out, HM.out]
                omega
            · have HRn : Hid ((docL s el f' (j + 1)).map (fun r => (l ++ [(ElB.mk kd sq nm ats tx ks)]) ++ r) = R) := by
                show _ = _
                rw [← HRj.out, if_pos hnl]
                exact (doc_more (x := [(ElB.mk kd sq nm ats tx ks)])).symm
              have hjn := stands_le hnl
              have un : nlS.size = 1 := rfl
              rw [un] at hjn
              clear HRj
              refine (take_yes s nlS j _ _ HD5.out (by omega) (by omega) (by decide) hnl).mono ?_
              rintro r w6 ⟨rfl, hD6, hF6⟩
              rw [un] at hD6
              have HO6 : Hid (RowP (w.heap.size + 1) w6 w.heap.size v' (l ++ [(ElB.mk kd sq nm ats tx ks)])) := HO5.out.fr hF6
              have HB6 : Hid (Below w.heap.size w w6) := HB5.out.trans (hF6.below (by omega) HB5.out.size)
              have HD6 : Hid (RdAt w6 (w.heap.size + 1) s ((j + 1 : Nat) : Int) true) := hD6
              clear HO5 HB5 HD5 hD6 hF6
              go_wp2_with fail
              go_roundw
              case rel => exact ⟨l ++ [(ElB.mk kd sq nm ats tx ks)], by rw [hl1]; omega, HO6, HB6, .inl ⟨f', j + 1, by omega, by omega, by rw [hl1]; omega, HRn, HD6⟩⟩
              case measure =>
                rw [rdLeft_on HD6.out, HM.out]
                omega
          · obtain ⟨kd, sq, nm, ats, tx, ks⟩ := e
            have HeP : Hid (ElP (N4 ≤ ·) w2 v (.mk kd sq nm ats tx ks)) := heP
            obtain ⟨av, ka, kc, ev, ⟨xa, xc, eav, _⟩, _⟩ := heP
            subst eav
            subst ev
            rw [hR] at hRk
            have HN : Hid (R = none) := hRk.symm
            have HD2 : Hid (RdAt w2 (w.heap.size + 1) s kx false) := hD
            clear hRk hR hD
            obtain ⟨gq, capq, C, eV, hgp', hown, hels⟩ := HO2.out
            cases eV
            have bA := (Below.refl w2.heap.size w2).alloc (Nat.le_refl _) (.cells #[.int .i64 kd, .int .i64 sq, .string nm, .slice xa ats.length xc, .string tx, .slice ka ks.length kc] 25)
            have O4 := hown.alloc (.cells #[.int .i64 kd, .int .i64 sq, .string nm, .slice xa ats.length xc, .string tx, .slice ka ks.length kc] 25)
            have hels4 : ∀ i (hi : i < l.length), ElP (fun b => (w.heap.size ≤ b ∧ b ≠ g) ∧ b ≠ w.heap.size + 1) (w2.alloc (.cells #[.int .i64 kd, .int .i64 sq, .string nm, .slice xa ats.length xc, .string tx, .slice ka ks.length kc] 25)) (sixV C i) (l[i]'hi) := fun i hi => (hels i hi).stay (fun b _ h2 => bA.block b h2) bA.size
            have he4 : Hid (ElP (N4 ≤ ·) (w2.alloc (.cells #[.int .i64 kd, .int .i64 sq, .string nm, .slice xa ats.length xc, .string tx, .slice ka ks.length kc] 25)) (.agg #[.int .i64 kd, .int .i64 sq, .string nm, .slice xa ats.length xc, .string tx, .slice ka ks.length kc]) (ElB.mk kd sq nm ats tx ks)) := (HeP.out).stay (fun b _ h2 => bA.block b h2) bA.size
            have F4 : Hid (Below w.heap.size w (w2.alloc (.cells #[.int .i64 kd, .int .i64 sq, .string nm, .slice xa ats.length xc, .string tx, .slice ka ks.length kc] 25))) := HB2.out.trans (bA.mono HB2.out.size)
            have D4 : Hid (RdAt (w2.alloc (.cells #[.int .i64 kd, .int .i64 sq, .string nm, .slice xa ats.length xc, .string tx, .slice ka ks.length kc] 25)) (w.heap.size + 1) s _ _) := HD2.out.keep bA
            have Hels4 : Hid (∀ i (hi : i < l.length), ElP (fun b => (w.heap.size ≤ b ∧ b ≠ g) ∧ b ≠ w.heap.size + 1) (w2.alloc (.cells #[.int .i64 kd, .int .i64 sq, .string nm, .slice xa ats.length xc, .string tx, .slice ka ks.length kc] 25)) (sixV C i) (l[i]'hi)) := hels4
            have hC6 : Hid (C.length = l.length * 6) := hown.1
            clear hels hels4 bA hown
            go_wp2_with (at_builtin; refine wpList_append_at _ rfl (.tmp 61) (.tmp 64) 23 rfl w.heap.size 25 i0 (.agg #[.int .i64 0, .int .i64 0, .string ⟨#[]⟩, .slice none 0 0, .string ⟨#[]⟩, .slice none 0 0]) 6 96 Tryz.underlying23 Hi.out Hz0.out Hz1.out Hz2.out rfl (by decide) _ l.length C rfl O4 ⟨_, 0, none⟩ 1 1 [.int .i64 kd, .int .i64 sq, .string nm, .slice xa ats.length xc, .string tx, .slice ka ks.length kc] rfl rfl (six_cells _ _ _ _ _ _ _ _ _ (by first | rfl | simp | simp [World.setCell])) (by intro u hu; simp only [List.mem_cons, List.not_mem_nil, or_false] at hu; rcases hu with rfl | rfl | rfl | rfl | rfl | rfl <;> rfl) ?x3 ?x4 ?x5 ?_)
            case x3 => unfold maxLen; omega
            case x4 => omega
            case x5 => exact F4.out.size
            intro v' w5 ho5 hg5 hb5
            have HO5 : Hid (RowP (w.heap.size + 1) w5 w.heap.size v' (l ++ [(ElB.mk kd sq nm ats tx ks)])) := RowP.more rfl hgp D4.out.lt hC6.out Hels4.out HN'.out.1 HN'.out.2.1 HN'.out.2.2 he4.out ho5 hg5 (fun b hb => (hb5 b hb).imp (fun h => h) (fun h => by first | exact h | (simp; omega) | (simp [World.setCell]; omega)))
            have HB5 : Hid (Below w.heap.size w w5) := below_own F4.out O4 hg5
            have HD5 : Hid (RdAt w5 (w.heap.size + 1) s _ _) := D4.out.grownP hgp hg5
            have hl1 : (l ++ [(ElB.mk kd sq nm ats tx ks)]).length = l.length + 1 := by simp
            clear ho5 hg5 hb5 O4 F4 D4 Hels4 hC6 he4 HN' HO2 HB2 HD2
            go_wp2_with fail
            refine (take_off s nlS _ _ _ HD5.out).mono ?_
            rintro r w6 ⟨rfl, hD6, hF6⟩
            have HO6 : Hid (RowP (w.heap.size + 1) w6 w.heap.size v' (l ++ [(ElB.mk kd sq nm ats tx ks)])) := HO5.out.fr hF6
            have HB6 : Hid (Below w.heap.size w w6) := HB5.out.trans (hF6.below (by omega) HB5.out.size)
            have HD6 : Hid (RdAt w6 (w.heap.size + 1) s _ false) := hD6
            clear HO5 HB5 HD5 hD6 hF6
            go_wp2_with fail
            go_roundw
            case rel => exact ⟨l ++ [(ElB.mk kd sq nm ats tx ks)], by rw [hl1]; omega, HO6, HB6, .inr ⟨HN, _, HD6⟩⟩
            case measure =>
              rw [rdLeft_off HD6.out, HM.out]
              omega
        · rw [hno] at HS2 hRk
          rw [if_pos rfl] at hRk
          have hxt := xoI_le (s := s) (i := k)
          have HX := specXmlNote s (k : Int) wr hs
          generalize xoI s (k : Int) = xi at *
          generalize xoS s (k : Int) = xs at *
          clear HRk
          go_wp2_with fail
          refine HS2.mono ?_
          rintro r wx ⟨rfl, rfl⟩
          clear HS2
          go_wp2_with fail
          refine HX.mono ?_
          rintro r w2 ⟨rfl, b2⟩
          have HO2 : Hid (RowP (w.heap.size + 1) w2 w.heap.size _ l) := HO.out.keep b2
          have HB2 : Hid (Below w.heap.size w w2) := HB.out.trans (b2.mono HB.out.size)
          have HD2 : Hid (RdAt w2 (w.heap.size + 1) s (k : Int) true) := HD.out.keep b2
          clear HX HO HB HD c1 c2 b2 hg2
          by_cases hx0 : xi < 0
          · rw [if_pos hx0] at hRk
            have HN : Hid (R = none) := hRk.symm
            have gx : ¬ (0 : Int) ≤ xi := by omega
            have gx' : decide ((0 : Int) ≤ xi) = false := decide_eq_false gx
            clear hRk hxt
            have HDs : Hid (RdAt (w2.setCell ⟨w.heap.size + 1, 2, none⟩ (.bool false)) (w.heap.size + 1) s (k : Int) false) := HD2.out.set2 false
            have HD3 : Hid (RdAt ((w2.setCell ⟨w.heap.size + 1, 2, none⟩ (.bool false)).setCell ⟨w.heap.size + 1, 1, none⟩ (.int .i64 0)) (w.heap.size + 1) s 0 false) := HDs.out.set1 _
            have HB3 : Hid (Below w.heap.size w ((w2.setCell ⟨w.heap.size + 1, 2, none⟩ (.bool false)).setCell ⟨w.heap.size + 1, 1, none⟩ (.int .i64 0))) := HB2.out.trans (((Fr.set (p := w.heap.size + 1) w2 2 (.bool false)).trans (Fr.set _ 1 (.int .i64 0))).below (by omega) HB2.out.size)
            have HO3 : Hid (RowP (w.heap.size + 1) ((w2.setCell ⟨w.heap.size + 1, 2, none⟩ (.bool false)).setCell ⟨w.heap.size + 1, 1, none⟩ (.int .i64 0)) w.heap.size _ l) := (HO2.out.fr (Fr.set _ 2 (.bool false))).fr (Fr.set _ 1 (.int .i64 0))
            have HN' : Hid (g < w2.heap.size ∧ w.heap.size + 1 < w2.heap.size ∧ w.heap.size ≤ w2.heap.size) := by
              obtain ⟨_, _, e, _, _, h2⟩ := HO2.out.form
              cases e
              exact ⟨h2, HD2.out.lt, HB2.out.size⟩
            have c2 := HD2.out.c2
            have z2 := HD2.out.fz 2
            have c1 := HDs.out.c1
            have z1 := HDs.out.fz 1
            have HMx := specMaxE xi 0 (w2.setCell ⟨w.heap.size + 1, 2, none⟩ (.bool false))
            rw [if_neg (by omega)] at HMx
            clear HO2 HB2 HD2 HDs
            go_wp2_with fail
            refine HMx.mono ?_
            rintro r w3 ⟨rfl, rfl⟩
            clear HMx
            obtain ⟨gq, capq, C, eV, hgp', hown, hels⟩ := HO3.out
            cases eV
            have bA := (Below.refl ((w2.setCell ⟨w.heap.size + 1, 2, none⟩ (.bool false)).setCell ⟨w.heap.size + 1, 1, none⟩ (.int .i64 0)).heap.size ((w2.setCell ⟨w.heap.size + 1, 2, none⟩ (.bool false)).setCell ⟨w.heap.size + 1, 1, none⟩ (.int .i64 0))).alloc (Nat.le_refl _) (.cells #[.int .i64 3, .int .i64 0, .string ⟨#[]⟩, .slice none 0 0, .string xs, .slice none 0 0] 25)
            have O4 := hown.alloc (.cells #[.int .i64 3, .int .i64 0, .string ⟨#[]⟩, .slice none 0 0, .string xs, .slice none 0 0] 25)
            have hels4 : ∀ i (hi : i < l.length), ElP (fun b => (w.heap.size ≤ b ∧ b ≠ g) ∧ b ≠ w.heap.size + 1) (((w2.setCell ⟨w.heap.size + 1, 2, none⟩ (.bool false)).setCell ⟨w.heap.size + 1, 1, none⟩ (.int .i64 0)).alloc (.cells #[.int .i64 3, .int .i64 0, .string ⟨#[]⟩, .slice none 0 0, .string xs, .slice none 0 0] 25)) (sixV C i) (l[i]'hi) := fun i hi => (hels i hi).stay (fun b _ h2 => bA.block b h2) bA.size
            have he4 : Hid (ElP (w2.heap.size ≤ ·) (((w2.setCell ⟨w.heap.size + 1, 2, none⟩ (.bool false)).setCell ⟨w.heap.size + 1, 1, none⟩ (.int .i64 0)).alloc (.cells #[.int .i64 3, .int .i64 0, .string ⟨#[]⟩, .slice none 0 0, .string xs, .slice none 0 0] 25)) (.agg #[.int .i64 3, .int .i64 0, .string ⟨#[]⟩, .slice none 0 0, .string xs, .slice none 0 0]) (ElB.mk 3 0 ⟨#[]⟩ [] xs [])) := (ElP.note _ _ 3 xs).stay (fun b _ h2 => bA.block b h2) bA.size
            have F4 : Hid (Below w.heap.size w (((w2.setCell ⟨w.heap.size + 1, 2, none⟩ (.bool false)).setCell ⟨w.heap.size + 1, 1, none⟩ (.int .i64 0)).alloc (.cells #[.int .i64 3, .int .i64 0, .string ⟨#[]⟩, .slice none 0 0, .string xs, .slice none 0 0] 25))) := HB3.out.trans (bA.mono HB3.out.size)
            have D4 : Hid (RdAt (((w2.setCell ⟨w.heap.size + 1, 2, none⟩ (.bool false)).setCell ⟨w.heap.size + 1, 1, none⟩ (.int .i64 0)).alloc (.cells #[.int .i64 3, .int .i64 0, .string ⟨#[]⟩, .slice none 0 0, .string xs, .slice none 0 0] 25)) (w.heap.size + 1) s _ _) := HD3.out.keep bA
            have Hels4 : Hid (∀ i (hi : i < l.length), ElP (fun b => (w.heap.size ≤ b ∧ b ≠ g) ∧ b ≠ w.heap.size + 1) (((w2.setCell ⟨w.heap.size + 1, 2, none⟩ (.bool false)).setCell ⟨w.heap.size + 1, 1, none⟩ (.int .i64 0)).alloc (.cells #[.int .i64 3, .int .i64 0, .string ⟨#[]⟩, .slice none 0 0, .string xs, .slice none 0 0] 25)) (sixV C i) (l[i]'hi)) := hels4
            have hC6 : Hid (C.length = l.length * 6) := hown.1
            clear hels hels4 bA hown
            go_wp2_with (at_builtin; refine wpList_append_at _ rfl (.tmp 56) (.tmp 59) 23 rfl w.heap.size 25 i0 (.agg #[.int .i64 0, .int .i64 0, .string ⟨#[]⟩, .slice none 0 0, .string ⟨#[]⟩, .slice none 0 0]) 6 96 Tryz.underlying23 Hi.out Hz0.out Hz1.out Hz2.out rfl (by decide) _ l.length C rfl O4 ⟨_, 0, none⟩ 1 1 [.int .i64 3, .int .i64 0, .string ⟨#[]⟩, .slice none 0 0, .string xs, .slice none 0 0] rfl rfl (six_cells _ _ _ _ _ _ _ _ _ (by first | rfl | simp | simp [World.setCell])) (by intro u hu; simp only [List.mem_cons, List.not_mem_nil, or_false] at hu; rcases hu with rfl | rfl | rfl | rfl | rfl | rfl <;> rfl) ?x3 ?x4 ?x5 ?_)
            case x3 => unfold maxLen; omega
            case x4 => omega
            case x5 => exact F4.out.size
            intro v' w5 ho5 hg5 hb5
            have HO5 : Hid (RowP (w.heap.size + 1) w5 w.heap.size v' (l ++ [(ElB.mk 3 0 ⟨#[]⟩ [] xs [])])) := RowP.more rfl hgp D4.out.lt hC6.out Hels4.out HN'.out.1 HN'.out.2.1 HN'.out.2.2 he4.out ho5 hg5 (fun b hb => (hb5 b hb).imp (fun h => h) (fun h => by first | exact h | (simp; omega) | (simp [World.setCell]; omega)))
            have HB5 : Hid (Below w.heap.size w w5) := below_own F4.out O4 hg5
            have HD5 : Hid (RdAt w5 (w.heap.size + 1) s _ _) := D4.out.grownP hgp hg5
            have hl1 : (l ++ [(ElB.mk 3 0 ⟨#[]⟩ [] xs [])]).length = l.length + 1 := by simp
            clear ho5 hg5 hb5 O4 F4 D4 Hels4 hC6 he4 HN' HO3 HB3 HD3
            go_wp2_with fail
            refine (take_off s nlS _ _ _ HD5.out).mono ?_
            rintro r w6 ⟨rfl, hD6, hF6⟩
            have HO6 : Hid (RowP (w.heap.size + 1) w6 w.heap.size v' (l ++ [(ElB.mk 3 0 ⟨#[]⟩ [] xs [])])) := HO5.out.fr hF6
            have HB6 : Hid (Below w.heap.size w w6) := HB5.out.trans (hF6.below (by omega) HB5.out.size)
            have HD6 : Hid (RdAt w6 (w.heap.size + 1) s _ false) := hD6
            clear HO5 HB5 HD5 hD6 hF6
            go_wp2_with fail
            go_roundw
            case rel => exact ⟨l ++ [(ElB.mk 3 0 ⟨#[]⟩ [] xs [])], by rw [hl1]; omega, HO6, HB6, .inr ⟨HN, _, HD6⟩⟩
            case measure =>
              rw [rdLeft_off HD6.out, HM.out]
              omega
          · rw [if_neg hx0] at hRk
            obtain ⟨j, rfl, hj1, hj2, hj3⟩ := hxt (by omega)
            have ej : ((j : Nat) : Int).toNat = j := by omega
            rw [ej] at hRk
            have HRj : Hid ((if standsB s j nlS = true then (docL s el f' (j + 1)).map (fun r => (ElB.mk 3 0 ⟨#[]⟩ [] xs []) :: r) else none).map (fun r => l ++ r) = R) := hRk
            have gx : (0 : Int) ≤ (j : Int) := by omega
            have gx' : decide ((0 : Int) ≤ (j : Int)) = true := decide_eq_true gx
            clear hRk hxt
            have HDs : Hid (RdAt (w2.setCell ⟨w.heap.size + 1, 2, none⟩ (.bool true)) (w.heap.size + 1) s (k : Int) true) := HD2.out.set2 true
            have HD3 : Hid (RdAt ((w2.setCell ⟨w.heap.size + 1, 2, none⟩ (.bool true)).setCell ⟨w.heap.size + 1, 1, none⟩ (.int .i64 (j : Int))) (w.heap.size + 1) s (j : Int) true) := HDs.out.set1 _
            have HB3 : Hid (Below w.heap.size w ((w2.setCell ⟨w.heap.size + 1, 2, none⟩ (.bool true)).setCell ⟨w.heap.size + 1, 1, none⟩ (.int .i64 (j : Int)))) := HB2.out.trans (((Fr.set (p := w.heap.size + 1) w2 2 (.bool true)).trans (Fr.set _ 1 (.int .i64 (j : Int)))).below (by omega) HB2.out.size)
            have HO3 : Hid (RowP (w.heap.size + 1) ((w2.setCell ⟨w.heap.size + 1, 2, none⟩ (.bool true)).setCell ⟨w.heap.size + 1, 1, none⟩ (.int .i64 (j : Int))) w.heap.size _ l) := (HO2.out.fr (Fr.set _ 2 (.bool true))).fr (Fr.set _ 1 (.int .i64 (j : Int)))
            have HN' : Hid (g < w2.heap.size ∧ w.heap.size + 1 < w2.heap.size ∧ w.heap.size ≤ w2.heap.size) := by
              obtain ⟨_, _, e, _, _, h2⟩ := HO2.out.form
              cases e
              exact ⟨h2, HD2.out.lt, HB2.out.size⟩
            have c2 := HD2.out.c2
            have z2 := HD2.out.fz 2
            have c1 := HDs.out.c1
            have z1 := HDs.out.fz 1
            have HMx := specMaxE (j : Int) 0 (w2.setCell ⟨w.heap.size + 1, 2, none⟩ (.bool true))
            rw [if_pos (by omega)] at HMx
            clear HO2 HB2 HD2 HDs
            go_wp2_with fail
            refine HMx.mono ?_
            rintro r w3 ⟨rfl, rfl⟩
            clear HMx
            obtain ⟨gq, capq, C, eV, hgp', hown, hels⟩ := HO3.out
            cases eV
            have bA := (Below.refl ((w2.setCell ⟨w.heap.size + 1, 2, none⟩ (.bool true)).setCell ⟨w.heap.size + 1, 1, none⟩ (.int .i64 (j : Int))).heap.size ((w2.setCell ⟨w.heap.size + 1, 2, none⟩ (.bool true)).setCell ⟨w.heap.size + 1, 1, none⟩ (.int .i64 (j : Int)))).alloc (Nat.le_refl _) (.cells #[.int .i64 3, .int .i64 0, .string ⟨#[]⟩, .slice none 0 0, .string xs, .slice none 0 0] 25)
            have O4 := hown.alloc (.cells #[.int .i64 3, .int .i64 0, .string ⟨#[]⟩, .slice none 0 0, .string xs, .slice none 0 0] 25)
            have hels4 : ∀ i (hi : i < l.length), ElP (fun b => (w.heap.size ≤ b ∧ b ≠ g) ∧ b ≠ w.heap.size + 1) (((w2.setCell ⟨w.heap.size + 1, 2, none⟩ (.bool true)).setCell ⟨w.heap.size + 1, 1, none⟩ (.int .i64 (j : Int))).alloc (.cells #[.int .i64 3, .int .i64 0, .string ⟨#[]⟩, .slice none 0 0, .string xs, .slice none 0 0] 25)) (sixV C i) (l[i]'hi) := fun i hi => (hels i hi).stay (fun b _ h2 => bA.block b h2) bA.size
            have he4 : Hid (ElP (w2.heap.size ≤ ·) (((w2.setCell ⟨w.heap.size + 1, 2, none⟩ (.bool true)).setCell ⟨w.heap.size + 1, 1, none⟩ (.int .i64 (j : Int))).alloc (.cells #[.int .i64 3, .int .i64 0, .string ⟨#[]⟩, .slice none 0 0, .string xs, .slice none 0 0] 25)) (.agg #[.int .i64 3, .int .i64 0, .string ⟨#[]⟩, .slice none 0 0, .string xs, .slice none 0 0]) (ElB.mk 3 0 ⟨#[]⟩ [] xs [])) := (ElP.note _ _ 3 xs).stay (fun b _ h2 => bA.block b h2) bA.size
            have F4 : Hid (Below w.heap.size w (((w2.setCell ⟨w.heap.size + 1, 2, none⟩ (.bool true)).setCell ⟨w.heap.size + 1, 1, none⟩ (.int .i64 (j : Int))).alloc (.cells #[.int .i64 3, .int .i64 0, .string ⟨#[]⟩, .slice none 0 0, .string xs, .slice none 0 0] 25))) := HB3.out.trans (bA.mono HB3.out.size)
            have D4 : Hid (RdAt (((w2.setCell ⟨w.heap.size + 1, 2, none⟩ (.bool true)).setCell ⟨w.heap.size + 1, 1, none⟩ (.int .i64 (j : Int))).alloc (.cells #[.int .i64 3, .int .i64 0, .string ⟨#[]⟩, .slice none 0 0, .string xs, .slice none 0 0] 25)) (w.heap.size + 1) s _ _) := HD3.out.keep bA
            have Hels4 : Hid (∀ i (hi : i < l.length), ElP (fun b => (w.heap.size ≤ b ∧ b ≠ g) ∧ b ≠ w.heap.size + 1) (((w2.setCell ⟨w.heap.size + 1, 2, none⟩ (.bool true)).setCell ⟨w.heap.size + 1, 1, none⟩ (.int .i64 (j : Int))).alloc (.cells #[.int .i64 3, .int .i64 0, .string ⟨#[]⟩, .slice none 0 0, .string xs, .slice none 0 0] 25)) (sixV C i) (l[i]'hi)) := hels4
            have hC6 : Hid (C.length = l.length * 6) := hown.1
            clear hels hels4 bA hown
            go_wp2_with (at_builtin; refine wpList_append_at _ rfl (.tmp 56) (.tmp 59) 23 rfl w.heap.size 25 i0 (.agg #[.int .i64 0, .int .i64 0, .string ⟨#[]⟩, .slice none 0 0, .string ⟨#[]⟩, .slice none 0 0]) 6 96 Tryz.underlying23 Hi.out Hz0.out Hz1.out Hz2.out rfl (by decide) _ l.length C rfl O4 ⟨_, 0, none⟩ 1 1 [.int .i64 3, .int .i64 0, .string ⟨#[]⟩, .slice none 0 0, .string xs, .slice none 0 0] rfl rfl (six_cells _ _ _ _ _ _ _ _ _ (by first | rfl | simp | simp [World.setCell])) (by intro u hu; simp only [List.mem_cons, List.not_mem_nil, or_false] at hu; rcases hu with rfl | rfl | rfl | rfl | rfl | rfl <;> rfl) ?x3 ?x4 ?x5 ?_)
            case x3 => unfold maxLen; omega
            case x4 => omega
            case x5 => exact F4.out.size
            intro v' w5 ho5 hg5 hb5
            have HO5 : Hid (RowP (w.heap.size + 1) w5 w.heap.size v' (l ++ [(ElB.mk 3 0 ⟨#[]⟩ [] xs [])])) := RowP.more rfl hgp D4.out.lt hC6.out Hels4.out HN'.out.1 HN'.out.2.1 HN'.out.2.2 he4.out ho5 hg5 (fun b hb => (hb5 b hb).imp (fun h => h) (fun h => by first | exact h | (simp; omega) | (simp [World.setCell]; omega)))
            have HB5 : Hid (Below w.heap.size w w5) := below_own F4.out O4 hg5
            have HD5 : Hid (RdAt w5 (w.heap.size + 1) s _ _) := D4.out.grownP hgp hg5
            have hl1 : (l ++ [(ElB.mk 3 0 ⟨#[]⟩ [] xs [])]).length = l.length + 1 := by simp
            clear ho5 hg5 hb5 O4 F4 D4 Hels4 hC6 he4 HN' HO3 HB3 HD3
            go_wp2_with fail
            cases hnl : standsB s j nlS
            · have HN : Hid (R = none) := by
                show _ = _
                rw [← HRj.out, if_neg (by rw [hnl]; decide)]
                rfl
              clear HRj
              refine (take_no s nlS j _ _ HD5.out (by omega) (by omega) (by decide) hnl).mono ?_
              rintro r w6 ⟨rfl, hD6, hF6⟩
              have HO6 : Hid (RowP (w.heap.size + 1) w6 w.heap.size v' (l ++ [(ElB.mk 3 0 ⟨#[]⟩ [] xs [])])) := HO5.out.fr hF6
              have HB6 : Hid (Below w.heap.size w w6) := HB5.out.trans (hF6.below (by omega) HB5.out.size)
              have HD6 : Hid (RdAt w6 (w.heap.size + 1) s _ false) := hD6
              clear HO5 HB5 HD5 hD6 hF6
              go_wp2_with fail
              go_roundw
              case rel => exact ⟨l ++ [(ElB.mk 3 0 ⟨#[]⟩ [] xs [])], by rw [hl1]; omega, HO6, HB6, .inr ⟨HN, _, HD6⟩⟩
              case measure =>
                rw [rdLeft_off HD6.out, HM.out]
                omega
            · have HRn : Hid ((docL s el f' (j + 1)).map (fun r => (l ++ [(ElB.mk 3 0 ⟨#[]⟩ [] xs [])]) ++ r) = R) := by
                show _ = _
                rw [← HRj.out, if_pos hnl]
                exact (doc_more (x := [(ElB.mk 3 0 ⟨#[]⟩ [] xs [])])).symm
              have hjn := stands_le hnl
              have un : nlS.size = 1 := rfl
              rw [un] at hjn
              clear HRj
              refine (take_yes s nlS j _ _ HD5.out (by omega) (by omega) (by decide) hnl).mono ?_
              rintro r w6 ⟨rfl, hD6, hF6⟩
              rw [un] at hD6
              have HO6 : Hid (RowP (w.heap.size + 1) w6 w.heap.size v' (l ++ [(ElB.mk 3 0 ⟨#[]⟩ [] xs [])])) := HO5.out.fr hF6
              have HB6 : Hid (Below w.heap.size w w6) := HB5.out.trans (hF6.below (by omega) HB5.out.size)
              have HD6 : Hid (RdAt w6 (w.heap.size + 1) s ((j + 1 : Nat) : Int) true) := hD6
              clear HO5 HB5 HD5 hD6 hF6
              go_wp2_with fail
              go_roundw
              case rel => exact ⟨l ++ [(ElB.mk 3 0 ⟨#[]⟩ [] xs [])], by rw [hl1]; omega, HO6, HB6, .inl ⟨f', j + 1, by omega, by omega, by rw [hl1]; omega, HRn, HD6⟩⟩
              case measure =>
                rw [rdLeft_on HD6.out, HM.out]
                omega
      · rw [if_pos (by omega)] at hRk
        have hR : R = some l := by rw [← hRk]; simp
        have k1 : ¬ (k : Int) < (s.size : Int) := by omega
        have k1' : decide ((k : Int) < (s.size : Int)) = false := decide_eq_false k1
        have hsl := HRs.out l hR
        have hN := elsN_le l
        obtain ⟨g', c', e', hkid⟩ := HO.out.kids
        cases e'
        have HDoc := specDocOk l w.heap.size (some ⟨g, 0, none⟩) l.length oc wr hkid.qa rfl (els_small l (by omega)) (by omega)
        have Hr := Hread.out
        rw [hR, finR] at Hr
        have HK : Hid (KidsIn (QP (w.heap.size ≤ ·)) (w.heap.size ≤ ·) wr (some ⟨g, 0, none⟩) l) := hkid
        clear hkid HRk hRk Hread
        cases hd : docF 0 0 l
        · rw [hd] at HDoc Hr
          rw [if_neg (by decide)] at Hr
          go_wp2_with fail
          refine HDoc.mono ?_
          rintro r w2 ⟨rfl, b2⟩
          have HB2 : Hid (Below w.heap.size w w2) := HB.out.trans (b2.mono HB.out.size)
          clear HDoc b2 HB HO HK HD c1 c2
          go_wp2_with fail
          go_ret2
          exact ⟨HB2.out.alloc HB2.out.size _, .inr ⟨Hr, _, rfl⟩⟩
        · rw [hd] at HDoc Hr
          rw [if_pos rfl] at Hr
          go_wp2_with fail
          refine HDoc.mono ?_
          rintro r w2 ⟨rfl, b2⟩
          have HB2 : Hid (Below w.heap.size w w2) := HB.out.trans (b2.mono HB.out.size)
          have HK2 : Hid (KidsIn (QP (w.heap.size ≤ ·)) (w.heap.size ≤ ·) w2 (some ⟨g, 0, none⟩) l) := HK.out.keep (QP.lies _) b2
          clear HDoc b2 HB HO HK HD c1 c2
          go_wp2_with fail
          go_ret2
          exact ⟨HB2.out, .inl ⟨l, g, oc, Hr, rfl, HK2.out⟩⟩
    · have c1 := HD.out.c1
      have c2 := HD.out.c2
      have Hr : readR s = none := by rw [Hread.out, HN.out, finR]
      go_wp2_with fail
      go_ret2
      exact ⟨HB.out.alloc HB.out.size _, .inr ⟨Hr, _, rfl⟩⟩

end Go.Proofs.YthipdkagkdnaiaaGreatDoor.Sg
