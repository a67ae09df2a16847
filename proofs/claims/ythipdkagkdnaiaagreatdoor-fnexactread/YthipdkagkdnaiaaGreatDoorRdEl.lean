/- Contract of the model's l19El. Written by mk_rdel.py. -/
import Derived.Test.YthipdkagkdnaiaaGreatDoorRdOff
namespace Go.Proofs.YthipdkagkdnaiaaGreatDoor.Sg
open Go.ChangeShapes Go.WideShapes Go.ChangeAt Go.RowKit

theorem Many.fr {n p b : Nat} {w w' : World} {f : Nat → Value} (h : Many n w b f) (hf : Fr p w w') (hb : b ≠ p) : Many n w' b f := by
  have e := hf.block b h.1 hb
  refine ⟨Nat.lt_of_lt_of_le h.1 hf.size, fun i hi => ⟨(cell_agree e).trans (h.2 i hi).1, ?_⟩⟩
  have h2 := (h.2 i hi).2
  unfold World.frozen? at h2 ⊢
  rw [e]
  exact h2
theorem RdAt.other {w : World} {p c i : Nat} {s : ByteArray} {k : Int} {ok : Bool} {v : Value} (h : RdAt w p s k ok) (hc : c ≠ p) : RdAt (w.setCell ⟨c, i, none⟩ v) p s k ok :=
  (Below.heap_setCell _ _ _ _ (by show p ≠ c; omega)).trans h
theorem Fr.later {p c i : Nat} {w a : World} {v : Value} (h : Fr p w a) (hc : w.heap.size ≤ c) : Fr p w (a.setCell ⟨c, i, none⟩ v) :=
  ⟨h.os, h.tape, h.output, by simpa [World.setCell] using h.size, fun k hk hp => (Below.heap_setCell _ _ _ _ (by show k ≠ c; omega)).trans (h.block k hk hp)⟩
/-- What is handed back of an element that was built. -/
theorem el_fin {w W : World} {p : Nat} {s : ByteArray} {k : Int} {ok : Bool} {f : Nat → Value} {v0 v1 v2 v3 v4 v5 : Value} {e : ElB} (hp : p < w.heap.size) (hD : RdAt W p s k ok) (hF : Fr p w W) (h6 : Many 6 W w.heap.size f) (hE : ElP (w.heap.size + 2 ≤ ·) W (.agg #[v0, v1, v2, v3, v4, v5]) e) :
    Many 6 ((((((W.setCell ⟨w.heap.size, 0, none⟩ v0).setCell ⟨w.heap.size, 1, none⟩ v1).setCell ⟨w.heap.size, 2, none⟩ v2).setCell ⟨w.heap.size, 3, none⟩ v3).setCell ⟨w.heap.size, 4, none⟩ v4).setCell ⟨w.heap.size, 5, none⟩ v5) w.heap.size (fun i => [v0, v1, v2, v3, v4, v5].getD i undef) ∧
    ElP (w.heap.size ≤ ·) ((((((W.setCell ⟨w.heap.size, 0, none⟩ v0).setCell ⟨w.heap.size, 1, none⟩ v1).setCell ⟨w.heap.size, 2, none⟩ v2).setCell ⟨w.heap.size, 3, none⟩ v3).setCell ⟨w.heap.size, 4, none⟩ v4).setCell ⟨w.heap.size, 5, none⟩ v5) (.agg #[v0, v1, v2, v3, v4, v5]) e ∧
    RdAt ((((((W.setCell ⟨w.heap.size, 0, none⟩ v0).setCell ⟨w.heap.size, 1, none⟩ v1).setCell ⟨w.heap.size, 2, none⟩ v2).setCell ⟨w.heap.size, 3, none⟩ v3).setCell ⟨w.heap.size, 4, none⟩ v4).setCell ⟨w.heap.size, 5, none⟩ v5) p s k ok ∧
    Fr p w ((((((W.setCell ⟨w.heap.size, 0, none⟩ v0).setCell ⟨w.heap.size, 1, none⟩ v1).setCell ⟨w.heap.size, 2, none⟩ v2).setCell ⟨w.heap.size, 3, none⟩ v3).setCell ⟨w.heap.size, 4, none⟩ v4).setCell ⟨w.heap.size, 5, none⟩ v5) := by
  have hne : w.heap.size ≠ p := by omega
  have hag := agr_all6 (lo := w.heap.size + 2) (c := w.heap.size) W (by omega) v0 v1 v2 v3 v4 v5
  refine ⟨h6.all6 v0 v1 v2 v3 v4 v5, (hE.stay (fun b h1 _ => hag.1 b h1) hag.2).wide (fun b _ h => by omega), ?_, ?_⟩
  · exact (((((hD.other hne).other hne).other hne).other hne).other hne).other hne
  · exact (((((hF.later (Nat.le_refl _)).later (Nat.le_refl _)).later (Nat.le_refl _)).later (Nat.le_refl _)).later (Nat.le_refl _)).later (Nat.le_refl _)

theorem Many.put6 {w : World} {c : Nat} {l : List Value} (h : Many 6 w c (fun i => l.getD i undef)) (i : Nat) (v : Value) (hi : i < l.length) : Many 6 (w.setCell ⟨c, i, none⟩ v) c (fun j => (l.set i v).getD j undef) := by
  have h1 := h.set (i := i) v
  refine ⟨h1.1, fun j hj => ⟨(h1.2 j hj).1.trans ?_, (h1.2 j hj).2⟩⟩
  by_cases e : j = i
  · subst e
    simp [List.getD, hi]
  · simp [List.getD, e, Ne.symm e]
theorem kids_wide {w : World} {lo lo' : Nat} {a : Option Addr} {l : List ElB} (h : KidsIn (QP (lo ≤ ·)) (lo ≤ ·) w a l) (hl : lo' ≤ lo) : KidsIn (QP (lo' ≤ ·)) (lo' ≤ ·) w a l := by
  rcases h with h | ⟨kb, ko, e, hp, h⟩
  · exact .inl h
  · exact .inr ⟨kb, ko, e, Nat.le_trans hl hp, ElsIn.wideP (fun b _ hb => Nat.le_trans hl hb) _ _ _ h⟩
theorem xnI_le {s : ByteArray} {k : Nat} (hk : k ≤ s.size) : ∃ j : Nat, xnI s (k : Int) = (j : Int) ∧ k ≤ j ∧ j ≤ s.size ∧ (xnS s (k : Int)).size = j - k := by
  unfold xnI xnS
  have h1 : 0 ≤ (k : Int) ∧ (k : Int) ≤ s.size := by omega
  rw [if_pos h1, if_pos h1]
  have e : ((k : Int)).toNat = k := by omega
  rw [e]
  have h2 := xnameE_le s (s.size - k) k true (Nat.le_refl _) hk
  refine ⟨_, rfl, h2.1, h2.2, ?_⟩
  rw [ByteArray.size_extract]
  omega

theorem attrsR_ge (s : ByteArray) (about : Int) : ∀ (f i : Nat) (out : List AttrB) (sp : Int) (told : Bool) (r : List AttrB × Int × Nat), attrsR s about f i out sp told = some r → i ≤ r.2.2
  | 0, _, _, _, _, _, h => by cases h
  | f + 1, i, out, sp, told, r, h => by
    rw [attrsR] at h
    split at h
    · split at h
      · cases h
      · rename_i hx
        obtain ⟨j, ej, hj, _, _⟩ := xaI_le hx
        have et : (xaI s ((i : Int) + 1)).toNat = j := by omega
        rw [et] at h
        split at h
        · cases h
        · split at h
          · split at h
            · cases h
            · have := attrsR_ge s about f j _ _ _ r h
              omega
          · have := attrsR_ge s about f j _ _ _ r h
            omega
    · split at h
      · injection h with h
        rw [← h]
        exact Nat.le_refl _
      · cases h

/-- The contract of l19El where so much is left at most. -/
def ElC (s : ByteArray) (p m : Nat) : Prop := ∀ (deep i : Nat) (about : Int) (W : World), RdAt W p s (i : Int) true → i ≤ s.size → s.size + 1 - i ≤ m → deep ≤ 1000 → Calls Tryz.prog 18 #[.pointer (some ⟨p, 0, none⟩), .int .i64 about, .int .i64 (deep : Int)] W fun r w' => ∃ v, r = .returned v ∧ ElLeft p s i W.heap.size (elM s m deep i about) w' v ∧ Fr p W w'

set_option maxRecDepth 20000 in
set_option maxHeartbeats 16000000 in
theorem elC_step (s : ByteArray) (p m : Nat) (hs : s.size ≤ 1073741824) (IH : ElC s p m) : ElC s p (m + 1) := by
  intro deep i about w h hi hm hd
  have hp := h.lt
  have HIH : Hid (ElC s p m) := IH
  obtain ⟨R, HR⟩ : ∃ R, Hid (elM s (m + 1) deep i about = R) := ⟨_, rfl⟩
  rw [HR.out]
  have hR0 := HR.out
  rw [elM] at hR0
  have bA := ((Below.refl w.heap.size w).alloc (Nat.le_refl _) (.cells #[.int .i64 0, .int .i64 0, .string ⟨#[]⟩, .slice none 0 0, .string ⟨#[]⟩, .slice none 0 0] 25)).alloc (by simp) (.cells #[.int .i64 1, .int .i64 0, .string ⟨#[]⟩, .slice none 0 0, .string ⟨#[]⟩, .slice none 0 0] 25)
  have HD2 : RdAt ((w.alloc (.cells #[.int .i64 0, .int .i64 0, .string ⟨#[]⟩, .slice none 0 0, .string ⟨#[]⟩, .slice none 0 0] 25)).alloc (.cells #[.int .i64 1, .int .i64 0, .string ⟨#[]⟩, .slice none 0 0, .string ⟨#[]⟩, .slice none 0 0] 25)) p s (i : Int) true := h.keep bA
  have HF2 : Fr p w ((w.alloc (.cells #[.int .i64 0, .int .i64 0, .string ⟨#[]⟩, .slice none 0 0, .string ⟨#[]⟩, .slice none 0 0] 25)).alloc (.cells #[.int .i64 1, .int .i64 0, .string ⟨#[]⟩, .slice none 0 0, .string ⟨#[]⟩, .slice none 0 0] 25)) := Fr.of_below bA
  have G6 : Many 6 ((w.alloc (.cells #[.int .i64 0, .int .i64 0, .string ⟨#[]⟩, .slice none 0 0, .string ⟨#[]⟩, .slice none 0 0] 25)).alloc (.cells #[.int .i64 1, .int .i64 0, .string ⟨#[]⟩, .slice none 0 0, .string ⟨#[]⟩, .slice none 0 0] 25)) w.heap.size (fun i => [Value.int .i64 0, .int .i64 0, .string ⟨#[]⟩, .slice none 0 0, .string ⟨#[]⟩, .slice none 0 0].getD i undef) := (Many.new w [Value.int .i64 0, .int .i64 0, .string ⟨#[]⟩, .slice none 0 0, .string ⟨#[]⟩, .slice none 0 0] 25 undef).below (B := w.heap.size + 1) (Nat.lt_succ_self _) ((Below.refl _ _).alloc (by simp) _)
  have G7 : Many 6 ((w.alloc (.cells #[.int .i64 0, .int .i64 0, .string ⟨#[]⟩, .slice none 0 0, .string ⟨#[]⟩, .slice none 0 0] 25)).alloc (.cells #[.int .i64 1, .int .i64 0, .string ⟨#[]⟩, .slice none 0 0, .string ⟨#[]⟩, .slice none 0 0] 25)) (w.heap.size + 1) (fun i => [Value.int .i64 1, .int .i64 0, .string ⟨#[]⟩, .slice none 0 0, .string ⟨#[]⟩, .slice none 0 0].getD i undef) := by
    have h := Many.new (w.alloc (.cells #[.int .i64 0, .int .i64 0, .string ⟨#[]⟩, .slice none 0 0, .string ⟨#[]⟩, .slice none 0 0] 25)) [Value.int .i64 1, .int .i64 0, .string ⟨#[]⟩, .slice none 0 0, .string ⟨#[]⟩, .slice none 0 0] 25 undef
    have e : (w.alloc (.cells #[.int .i64 0, .int .i64 0, .string ⟨#[]⟩, .slice none 0 0, .string ⟨#[]⟩, .slice none 0 0] 25)).heap.size = w.heap.size + 1 := by simp
    rw [e] at h
    exact h
  have hz2 : ((w.alloc (.cells #[.int .i64 0, .int .i64 0, .string ⟨#[]⟩, .slice none 0 0, .string ⟨#[]⟩, .slice none 0 0] 25)).alloc (.cells #[.int .i64 1, .int .i64 0, .string ⟨#[]⟩, .slice none 0 0, .string ⟨#[]⟩, .slice none 0 0] 25)).heap.size = w.heap.size + 2 := by simp
  have h6p : w.heap.size ≠ p := by omega
  have h7p : w.heap.size + 1 ≠ p := by omega
  clear HR bA h IH
  cases hst : standsB s i ltS
  · have HT := take_no s ltS i p ((w.alloc (.cells #[.int .i64 0, .int .i64 0, .string ⟨#[]⟩, .slice none 0 0, .string ⟨#[]⟩, .slice none 0 0] 25)).alloc (.cells #[.int .i64 1, .int .i64 0, .string ⟨#[]⟩, .slice none 0 0, .string ⟨#[]⟩, .slice none 0 0] 25)) HD2 (by omega) (by omega) (by decide) hst
    have hR : R = none := by rw [← hR0, if_pos (.inl hst)]
    clear hR0
    go_enter Tryz.func18, Tryz.ntmps18
    go_wp2_with fail
    refine HT.mono ?_
    rintro r w3 ⟨rfl, hD3, hF3⟩
    have HG6 : Hid (Many 6 (w3.setCell ⟨p, 2, none⟩ (.bool false)) w.heap.size (fun i => [Value.int .i64 0, .int .i64 0, .string ⟨#[]⟩, .slice none 0 0, .string ⟨#[]⟩, .slice none 0 0].getD i undef)) := (G6.fr hF3 h6p).fr (Fr.set _ 2 (.bool false)) h6p
    have HG7 : Hid (Many 6 (w3.setCell ⟨p, 2, none⟩ (.bool false)) (w.heap.size + 1) (fun i => [Value.int .i64 1, .int .i64 0, .string ⟨#[]⟩, .slice none 0 0, .string ⟨#[]⟩, .slice none 0 0].getD i undef)) := (G7.fr hF3 h7p).fr (Fr.set _ 2 (.bool false)) h7p
    have HDf : Hid (RdAt (w3.setCell ⟨p, 2, none⟩ (.bool false)) p s (i : Int) false) := hD3.set2 false
    have HFf : Hid (Fr p w (w3.setCell ⟨p, 2, none⟩ (.bool false))) := (HF2.trans hF3).trans (Fr.set _ _ _)
    have HEf : Hid (ElP (w.heap.size + 2 ≤ ·) (w3.setCell ⟨p, 2, none⟩ (.bool false)) (.agg #[.int .i64 1, .int .i64 0, .string ⟨#[]⟩, .slice none 0 0, .string ⟨#[]⟩, .slice none 0 0]) (ElB.mk 1 0 ⟨#[]⟩ [] ⟨#[]⟩ [])) := ElP.note _ _ 1 ⟨#[]⟩
    have c2 := hD3.c2
    have z2 := hD3.fz 2
    clear HT G6 G7 HD2 HF2 hD3 hF3 hz2
    have Y := HG7.out
    have X := HG6.out
    have y0 := (Y.2 0 (by decide)).1
    have y1 := (Y.2 1 (by decide)).1
    have y2 := (Y.2 2 (by decide)).1
    have y3 := (Y.2 3 (by decide)).1
    have y4 := (Y.2 4 (by decide)).1
    have y5 := (Y.2 5 (by decide)).1
    have r0 := (X.2 0 (by decide)).1
    have r1 := (X.2 1 (by decide)).1
    have r2 := (X.2 2 (by decide)).1
    have r3 := (X.2 3 (by decide)).1
    have r4 := (X.2 4 (by decide)).1
    have r5 := (X.2 5 (by decide)).1
    have s0 := (X.2 0 (by decide)).2
    have s1 := (X.2 1 (by decide)).2
    have s2 := (X.2 2 (by decide)).2
    have s3 := (X.2 3 (by decide)).2
    have s4 := (X.2 4 (by decide)).2
    have s5 := (X.2 5 (by decide)).2
    simp at y0 y1 y2 y3 y4 y5 r0 r1 r2 r3 r4 r5
    have HFIN : Hid _ := el_fin hp HDf.out HFf.out HG6.out HEf.out
    clear X Y HG6 HG7 HDf HFf HEf
    go_wp2_with fail
    refine bodyPost_ret (v := .agg #[.int .i64 1, .int .i64 0, .string ⟨#[]⟩, .slice none 0 0, .string ⟨#[]⟩, .slice none 0 0]) ?_ rfl ⟨_, rfl, .inr ⟨hR, ⟨_, HFIN.out.2.1⟩, _, HFIN.out.2.2.1⟩, HFIN.out.2.2.2⟩
    have T := HFIN.out.1
    have t0 := (T.2 0 (by decide)).1
    have t1 := (T.2 1 (by decide)).1
    have t2 := (T.2 2 (by decide)).1
    have t3 := (T.2 3 (by decide)).1
    have t4 := (T.2 4 (by decide)).1
    have t5 := (T.2 5 (by decide)).1
    simp at t0 t1 t2 t3 t4 t5
    simp [results, Tryz.results18, go_sem, t0, t1, t2, t3, t4, t5]
  · have hi1 := stands_le hst
    have e1 : ltS.size = 1 := rfl
    have HT := take_yes s ltS i p ((w.alloc (.cells #[.int .i64 0, .int .i64 0, .string ⟨#[]⟩, .slice none 0 0, .string ⟨#[]⟩, .slice none 0 0] 25)).alloc (.cells #[.int .i64 1, .int .i64 0, .string ⟨#[]⟩, .slice none 0 0, .string ⟨#[]⟩, .slice none 0 0] 25)) HD2 (by omega) (by omega) (by decide) hst
    rw [e1] at HT hi1
    by_cases hdz : deep = 0
    · subst hdz
      have hR : R = none := by rw [← hR0, if_pos (.inr rfl)]
      clear hR0
      go_enter Tryz.func18, Tryz.ntmps18
      go_wp2_with fail
      refine HT.mono ?_
      rintro r w3 ⟨rfl, hD3, hF3⟩
      have HG6 : Hid (Many 6 (w3.setCell ⟨p, 2, none⟩ (.bool false)) w.heap.size (fun i => [Value.int .i64 0, .int .i64 0, .string ⟨#[]⟩, .slice none 0 0, .string ⟨#[]⟩, .slice none 0 0].getD i undef)) := (G6.fr hF3 h6p).fr (Fr.set _ 2 (.bool false)) h6p
      have HG7 : Hid (Many 6 (w3.setCell ⟨p, 2, none⟩ (.bool false)) (w.heap.size + 1) (fun i => [Value.int .i64 1, .int .i64 0, .string ⟨#[]⟩, .slice none 0 0, .string ⟨#[]⟩, .slice none 0 0].getD i undef)) := (G7.fr hF3 h7p).fr (Fr.set _ 2 (.bool false)) h7p
      have HDf : Hid (RdAt (w3.setCell ⟨p, 2, none⟩ (.bool false)) p s _ false) := hD3.set2 false
      have HFf : Hid (Fr p w (w3.setCell ⟨p, 2, none⟩ (.bool false))) := (HF2.trans hF3).trans (Fr.set _ _ _)
      have HEf : Hid (ElP (w.heap.size + 2 ≤ ·) (w3.setCell ⟨p, 2, none⟩ (.bool false)) (.agg #[.int .i64 1, .int .i64 0, .string ⟨#[]⟩, .slice none 0 0, .string ⟨#[]⟩, .slice none 0 0]) (ElB.mk 1 0 ⟨#[]⟩ [] ⟨#[]⟩ [])) := ElP.note _ _ 1 ⟨#[]⟩
      have c2 := hD3.c2
      have z2 := hD3.fz 2
      clear HT G6 G7 HD2 HF2 hD3 hF3 hz2
      have Y := HG7.out
      have X := HG6.out
      have y0 := (Y.2 0 (by decide)).1
      have y1 := (Y.2 1 (by decide)).1
      have y2 := (Y.2 2 (by decide)).1
      have y3 := (Y.2 3 (by decide)).1
      have y4 := (Y.2 4 (by decide)).1
      have y5 := (Y.2 5 (by decide)).1
      have r0 := (X.2 0 (by decide)).1
      have r1 := (X.2 1 (by decide)).1
      have r2 := (X.2 2 (by decide)).1
      have r3 := (X.2 3 (by decide)).1
      have r4 := (X.2 4 (by decide)).1
      have r5 := (X.2 5 (by decide)).1
      have s0 := (X.2 0 (by decide)).2
      have s1 := (X.2 1 (by decide)).2
      have s2 := (X.2 2 (by decide)).2
      have s3 := (X.2 3 (by decide)).2
      have s4 := (X.2 4 (by decide)).2
      have s5 := (X.2 5 (by decide)).2
      simp at y0 y1 y2 y3 y4 y5 r0 r1 r2 r3 r4 r5
      have HFIN : Hid _ := el_fin hp HDf.out HFf.out HG6.out HEf.out
      clear X Y HG6 HG7 HDf HFf HEf
      go_wp2_with fail
      refine bodyPost_ret (v := .agg #[.int .i64 1, .int .i64 0, .string ⟨#[]⟩, .slice none 0 0, .string ⟨#[]⟩, .slice none 0 0]) ?_ rfl ⟨_, rfl, .inr ⟨hR, ⟨_, HFIN.out.2.1⟩, _, HFIN.out.2.2.1⟩, HFIN.out.2.2.2⟩
      have T := HFIN.out.1
      have t0 := (T.2 0 (by decide)).1
      have t1 := (T.2 1 (by decide)).1
      have t2 := (T.2 2 (by decide)).1
      have t3 := (T.2 3 (by decide)).1
      have t4 := (T.2 4 (by decide)).1
      have t5 := (T.2 5 (by decide)).1
      simp at t0 t1 t2 t3 t4 t5
      simp [results, Tryz.results18, go_sem, t0, t1, t2, t3, t4, t5]
    · rw [if_neg (by rintro (h | h); exact absurd (hst.symm.trans h) (by decide); exact hdz h)] at hR0
      have gd : ((deep : Int) == 0) = false := by rw [beq_eq_false_iff_ne]; omega
      have HX : Hid (∀ W, Calls Tryz.prog 37 #[.string s, .int .i64 ((i + 1 : Nat) : Int)] W fun r w' => r = .returned (.tuple #[.string (xnS s ((i + 1 : Nat) : Int)), .int .i64 (xnI s ((i + 1 : Nat) : Int))]) ∧ Below W.heap.size W w') := fun W => specXmlName s _ W hs
      obtain ⟨j1, ej1, hj1, hj2, hj3⟩ := xnI_le (s := s) (k := i + 1) hi1
      rw [ej1] at hR0 HX
      have etn : ((j1 : Nat) : Int).toNat = j1 := by omega
      rw [etn] at hR0
      generalize xnS s ((i + 1 : Nat) : Int) = xn at *
      go_enter Tryz.func18, Tryz.ntmps18
      go_wp2_with fail
      refine HT.mono ?_
      rintro r w3 ⟨rfl, hD3, hF3⟩
      have A6 := G6.fr hF3 h6p
      have A7 : Many 6 w3 (w.heap.size + 1) (fun i => [Value.int .i64 1, .int .i64 0, .string ⟨#[]⟩, .slice none 0 0, .string ⟨#[]⟩, .slice none 0 0].getD i undef) := G7.fr hF3 h7p
      have AF := HF2.trans hF3
      have hsz : w.heap.size + 2 ≤ w3.heap.size := by rw [← hz2]; exact hF3.size
      have c0 := hD3.c0
      have c1 := hD3.c1
      have c2 := hD3.c2
      clear HT G6 G7 HD2 HF2 hF3 hz2 hst ej1 etn e1
      have cN := fun d os => Calls.regrown_of (w := w3) (HX.out (Sort.grow (redrawn w3 d) os))
      have y0 := cell_regrown c0
      have y1 := cell_regrown c1
      go_upto_region 6 with fail
      refine wp_region_quiet_below (by kernel_rfl) (by kernel_rfl) ?_
      repeat (go_big_quiet_step (first | exact cN _ _))
      refine wpQuiet_nil ?_
      intro _ hw'
      obtain ⟨⟨dq, osq⟩, hw''⟩ := hw'
      subst hw''
      have bq := below_regrown w3 dq osq
      have B6 : Many 6 (Sort.grow (redrawn w3 dq) osq) w.heap.size _ := A6.below A6.1 bq
      have B7 : Many 6 (Sort.grow (redrawn w3 dq) osq) (w.heap.size + 1) (fun i => [Value.int .i64 1, .int .i64 0, .string ⟨#[]⟩, .slice none 0 0, .string ⟨#[]⟩, .slice none 0 0].getD i undef) := A7.below A7.1 bq
      have BF : Fr p w (Sort.grow (redrawn w3 dq) osq) := AF.trans (Fr.of_below bq)
      have BD : RdAt (Sort.grow (redrawn w3 dq) osq) p s ((i + 1 : Nat) : Int) true := hD3.keep bq
      have hsz4 : w.heap.size + 2 ≤ (Sort.grow (redrawn w3 dq) osq).heap.size := Nat.le_trans hsz bq.size
      clear A6 A7 AF hD3 hsz c0 c1 c2 cN y0 y1 bq HX
      generalize Sort.grow (redrawn w3 dq) osq = w4 at *
      have c2 := BD.c2
      have z2 := BD.fz 2
      by_cases hn0 : xn.size = 0
      · have hR : R = none := by rw [← hR0, if_pos hn0]
        have en : xn = ⟨#[]⟩ := by
          cases xn with
          | mk d =>
            have : d = #[] := Array.eq_empty_of_size_eq_zero hn0
            rw [this]
        subst en
        have HG6 : Hid (Many 6 (w4.setCell ⟨p, 2, none⟩ (.bool false)) w.heap.size (fun i => [Value.int .i64 0, .int .i64 0, .string ⟨#[]⟩, .slice none 0 0, .string ⟨#[]⟩, .slice none 0 0].getD i undef)) := B6.fr (Fr.set _ 2 (.bool false)) h6p
        have HG7 : Hid (Many 6 (w4.setCell ⟨p, 2, none⟩ (.bool false)) (w.heap.size + 1) (fun i => [Value.int .i64 1, .int .i64 0, .string ⟨#[]⟩, .slice none 0 0, .string ⟨#[]⟩, .slice none 0 0].getD i undef)) := B7.fr (Fr.set _ 2 (.bool false)) h7p
        have HDf : Hid (RdAt (w4.setCell ⟨p, 2, none⟩ (.bool false)) p s _ false) := BD.set2 false
        have HFf : Hid (Fr p w (w4.setCell ⟨p, 2, none⟩ (.bool false))) := BF.trans (Fr.set _ _ _)
        have HEf : Hid (ElP (w.heap.size + 2 ≤ ·) (w4.setCell ⟨p, 2, none⟩ (.bool false)) (.agg #[.int .i64 1, .int .i64 0, .string ⟨#[]⟩, .slice none 0 0, .string ⟨#[]⟩, .slice none 0 0]) (ElB.mk 1 0 ⟨#[]⟩ [] ⟨#[]⟩ [])) := ElP.note _ _ 1 ⟨#[]⟩
        clear B6 B7 BD BF hR0
        have Y := HG7.out
        have X := HG6.out
        have y0 := (Y.2 0 (by decide)).1
        have y1 := (Y.2 1 (by decide)).1
        have y2 := (Y.2 2 (by decide)).1
        have y3 := (Y.2 3 (by decide)).1
        have y4 := (Y.2 4 (by decide)).1
        have y5 := (Y.2 5 (by decide)).1
        have r0 := (X.2 0 (by decide)).1
        have r1 := (X.2 1 (by decide)).1
        have r2 := (X.2 2 (by decide)).1
        have r3 := (X.2 3 (by decide)).1
        have r4 := (X.2 4 (by decide)).1
        have r5 := (X.2 5 (by decide)).1
        have s0 := (X.2 0 (by decide)).2
        have s1 := (X.2 1 (by decide)).2
        have s2 := (X.2 2 (by decide)).2
        have s3 := (X.2 3 (by decide)).2
        have s4 := (X.2 4 (by decide)).2
        have s5 := (X.2 5 (by decide)).2
        simp at y0 y1 y2 y3 y4 y5 r0 r1 r2 r3 r4 r5
        have HFIN : Hid _ := el_fin hp HDf.out HFf.out HG6.out HEf.out
        clear X Y HG6 HG7 HDf HFf HEf
        go_wp2_with fail
        refine bodyPost_ret (v := .agg #[.int .i64 1, .int .i64 0, .string ⟨#[]⟩, .slice none 0 0, .string ⟨#[]⟩, .slice none 0 0]) ?_ rfl ⟨_, rfl, .inr ⟨hR, ⟨_, HFIN.out.2.1⟩, _, HFIN.out.2.2.1⟩, HFIN.out.2.2.2⟩
        have T := HFIN.out.1
        have t0 := (T.2 0 (by decide)).1
        have t1 := (T.2 1 (by decide)).1
        have t2 := (T.2 2 (by decide)).1
        have t3 := (T.2 3 (by decide)).1
        have t4 := (T.2 4 (by decide)).1
        have t5 := (T.2 5 (by decide)).1
        simp at t0 t1 t2 t3 t4 t5
        simp [results, Tryz.results18, go_sem, t0, t1, t2, t3, t4, t5]
      · rw [if_neg hn0] at hR0
        have gname : xn.toList.isEmpty = false := by
          rw [ByteArray.toList_eq] at *
          cases hd2 : xn.data.toList with
          | nil =>
            have : xn.size = xn.data.toList.length := Array.length_toList.symm
            rw [hd2] at this
            exact absurd this hn0
          | cons x l => rfl
        have z72 := (B7.2 2 (by decide)).2
        have y72 := (B7.2 2 (by decide)).1
        simp at y72
        have c1 := (BD.other (c := w.heap.size + 1) (i := 2) (v := .string xn) h7p).c1
        have z1 := (BD.other (c := w.heap.size + 1) (i := 2) (v := .string xn) h7p).fz 1
        have D5 : RdAt ((w4.setCell ⟨w.heap.size + 1, 2, none⟩ (.string xn)).setCell ⟨p, 1, none⟩ (.int .i64 (j1 : Int))) p s (j1 : Int) true := (BD.other h7p).set1 _
        have F5 : Fr p w ((w4.setCell ⟨w.heap.size + 1, 2, none⟩ (.string xn)).setCell ⟨p, 1, none⟩ (.int .i64 (j1 : Int))) := (BF.later (by omega)).trans (Fr.set _ _ _)
        have M6 : Many 6 ((w4.setCell ⟨w.heap.size + 1, 2, none⟩ (.string xn)).setCell ⟨p, 1, none⟩ (.int .i64 (j1 : Int))) w.heap.size _ := (B6.other (by omega) _).fr (Fr.set _ 1 _) h6p
        have M7 : Many 6 ((w4.setCell ⟨w.heap.size + 1, 2, none⟩ (.string xn)).setCell ⟨p, 1, none⟩ (.int .i64 (j1 : Int))) (w.heap.size + 1) (fun i => [Value.int .i64 1, .int .i64 0, .string xn, .slice none 0 0, .string ⟨#[]⟩, .slice none 0 0].getD i undef) := (B7.put6 2 (.string xn) (by simp)).fr (Fr.set _ 1 _) h7p
        have hsz5 : w.heap.size + 2 ≤ ((w4.setCell ⟨w.heap.size + 1, 2, none⟩ (.string xn)).setCell ⟨p, 1, none⟩ (.int .i64 (j1 : Int))).heap.size := by simpa [World.setCell] using hsz4
        have HAt := specRdAttrs s p about j1 ((w4.setCell ⟨w.heap.size + 1, 2, none⟩ (.string xn)).setCell ⟨p, 1, none⟩ (.int .i64 (j1 : Int))) D5 hs hj2
        clear B6 B7 BD BF
        go_wp2_with fail
        refine HAt.mono ?_
        rintro r w5 ⟨v, sp, rfl, hleft, hF5⟩
        obtain ⟨l, hown, hll, hvn, hcase⟩ := hleft
        obtain ⟨xa, xc, ev, _⟩ := attrs_of_own hown
        subst ev
        have N6 := M6.fr hF5 h6p
        have N7 := M7.fr hF5 h7p
        have z73 := (N7.2 3 (by decide)).2
        have y73 := (N7.2 3 (by decide)).1
        have z71 := (N7.2 1 (by decide)).2
        have y71 := (N7.2 1 (by decide)).1
        simp at y73 y71
        have A6 : Many 6 ((w5.setCell ⟨w.heap.size + 1, 3, none⟩ (.slice xa l.length xc)).setCell ⟨w.heap.size + 1, 1, none⟩ (.int .i64 sp)) w.heap.size _ := (N6.other (by omega) _).other (by omega) _
        have A7 : Many 6 ((w5.setCell ⟨w.heap.size + 1, 3, none⟩ (.slice xa l.length xc)).setCell ⟨w.heap.size + 1, 1, none⟩ (.int .i64 sp)) (w.heap.size + 1) (fun i => [Value.int .i64 1, .int .i64 sp, .string xn, .slice xa l.length xc, .string ⟨#[]⟩, .slice none 0 0].getD i undef) := (N7.put6 3 (.slice xa l.length xc) (by simp)).put6 1 (.int .i64 sp) (by simp)
        have AF : Fr p w ((w5.setCell ⟨w.heap.size + 1, 3, none⟩ (.slice xa l.length xc)).setCell ⟨w.heap.size + 1, 1, none⟩ (.int .i64 sp)) := ((F5.trans hF5).later (by omega)).later (by omega)
        have AQ : QP (w.heap.size + 2 ≤ ·) ((w5.setCell ⟨w.heap.size + 1, 3, none⟩ (.slice xa l.length xc)).setCell ⟨w.heap.size + 1, 1, none⟩ (.int .i64 sp)) (.slice xa l.length xc) l := by
          have h := (QP.of_own hown).wide (P' := (w.heap.size + 2 ≤ ·)) (fun b _ hb => Nat.le_trans hsz5 hb)
          have ag := (Agr.set w5 3 (.slice xa l.length xc) (show w.heap.size + 1 < w.heap.size + 2 by omega)).trans (Agr.set _ 1 (.int .i64 sp) (show w.heap.size + 1 < w.heap.size + 2 by omega))
          exact h.stay (fun b h1 _ => ag.1 b h1) ag.2
        have hsz : w.heap.size + 2 ≤ ((w5.setCell ⟨w.heap.size + 1, 3, none⟩ (.slice xa l.length xc)).setCell ⟨w.heap.size + 1, 1, none⟩ (.int .i64 sp)).heap.size := by
          have := Nat.le_trans hsz5 hF5.size
          simpa [World.setCell] using this
        rcases hcase with ⟨j, hRs, hjs, hDx⟩ | ⟨hRn, kx, hDx⟩
        · have hjj : j1 ≤ j := attrsR_ge s about _ _ _ _ _ _ hRs
          rw [hRs] at hR0
          simp only at hR0
          have AD : RdAt ((w5.setCell ⟨w.heap.size + 1, 3, none⟩ (.slice xa l.length xc)).setCell ⟨w.heap.size + 1, 1, none⟩ (.int .i64 sp)) p s (j : Int) true := (hDx.other h7p).other h7p
          clear HAt D5 F5 M6 M7 N6 N7 hown hvn hDx hF5 hRs
          go_upto_region 13 with fail
          generalize ((w5.setCell ⟨w.heap.size + 1, 3, none⟩ (.slice xa l.length xc)).setCell ⟨w.heap.size + 1, 1, none⟩ (.int .i64 sp)) = w6 at *
          have HS1 : Hid (∀ W, Calls Tryz.prog 28 #[.string s, .int .i64 (j : Int), .string ⟨#[47, 62]⟩] W fun e w' => e = .returned (.bool (standsB s j slashGt)) ∧ w' = W) := fun W => specStands s j slashGt W (by omega) (by omega) (by decide)
          cases hsl : standsB s j slashGt
          · rw [hsl] at HS1 hR0
            rw [if_neg (by decide)] at hR0
            have c0 := AD.c0
            have c1 := AD.c1
            have c2 := AD.c2
            go_upto_region 13 with fail
            go_quiet ((go_at_call 28; exact Calls.quiet_of_same (HS1.out _)))
            have bn := drew_kd (Below.refl w6.heap.size w6) nq
            have A6' : Many 6 (w6.drewN nq) w.heap.size _ := A6.below A6.1 bn
            have A7' : Many 6 (w6.drewN nq) (w.heap.size + 1) (fun i => [Value.int .i64 1, .int .i64 sp, .string xn, .slice xa l.length xc, .string ⟨#[]⟩, .slice none 0 0].getD i undef) := A7.below A7.1 bn
            have AF' : Fr p w (w6.drewN nq) := AF.trans (Fr.of_below bn)
            have AQ' : QP (w.heap.size + 2 ≤ ·) (w6.drewN nq) (.slice xa l.length xc) l := AQ.stay (fun b _ h2 => bn.block b h2) bn.size
            have AD' : RdAt (w6.drewN nq) p s (j : Int) true := AD.keep bn
            have hsz' : w.heap.size + 2 ≤ (w6.drewN nq).heap.size := Nat.le_trans hsz bn.size
            clear A6 A7 AF AQ AD hsz bn c0 c1 c2
            generalize w6.drewN nq = w7 at *
            clear HS1
            cases hgt : standsB s j gtS
            · rw [if_pos hgt] at hR0
              have hR : R = none := hR0.symm
              have HT := take_no s gtS j p w7 AD' (by omega) (by omega) (by decide) hgt
              go_wp2_with fail
              refine HT.mono ?_
              rintro r w8 ⟨rfl, AD, hFt⟩
              have A6 := A6'.fr hFt h6p
              have A7 : Many 6 w8 (w.heap.size + 1) (fun i => [Value.int .i64 1, .int .i64 sp, .string xn, .slice xa l.length xc, .string ⟨#[]⟩, .slice none 0 0].getD i undef) := A7'.fr hFt h7p
              have AF := AF'.trans hFt
              have AQ : QP (w.heap.size + 2 ≤ ·) w8 (.slice xa l.length xc) l := AQ'.stay (fun b h1 h2 => hFt.block b h2 (by omega)) hFt.size
              have hsz : w.heap.size + 2 ≤ w8.heap.size := Nat.le_trans hsz' hFt.size
              clear A6' A7' AF' AQ' AD' hsz' hFt
              clear HT hR0
              have HK := kids_off s p sp deep (j : Int) w8 AD
              have hKlo : w.heap.size + 2 ≤ w8.heap.size := hsz
              have x1 := (A7.2 1 (by decide)).1
              simp at x1
              go_wp2_with fail
              refine HK.mono ?_
              rintro r wk ⟨vk, rfl, hrow, Dk, hFk⟩
              have Gk6 := A6.fr hFk h6p
              have Gk7 : Many 6 wk (w.heap.size + 1) (fun i => [Value.int .i64 1, .int .i64 sp, .string xn, .slice xa l.length xc, .string ⟨#[]⟩, .slice none 0 0].getD i undef) := A7.fr hFk h7p
              have Fk := AF.trans hFk
              have Qk : QP (w.heap.size + 2 ≤ ·) wk (.slice xa l.length xc) l := AQ.stay (fun b h1 h2 => hFk.block b h2 (by omega)) hFk.size
              obtain ⟨lk, elk⟩ : ∃ lk : List ElB, lk = [] := ⟨_, rfl⟩
              rw [← elk] at hrow
              clear elk
              have t1 : ¬ 9223372036854775807 < 2 + xn.size := by omega
              have t2 : ¬ 9223372036854775807 < 2 + xn.size + 1 := by omega
              have x5 := (Gk7.2 5 (by decide)).1
              have q5 := (Gk7.2 5 (by decide)).2
              simp at x5
              clear HK A6 A7 AD AF AQ hFk x1
              obtain ⟨gk, ck, evk, hkk⟩ := RowL.kids hrow
              subst evk
              have W9s : Fr p w (wk.setCell ⟨w.heap.size + 1, 5, none⟩ (.slice (some ⟨gk, 0, none⟩) lk.length ck)) := Fk.later (by omega)
              have D9 := Dk.other (c := w.heap.size + 1) (i := 5) (v := .slice (some ⟨gk, 0, none⟩) lk.length ck) h7p
              have G69 : Many 6 (wk.setCell ⟨w.heap.size + 1, 5, none⟩ (.slice (some ⟨gk, 0, none⟩) lk.length ck)) w.heap.size _ := Gk6.other (by omega) _
              have G79 : Many 6 (wk.setCell ⟨w.heap.size + 1, 5, none⟩ (.slice (some ⟨gk, 0, none⟩) lk.length ck)) (w.heap.size + 1) (fun i => [Value.int .i64 1, .int .i64 sp, .string xn, .slice xa l.length xc, .string ⟨#[]⟩, .slice (some ⟨gk, 0, none⟩) lk.length ck].getD i undef) := Gk7.put6 5 _ (by simp)
              have E9 : ElP (w.heap.size + 2 ≤ ·) (wk.setCell ⟨w.heap.size + 1, 5, none⟩ (.slice (some ⟨gk, 0, none⟩) lk.length ck)) (.agg #[.int .i64 1, .int .i64 sp, .string xn, .slice xa l.length xc, .string ⟨#[]⟩, .slice (some ⟨gk, 0, none⟩) lk.length ck]) (ElB.mk 1 sp xn l ⟨#[]⟩ lk) := by
                have h : ElP (w.heap.size + 2 ≤ ·) wk (.agg #[.int .i64 1, .int .i64 sp, .string xn, .slice xa l.length xc, .string ⟨#[]⟩, .slice (some ⟨gk, 0, none⟩) lk.length ck]) (ElB.mk 1 sp xn l ⟨#[]⟩ lk) := ⟨_, _, _, rfl, Qk, kids_wide hkk hKlo⟩
                exact h.stay (fun b h1 _ => (Agr.set wk 5 _ (show w.heap.size + 1 < w.heap.size + 2 by omega)).1 b h1) (Agr.set wk 5 _ (show w.heap.size + 1 < w.heap.size + 2 by omega)).2
              clear Gk6 Gk7 Dk Fk Qk hkk hrow
              go_upto_region 18 with fail
              generalize wk.setCell ⟨w.heap.size + 1, 5, none⟩ (.slice (some ⟨gk, 0, none⟩) lk.length ck) = w9 at *
              have y2 := (G79.2 2 (by decide)).1
              simp at y2
              go_wp2_with fail
              refine (take_off s _ _ p w9 D9).mono ?_
              rintro r wz ⟨rfl, hDz, hFz⟩
              have HG6 : Hid (Many 6 wz w.heap.size _) := G69.fr hFz h6p
              have HG7 : Hid (Many 6 wz (w.heap.size + 1) (fun i => [Value.int .i64 1, .int .i64 sp, .string xn, .slice xa l.length xc, .string ⟨#[]⟩, .slice (some ⟨gk, 0, none⟩) lk.length ck].getD i undef)) := G79.fr hFz h7p
              have HDf : Hid (RdAt wz p s _ _) := hDz
              have HFf : Hid (Fr p w wz) := W9s.trans hFz
              have HEf : Hid (ElP (w.heap.size + 2 ≤ ·) wz (.agg #[.int .i64 1, .int .i64 sp, .string xn, .slice xa l.length xc, .string ⟨#[]⟩, .slice (some ⟨gk, 0, none⟩) lk.length ck]) (ElB.mk 1 sp xn l ⟨#[]⟩ lk)) := E9.fr hFz (by intro h; omega)
              clear G69 G79 D9 W9s E9 hDz hFz y2
              have Y := HG7.out
              have X := HG6.out
              have y0 := (Y.2 0 (by decide)).1
              have y1 := (Y.2 1 (by decide)).1
              have y2 := (Y.2 2 (by decide)).1
              have y3 := (Y.2 3 (by decide)).1
              have y4 := (Y.2 4 (by decide)).1
              have y5 := (Y.2 5 (by decide)).1
              have r0 := (X.2 0 (by decide)).1
              have r1 := (X.2 1 (by decide)).1
              have r2 := (X.2 2 (by decide)).1
              have r3 := (X.2 3 (by decide)).1
              have r4 := (X.2 4 (by decide)).1
              have r5 := (X.2 5 (by decide)).1
              have s0 := (X.2 0 (by decide)).2
              have s1 := (X.2 1 (by decide)).2
              have s2 := (X.2 2 (by decide)).2
              have s3 := (X.2 3 (by decide)).2
              have s4 := (X.2 4 (by decide)).2
              have s5 := (X.2 5 (by decide)).2
              simp at y0 y1 y2 y3 y4 y5 r0 r1 r2 r3 r4 r5
              have HFIN : Hid _ := el_fin hp HDf.out HFf.out HG6.out HEf.out
              clear X Y HG6 HG7 HDf HFf HEf
              go_wp2_with fail
              refine bodyPost_ret (v := .agg #[.int .i64 1, .int .i64 sp, .string xn, .slice xa l.length xc, .string ⟨#[]⟩, .slice (some ⟨gk, 0, none⟩) lk.length ck]) ?_ rfl ⟨_, rfl, .inr ⟨hR, ⟨_, HFIN.out.2.1⟩, _, HFIN.out.2.2.1⟩, HFIN.out.2.2.2⟩
              have T := HFIN.out.1
              have t0 := (T.2 0 (by decide)).1
              have t1 := (T.2 1 (by decide)).1
              have t2 := (T.2 2 (by decide)).1
              have t3 := (T.2 3 (by decide)).1
              have t4 := (T.2 4 (by decide)).1
              have t5 := (T.2 5 (by decide)).1
              simp at t0 t1 t2 t3 t4 t5
              simp [results, Tryz.results18, go_sem, t0, t1, t2, t3, t4, t5]
            · rw [if_neg (by rw [hgt]; decide)] at hR0
              have HT := take_yes s gtS j p w7 AD' (by omega) (by omega) (by decide) hgt
              have hj1s := stands_le hgt
              have eg : gtS.size = 1 := rfl
              rw [eg] at HT hj1s
              go_wp2_with fail
              refine HT.mono ?_
              rintro r w8 ⟨rfl, AD, hFt⟩
              have A6 := A6'.fr hFt h6p
              have A7 : Many 6 w8 (w.heap.size + 1) (fun i => [Value.int .i64 1, .int .i64 sp, .string xn, .slice xa l.length xc, .string ⟨#[]⟩, .slice none 0 0].getD i undef) := A7'.fr hFt h7p
              have AF := AF'.trans hFt
              have AQ : QP (w.heap.size + 2 ≤ ·) w8 (.slice xa l.length xc) l := AQ'.stay (fun b h1 h2 => hFt.block b h2 (by omega)) hFt.size
              have hsz : w.heap.size + 2 ≤ w8.heap.size := Nat.le_trans hsz' hFt.size
              clear A6' A7' AF' AQ' AD' hsz' hFt
              clear HT
              have HK := specRdKids s p sp deep (j + 1) (fun q => elM s m (deep - 1) q sp) w8 AD hs hj1s (by omega) hd (fun k W hk1 hk2 hD => HIH.out (deep - 1) k sp W hD (by omega) (by omega) (by omega))
              have hKlo : w.heap.size + 2 ≤ w8.heap.size := hsz
              have x1 := (A7.2 1 (by decide)).1
              simp at x1
              go_wp2_with fail
              refine HK.mono ?_
              rintro r wk ⟨vk, rfl, ⟨lk, hrow, hcase2⟩, hFk⟩
              have Gk6 := A6.fr hFk h6p
              have Gk7 : Many 6 wk (w.heap.size + 1) (fun i => [Value.int .i64 1, .int .i64 sp, .string xn, .slice xa l.length xc, .string ⟨#[]⟩, .slice none 0 0].getD i undef) := A7.fr hFk h7p
              have Fk := AF.trans hFk
              have Qk : QP (w.heap.size + 2 ≤ ·) wk (.slice xa l.length xc) l := AQ.stay (fun b h1 h2 => hFk.block b h2 (by omega)) hFk.size
              have x5 := (Gk7.2 5 (by decide)).1
              have q5 := (Gk7.2 5 (by decide)).2
              simp at x5
              have t1 : ¬ 9223372036854775807 < 2 + xn.size := by omega
              have t2 : ¬ 9223372036854775807 < 2 + xn.size + 1 := by omega
              clear HK A6 A7 AD AF AQ hFk x1
              rcases hcase2 with ⟨jk, hRk, hjg, hjk, Dk⟩ | ⟨hRk, kx, Dk⟩
              · rw [hRk] at hR0
                simp only at hR0
                cases hcl : standsB s jk (ltSlash ++ xn ++ gtS)
                · rw [hcl, if_neg (by decide)] at hR0
                  have hR : R = none := hR0.symm
                  clear hR0
                  obtain ⟨gk, ck, evk, hkk⟩ := RowL.kids hrow
                  subst evk
                  have W9s : Fr p w (wk.setCell ⟨w.heap.size + 1, 5, none⟩ (.slice (some ⟨gk, 0, none⟩) lk.length ck)) := Fk.later (by omega)
                  have D9 := Dk.other (c := w.heap.size + 1) (i := 5) (v := .slice (some ⟨gk, 0, none⟩) lk.length ck) h7p
                  have G69 : Many 6 (wk.setCell ⟨w.heap.size + 1, 5, none⟩ (.slice (some ⟨gk, 0, none⟩) lk.length ck)) w.heap.size _ := Gk6.other (by omega) _
                  have G79 : Many 6 (wk.setCell ⟨w.heap.size + 1, 5, none⟩ (.slice (some ⟨gk, 0, none⟩) lk.length ck)) (w.heap.size + 1) (fun i => [Value.int .i64 1, .int .i64 sp, .string xn, .slice xa l.length xc, .string ⟨#[]⟩, .slice (some ⟨gk, 0, none⟩) lk.length ck].getD i undef) := Gk7.put6 5 _ (by simp)
                  have E9 : ElP (w.heap.size + 2 ≤ ·) (wk.setCell ⟨w.heap.size + 1, 5, none⟩ (.slice (some ⟨gk, 0, none⟩) lk.length ck)) (.agg #[.int .i64 1, .int .i64 sp, .string xn, .slice xa l.length xc, .string ⟨#[]⟩, .slice (some ⟨gk, 0, none⟩) lk.length ck]) (ElB.mk 1 sp xn l ⟨#[]⟩ lk) := by
                    have h : ElP (w.heap.size + 2 ≤ ·) wk (.agg #[.int .i64 1, .int .i64 sp, .string xn, .slice xa l.length xc, .string ⟨#[]⟩, .slice (some ⟨gk, 0, none⟩) lk.length ck]) (ElB.mk 1 sp xn l ⟨#[]⟩ lk) := ⟨_, _, _, rfl, Qk, kids_wide hkk hKlo⟩
                    exact h.stay (fun b h1 _ => (Agr.set wk 5 _ (show w.heap.size + 1 < w.heap.size + 2 by omega)).1 b h1) (Agr.set wk 5 _ (show w.heap.size + 1 < w.heap.size + 2 by omega)).2
                  clear Gk6 Gk7 Dk Fk Qk hkk hrow
                  go_upto_region 18 with fail
                  generalize wk.setCell ⟨w.heap.size + 1, 5, none⟩ (.slice (some ⟨gk, 0, none⟩) lk.length ck) = w9 at *
                  have y2 := (G79.2 2 (by decide)).1
                  simp at y2
                  go_wp2_with fail
                  refine (take_no s (ltSlash ++ xn ++ gtS) jk p w9 D9 (by omega) (by omega) (by simp only [ByteArray.size_append]; have a1 : ltSlash.size = 2 := rfl; have a2 : gtS.size = 1 := rfl; omega) hcl).mono ?_
                  rintro r wz ⟨rfl, hDz, hFz⟩
                  have HG6 : Hid (Many 6 wz w.heap.size _) := G69.fr hFz h6p
                  have HG7 : Hid (Many 6 wz (w.heap.size + 1) (fun i => [Value.int .i64 1, .int .i64 sp, .string xn, .slice xa l.length xc, .string ⟨#[]⟩, .slice (some ⟨gk, 0, none⟩) lk.length ck].getD i undef)) := G79.fr hFz h7p
                  have HDf : Hid (RdAt wz p s _ _) := hDz
                  have HFf : Hid (Fr p w wz) := W9s.trans hFz
                  have HEf : Hid (ElP (w.heap.size + 2 ≤ ·) wz (.agg #[.int .i64 1, .int .i64 sp, .string xn, .slice xa l.length xc, .string ⟨#[]⟩, .slice (some ⟨gk, 0, none⟩) lk.length ck]) (ElB.mk 1 sp xn l ⟨#[]⟩ lk)) := E9.fr hFz (by intro h; omega)
                  clear G69 G79 D9 W9s E9 hDz hFz y2
                  have Y := HG7.out
                  have X := HG6.out
                  have y0 := (Y.2 0 (by decide)).1
                  have y1 := (Y.2 1 (by decide)).1
                  have y2 := (Y.2 2 (by decide)).1
                  have y3 := (Y.2 3 (by decide)).1
                  have y4 := (Y.2 4 (by decide)).1
                  have y5 := (Y.2 5 (by decide)).1
                  have r0 := (X.2 0 (by decide)).1
                  have r1 := (X.2 1 (by decide)).1
                  have r2 := (X.2 2 (by decide)).1
                  have r3 := (X.2 3 (by decide)).1
                  have r4 := (X.2 4 (by decide)).1
                  have r5 := (X.2 5 (by decide)).1
                  have s0 := (X.2 0 (by decide)).2
                  have s1 := (X.2 1 (by decide)).2
                  have s2 := (X.2 2 (by decide)).2
                  have s3 := (X.2 3 (by decide)).2
                  have s4 := (X.2 4 (by decide)).2
                  have s5 := (X.2 5 (by decide)).2
                  simp at y0 y1 y2 y3 y4 y5 r0 r1 r2 r3 r4 r5
                  have HFIN : Hid _ := el_fin hp HDf.out HFf.out HG6.out HEf.out
                  clear X Y HG6 HG7 HDf HFf HEf
                  go_wp2_with fail
                  refine bodyPost_ret (v := .agg #[.int .i64 1, .int .i64 sp, .string xn, .slice xa l.length xc, .string ⟨#[]⟩, .slice (some ⟨gk, 0, none⟩) lk.length ck]) ?_ rfl ⟨_, rfl, .inr ⟨hR, ⟨_, HFIN.out.2.1⟩, _, HFIN.out.2.2.1⟩, HFIN.out.2.2.2⟩
                  have T := HFIN.out.1
                  have t0 := (T.2 0 (by decide)).1
                  have t1 := (T.2 1 (by decide)).1
                  have t2 := (T.2 2 (by decide)).1
                  have t3 := (T.2 3 (by decide)).1
                  have t4 := (T.2 4 (by decide)).1
                  have t5 := (T.2 5 (by decide)).1
                  simp at t0 t1 t2 t3 t4 t5
                  simp [results, Tryz.results18, go_sem, t0, t1, t2, t3, t4, t5]
                · rw [hcl, if_pos rfl] at hR0
                  have hcs := stands_le hcl
                  have HIJ : Hid (i < jk + (ltSlash ++ xn ++ gtS).size) := by show i < jk + _; omega
                  have hR := hR0.symm
                  clear hR0
                  obtain ⟨gk, ck, evk, hkk⟩ := RowL.kids hrow
                  subst evk
                  have W9s : Fr p w (wk.setCell ⟨w.heap.size + 1, 5, none⟩ (.slice (some ⟨gk, 0, none⟩) lk.length ck)) := Fk.later (by omega)
                  have D9 := Dk.other (c := w.heap.size + 1) (i := 5) (v := .slice (some ⟨gk, 0, none⟩) lk.length ck) h7p
                  have G69 : Many 6 (wk.setCell ⟨w.heap.size + 1, 5, none⟩ (.slice (some ⟨gk, 0, none⟩) lk.length ck)) w.heap.size _ := Gk6.other (by omega) _
                  have G79 : Many 6 (wk.setCell ⟨w.heap.size + 1, 5, none⟩ (.slice (some ⟨gk, 0, none⟩) lk.length ck)) (w.heap.size + 1) (fun i => [Value.int .i64 1, .int .i64 sp, .string xn, .slice xa l.length xc, .string ⟨#[]⟩, .slice (some ⟨gk, 0, none⟩) lk.length ck].getD i undef) := Gk7.put6 5 _ (by simp)
                  have E9 : ElP (w.heap.size + 2 ≤ ·) (wk.setCell ⟨w.heap.size + 1, 5, none⟩ (.slice (some ⟨gk, 0, none⟩) lk.length ck)) (.agg #[.int .i64 1, .int .i64 sp, .string xn, .slice xa l.length xc, .string ⟨#[]⟩, .slice (some ⟨gk, 0, none⟩) lk.length ck]) (ElB.mk 1 sp xn l ⟨#[]⟩ lk) := by
                    have h : ElP (w.heap.size + 2 ≤ ·) wk (.agg #[.int .i64 1, .int .i64 sp, .string xn, .slice xa l.length xc, .string ⟨#[]⟩, .slice (some ⟨gk, 0, none⟩) lk.length ck]) (ElB.mk 1 sp xn l ⟨#[]⟩ lk) := ⟨_, _, _, rfl, Qk, kids_wide hkk hKlo⟩
                    exact h.stay (fun b h1 _ => (Agr.set wk 5 _ (show w.heap.size + 1 < w.heap.size + 2 by omega)).1 b h1) (Agr.set wk 5 _ (show w.heap.size + 1 < w.heap.size + 2 by omega)).2
                  clear Gk6 Gk7 Dk Fk Qk hkk hrow
                  go_upto_region 18 with fail
                  generalize wk.setCell ⟨w.heap.size + 1, 5, none⟩ (.slice (some ⟨gk, 0, none⟩) lk.length ck) = w9 at *
                  have y2 := (G79.2 2 (by decide)).1
                  simp at y2
                  go_wp2_with fail
                  refine (take_yes s (ltSlash ++ xn ++ gtS) jk p w9 D9 (by omega) (by omega) (by simp only [ByteArray.size_append]; have a1 : ltSlash.size = 2 := rfl; have a2 : gtS.size = 1 := rfl; omega) hcl).mono ?_
                  rintro r wz ⟨rfl, hDz, hFz⟩
                  have HG6 : Hid (Many 6 wz w.heap.size _) := G69.fr hFz h6p
                  have HG7 : Hid (Many 6 wz (w.heap.size + 1) (fun i => [Value.int .i64 1, .int .i64 sp, .string xn, .slice xa l.length xc, .string ⟨#[]⟩, .slice (some ⟨gk, 0, none⟩) lk.length ck].getD i undef)) := G79.fr hFz h7p
                  have HDf : Hid (RdAt wz p s _ _) := hDz
                  have HFf : Hid (Fr p w wz) := W9s.trans hFz
                  have HEf : Hid (ElP (w.heap.size + 2 ≤ ·) wz (.agg #[.int .i64 1, .int .i64 sp, .string xn, .slice xa l.length xc, .string ⟨#[]⟩, .slice (some ⟨gk, 0, none⟩) lk.length ck]) (ElB.mk 1 sp xn l ⟨#[]⟩ lk)) := E9.fr hFz (by intro h; omega)
                  clear G69 G79 D9 W9s E9 hDz hFz y2
                  have Y := HG7.out
                  have X := HG6.out
                  have y0 := (Y.2 0 (by decide)).1
                  have y1 := (Y.2 1 (by decide)).1
                  have y2 := (Y.2 2 (by decide)).1
                  have y3 := (Y.2 3 (by decide)).1
                  have y4 := (Y.2 4 (by decide)).1
                  have y5 := (Y.2 5 (by decide)).1
                  have r0 := (X.2 0 (by decide)).1
                  have r1 := (X.2 1 (by decide)).1
                  have r2 := (X.2 2 (by decide)).1
                  have r3 := (X.2 3 (by decide)).1
                  have r4 := (X.2 4 (by decide)).1
                  have r5 := (X.2 5 (by decide)).1
                  have s0 := (X.2 0 (by decide)).2
                  have s1 := (X.2 1 (by decide)).2
                  have s2 := (X.2 2 (by decide)).2
                  have s3 := (X.2 3 (by decide)).2
                  have s4 := (X.2 4 (by decide)).2
                  have s5 := (X.2 5 (by decide)).2
                  simp at y0 y1 y2 y3 y4 y5 r0 r1 r2 r3 r4 r5
                  have HFIN : Hid _ := el_fin hp HDf.out HFf.out HG6.out HEf.out
                  clear X Y HG6 HG7 HDf HFf HEf
                  go_wp2_with fail
                  refine bodyPost_ret (v := .agg #[.int .i64 1, .int .i64 sp, .string xn, .slice xa l.length xc, .string ⟨#[]⟩, .slice (some ⟨gk, 0, none⟩) lk.length ck]) ?_ rfl ⟨_, rfl, .inl ⟨_, _, hR, HIJ.out, hcs, HFIN.out.2.1, HFIN.out.2.2.1⟩, HFIN.out.2.2.2⟩
                  have T := HFIN.out.1
                  have t0 := (T.2 0 (by decide)).1
                  have t1 := (T.2 1 (by decide)).1
                  have t2 := (T.2 2 (by decide)).1
                  have t3 := (T.2 3 (by decide)).1
                  have t4 := (T.2 4 (by decide)).1
                  have t5 := (T.2 5 (by decide)).1
                  simp at t0 t1 t2 t3 t4 t5
                  simp [results, Tryz.results18, go_sem, t0, t1, t2, t3, t4, t5]
              · rw [hRk] at hR0
                have hR : R = none := hR0.symm
                clear hR0
                obtain ⟨gk, ck, evk, hkk⟩ := RowL.kids hrow
                subst evk
                have W9s : Fr p w (wk.setCell ⟨w.heap.size + 1, 5, none⟩ (.slice (some ⟨gk, 0, none⟩) lk.length ck)) := Fk.later (by omega)
                have D9 := Dk.other (c := w.heap.size + 1) (i := 5) (v := .slice (some ⟨gk, 0, none⟩) lk.length ck) h7p
                have G69 : Many 6 (wk.setCell ⟨w.heap.size + 1, 5, none⟩ (.slice (some ⟨gk, 0, none⟩) lk.length ck)) w.heap.size _ := Gk6.other (by omega) _
                have G79 : Many 6 (wk.setCell ⟨w.heap.size + 1, 5, none⟩ (.slice (some ⟨gk, 0, none⟩) lk.length ck)) (w.heap.size + 1) (fun i => [Value.int .i64 1, .int .i64 sp, .string xn, .slice xa l.length xc, .string ⟨#[]⟩, .slice (some ⟨gk, 0, none⟩) lk.length ck].getD i undef) := Gk7.put6 5 _ (by simp)
                have E9 : ElP (w.heap.size + 2 ≤ ·) (wk.setCell ⟨w.heap.size + 1, 5, none⟩ (.slice (some ⟨gk, 0, none⟩) lk.length ck)) (.agg #[.int .i64 1, .int .i64 sp, .string xn, .slice xa l.length xc, .string ⟨#[]⟩, .slice (some ⟨gk, 0, none⟩) lk.length ck]) (ElB.mk 1 sp xn l ⟨#[]⟩ lk) := by
                  have h : ElP (w.heap.size + 2 ≤ ·) wk (.agg #[.int .i64 1, .int .i64 sp, .string xn, .slice xa l.length xc, .string ⟨#[]⟩, .slice (some ⟨gk, 0, none⟩) lk.length ck]) (ElB.mk 1 sp xn l ⟨#[]⟩ lk) := ⟨_, _, _, rfl, Qk, kids_wide hkk hKlo⟩
                  exact h.stay (fun b h1 _ => (Agr.set wk 5 _ (show w.heap.size + 1 < w.heap.size + 2 by omega)).1 b h1) (Agr.set wk 5 _ (show w.heap.size + 1 < w.heap.size + 2 by omega)).2
                clear Gk6 Gk7 Dk Fk Qk hkk hrow
                go_upto_region 18 with fail
                generalize wk.setCell ⟨w.heap.size + 1, 5, none⟩ (.slice (some ⟨gk, 0, none⟩) lk.length ck) = w9 at *
                have y2 := (G79.2 2 (by decide)).1
                simp at y2
                go_wp2_with fail
                refine (take_off s _ _ p w9 D9).mono ?_
                rintro r wz ⟨rfl, hDz, hFz⟩
                have HG6 : Hid (Many 6 wz w.heap.size _) := G69.fr hFz h6p
                have HG7 : Hid (Many 6 wz (w.heap.size + 1) (fun i => [Value.int .i64 1, .int .i64 sp, .string xn, .slice xa l.length xc, .string ⟨#[]⟩, .slice (some ⟨gk, 0, none⟩) lk.length ck].getD i undef)) := G79.fr hFz h7p
                have HDf : Hid (RdAt wz p s _ _) := hDz
                have HFf : Hid (Fr p w wz) := W9s.trans hFz
                have HEf : Hid (ElP (w.heap.size + 2 ≤ ·) wz (.agg #[.int .i64 1, .int .i64 sp, .string xn, .slice xa l.length xc, .string ⟨#[]⟩, .slice (some ⟨gk, 0, none⟩) lk.length ck]) (ElB.mk 1 sp xn l ⟨#[]⟩ lk)) := E9.fr hFz (by intro h; omega)
                clear G69 G79 D9 W9s E9 hDz hFz y2
                have Y := HG7.out
                have X := HG6.out
                have y0 := (Y.2 0 (by decide)).1
                have y1 := (Y.2 1 (by decide)).1
                have y2 := (Y.2 2 (by decide)).1
                have y3 := (Y.2 3 (by decide)).1
                have y4 := (Y.2 4 (by decide)).1
                have y5 := (Y.2 5 (by decide)).1
                have r0 := (X.2 0 (by decide)).1
                have r1 := (X.2 1 (by decide)).1
                have r2 := (X.2 2 (by decide)).1
                have r3 := (X.2 3 (by decide)).1
                have r4 := (X.2 4 (by decide)).1
                have r5 := (X.2 5 (by decide)).1
                have s0 := (X.2 0 (by decide)).2
                have s1 := (X.2 1 (by decide)).2
                have s2 := (X.2 2 (by decide)).2
                have s3 := (X.2 3 (by decide)).2
                have s4 := (X.2 4 (by decide)).2
                have s5 := (X.2 5 (by decide)).2
                simp at y0 y1 y2 y3 y4 y5 r0 r1 r2 r3 r4 r5
                have HFIN : Hid _ := el_fin hp HDf.out HFf.out HG6.out HEf.out
                clear X Y HG6 HG7 HDf HFf HEf
                go_wp2_with fail
                refine bodyPost_ret (v := .agg #[.int .i64 1, .int .i64 sp, .string xn, .slice xa l.length xc, .string ⟨#[]⟩, .slice (some ⟨gk, 0, none⟩) lk.length ck]) ?_ rfl ⟨_, rfl, .inr ⟨hR, ⟨_, HFIN.out.2.1⟩, _, HFIN.out.2.2.1⟩, HFIN.out.2.2.2⟩
                have T := HFIN.out.1
                have t0 := (T.2 0 (by decide)).1
                have t1 := (T.2 1 (by decide)).1
                have t2 := (T.2 2 (by decide)).1
                have t3 := (T.2 3 (by decide)).1
                have t4 := (T.2 4 (by decide)).1
                have t5 := (T.2 5 (by decide)).1
                simp at t0 t1 t2 t3 t4 t5
                simp [results, Tryz.results18, go_sem, t0, t1, t2, t3, t4, t5]
          · rw [hsl] at HS1 hR0
            rw [if_pos rfl] at hR0
            have hR := hR0.symm
            have hsz2 := stands_le hsl
            have esl : slashGt.size = 2 := rfl
            rw [esl] at hsz2
            clear hR0
            have c0 := AD.c0
            have c1 := AD.c1
            have c2 := AD.c2
            go_upto_region 13 with fail
            go_quiet ((go_at_call 28; exact Calls.quiet_of_same (HS1.out _)))
            have bn := drew_kd (Below.refl w6.heap.size w6) nq
            have A6' : Many 6 (w6.drewN nq) w.heap.size _ := A6.below A6.1 bn
            have A7' : Many 6 (w6.drewN nq) (w.heap.size + 1) (fun i => [Value.int .i64 1, .int .i64 sp, .string xn, .slice xa l.length xc, .string ⟨#[]⟩, .slice none 0 0].getD i undef) := A7.below A7.1 bn
            have AF' : Fr p w (w6.drewN nq) := AF.trans (Fr.of_below bn)
            have AQ' : QP (w.heap.size + 2 ≤ ·) (w6.drewN nq) (.slice xa l.length xc) l := AQ.stay (fun b _ h2 => bn.block b h2) bn.size
            have AD' : RdAt (w6.drewN nq) p s (j : Int) true := AD.keep bn
            have hsz' : w.heap.size + 2 ≤ (w6.drewN nq).heap.size := Nat.le_trans hsz bn.size
            clear A6 A7 AF AQ AD hsz bn c0 c1 c2
            generalize w6.drewN nq = w7 at *
            clear HS1
            have c1 := AD'.c1
            have z1 := AD'.fz 1
            have q1 : IntKind.i64.wrap ((j : Int) + 2) = (j : Int) + 2 := IntWalk.i64_in _ (by omega)
            have e2 : ((j + 2 : Nat) : Int) = (j : Int) + 2 := by omega
            have HG6 : Hid (Many 6 (w7.setCell ⟨p, 1, none⟩ (.int .i64 ((j : Int) + 2))) w.heap.size _) := A6'.fr (Fr.set _ 1 _) h6p
            have HG7 : Hid (Many 6 (w7.setCell ⟨p, 1, none⟩ (.int .i64 ((j : Int) + 2))) (w.heap.size + 1) (fun i => [Value.int .i64 1, .int .i64 sp, .string xn, .slice xa l.length xc, .string ⟨#[]⟩, .slice none 0 0].getD i undef)) := A7'.fr (Fr.set _ 1 _) h7p
            have HDf : Hid (RdAt (w7.setCell ⟨p, 1, none⟩ (.int .i64 ((j : Int) + 2))) p s ((j + 2 : Nat) : Int) true) := by rw [e2]; exact AD'.set1 _
            have HFf : Hid (Fr p w (w7.setCell ⟨p, 1, none⟩ (.int .i64 ((j : Int) + 2)))) := AF'.trans (Fr.set _ _ _)
            have HEf : Hid (ElP (w.heap.size + 2 ≤ ·) (w7.setCell ⟨p, 1, none⟩ (.int .i64 ((j : Int) + 2))) (.agg #[.int .i64 1, .int .i64 sp, .string xn, .slice xa l.length xc, .string ⟨#[]⟩, .slice none 0 0]) (ElB.mk 1 sp xn l ⟨#[]⟩ [])) := ⟨_, _, _, rfl, AQ'.stay (fun b h1 h2 => (Fr.set w7 1 (.int .i64 ((j : Int) + 2))).block b h2 (show b ≠ p by omega)) (Fr.set (p := p) w7 1 (.int .i64 ((j : Int) + 2))).size, .inl rfl⟩
            have HIJ : Hid (i < j + 2) := by show _ < _; omega
            clear A6' A7' AF' AQ' AD' e2 hsz'
            have Y := HG7.out
            have X := HG6.out
            have y0 := (Y.2 0 (by decide)).1
            have y1 := (Y.2 1 (by decide)).1
            have y2 := (Y.2 2 (by decide)).1
            have y3 := (Y.2 3 (by decide)).1
            have y4 := (Y.2 4 (by decide)).1
            have y5 := (Y.2 5 (by decide)).1
            have r0 := (X.2 0 (by decide)).1
            have r1 := (X.2 1 (by decide)).1
            have r2 := (X.2 2 (by decide)).1
            have r3 := (X.2 3 (by decide)).1
            have r4 := (X.2 4 (by decide)).1
            have r5 := (X.2 5 (by decide)).1
            have s0 := (X.2 0 (by decide)).2
            have s1 := (X.2 1 (by decide)).2
            have s2 := (X.2 2 (by decide)).2
            have s3 := (X.2 3 (by decide)).2
            have s4 := (X.2 4 (by decide)).2
            have s5 := (X.2 5 (by decide)).2
            simp at y0 y1 y2 y3 y4 y5 r0 r1 r2 r3 r4 r5
            have HFIN : Hid _ := el_fin hp HDf.out HFf.out HG6.out HEf.out
            clear X Y HG6 HG7 HDf HFf HEf
            go_wp2_with fail
            refine bodyPost_ret (v := .agg #[.int .i64 1, .int .i64 sp, .string xn, .slice xa l.length xc, .string ⟨#[]⟩, .slice none 0 0]) ?_ rfl ⟨_, rfl, .inl ⟨_, _, hR, HIJ.out, hsz2, HFIN.out.2.1, HFIN.out.2.2.1⟩, HFIN.out.2.2.2⟩
            have T := HFIN.out.1
            have t0 := (T.2 0 (by decide)).1
            have t1 := (T.2 1 (by decide)).1
            have t2 := (T.2 2 (by decide)).1
            have t3 := (T.2 3 (by decide)).1
            have t4 := (T.2 4 (by decide)).1
            have t5 := (T.2 5 (by decide)).1
            simp at t0 t1 t2 t3 t4 t5
            simp [results, Tryz.results18, go_sem, t0, t1, t2, t3, t4, t5]
        · rw [hRn] at hR0
          have hR : R = none := hR0.symm
          have AD : RdAt ((w5.setCell ⟨w.heap.size + 1, 3, none⟩ (.slice xa l.length xc)).setCell ⟨w.heap.size + 1, 1, none⟩ (.int .i64 sp)) p s kx false := (hDx.other h7p).other h7p
          clear HAt D5 F5 M6 M7 N6 N7 hown hvn hDx hF5 hRn hR0
          go_upto_region 13 with fail
          generalize ((w5.setCell ⟨w.heap.size + 1, 3, none⟩ (.slice xa l.length xc)).setCell ⟨w.heap.size + 1, 1, none⟩ (.int .i64 sp)) = w6 at *
          have c0 := AD.c0
          have c1 := AD.c1
          have c2 := AD.c2
          go_upto_region 13 with fail
          go_quiet (fail)
          have bn := drew_kd (Below.refl w6.heap.size w6) nq
          have A6' : Many 6 (w6.drewN nq) w.heap.size _ := A6.below A6.1 bn
          have A7' : Many 6 (w6.drewN nq) (w.heap.size + 1) (fun i => [Value.int .i64 1, .int .i64 sp, .string xn, .slice xa l.length xc, .string ⟨#[]⟩, .slice none 0 0].getD i undef) := A7.below A7.1 bn
          have AF' : Fr p w (w6.drewN nq) := AF.trans (Fr.of_below bn)
          have AQ' : QP (w.heap.size + 2 ≤ ·) (w6.drewN nq) (.slice xa l.length xc) l := AQ.stay (fun b _ h2 => bn.block b h2) bn.size
          have AD' : RdAt (w6.drewN nq) p s kx false := AD.keep bn
          have hsz' : w.heap.size + 2 ≤ (w6.drewN nq).heap.size := Nat.le_trans hsz bn.size
          clear A6 A7 AF AQ AD hsz bn c0 c1 c2
          generalize w6.drewN nq = w7 at *
          have HT := take_off s ⟨#[62]⟩ kx p w7 AD'
          go_wp2_with fail
          refine HT.mono ?_
          rintro r w8 ⟨rfl, AD, hFt⟩
          have A6 := A6'.fr hFt h6p
          have A7 : Many 6 w8 (w.heap.size + 1) (fun i => [Value.int .i64 1, .int .i64 sp, .string xn, .slice xa l.length xc, .string ⟨#[]⟩, .slice none 0 0].getD i undef) := A7'.fr hFt h7p
          have AF := AF'.trans hFt
          have AQ : QP (w.heap.size + 2 ≤ ·) w8 (.slice xa l.length xc) l := AQ'.stay (fun b h1 h2 => hFt.block b h2 (by omega)) hFt.size
          have hsz : w.heap.size + 2 ≤ w8.heap.size := Nat.le_trans hsz' hFt.size
          clear A6' A7' AF' AQ' AD' hsz' hFt
          clear HT
          have HK := kids_off s p sp deep kx w8 AD
          have hKlo : w.heap.size + 2 ≤ w8.heap.size := hsz
          have x1 := (A7.2 1 (by decide)).1
          simp at x1
          go_wp2_with fail
          refine HK.mono ?_
          rintro r wk ⟨vk, rfl, hrow, Dk, hFk⟩
          have Gk6 := A6.fr hFk h6p
          have Gk7 : Many 6 wk (w.heap.size + 1) (fun i => [Value.int .i64 1, .int .i64 sp, .string xn, .slice xa l.length xc, .string ⟨#[]⟩, .slice none 0 0].getD i undef) := A7.fr hFk h7p
          have Fk := AF.trans hFk
          have Qk : QP (w.heap.size + 2 ≤ ·) wk (.slice xa l.length xc) l := AQ.stay (fun b h1 h2 => hFk.block b h2 (by omega)) hFk.size
          obtain ⟨lk, elk⟩ : ∃ lk : List ElB, lk = [] := ⟨_, rfl⟩
          rw [← elk] at hrow
          clear elk
          have t1 : ¬ 9223372036854775807 < 2 + xn.size := by omega
          have t2 : ¬ 9223372036854775807 < 2 + xn.size + 1 := by omega
          have x5 := (Gk7.2 5 (by decide)).1
          have q5 := (Gk7.2 5 (by decide)).2
          simp at x5
          clear HK A6 A7 AD AF AQ hFk x1
          obtain ⟨gk, ck, evk, hkk⟩ := RowL.kids hrow
          subst evk
          have W9s : Fr p w (wk.setCell ⟨w.heap.size + 1, 5, none⟩ (.slice (some ⟨gk, 0, none⟩) lk.length ck)) := Fk.later (by omega)
          have D9 := Dk.other (c := w.heap.size + 1) (i := 5) (v := .slice (some ⟨gk, 0, none⟩) lk.length ck) h7p
          have G69 : Many 6 (wk.setCell ⟨w.heap.size + 1, 5, none⟩ (.slice (some ⟨gk, 0, none⟩) lk.length ck)) w.heap.size _ := Gk6.other (by omega) _
          have G79 : Many 6 (wk.setCell ⟨w.heap.size + 1, 5, none⟩ (.slice (some ⟨gk, 0, none⟩) lk.length ck)) (w.heap.size + 1) (fun i => [Value.int .i64 1, .int .i64 sp, .string xn, .slice xa l.length xc, .string ⟨#[]⟩, .slice (some ⟨gk, 0, none⟩) lk.length ck].getD i undef) := Gk7.put6 5 _ (by simp)
          have E9 : ElP (w.heap.size + 2 ≤ ·) (wk.setCell ⟨w.heap.size + 1, 5, none⟩ (.slice (some ⟨gk, 0, none⟩) lk.length ck)) (.agg #[.int .i64 1, .int .i64 sp, .string xn, .slice xa l.length xc, .string ⟨#[]⟩, .slice (some ⟨gk, 0, none⟩) lk.length ck]) (ElB.mk 1 sp xn l ⟨#[]⟩ lk) := by
            have h : ElP (w.heap.size + 2 ≤ ·) wk (.agg #[.int .i64 1, .int .i64 sp, .string xn, .slice xa l.length xc, .string ⟨#[]⟩, .slice (some ⟨gk, 0, none⟩) lk.length ck]) (ElB.mk 1 sp xn l ⟨#[]⟩ lk) := ⟨_, _, _, rfl, Qk, kids_wide hkk hKlo⟩
            exact h.stay (fun b h1 _ => (Agr.set wk 5 _ (show w.heap.size + 1 < w.heap.size + 2 by omega)).1 b h1) (Agr.set wk 5 _ (show w.heap.size + 1 < w.heap.size + 2 by omega)).2
          clear Gk6 Gk7 Dk Fk Qk hkk hrow
          go_upto_region 18 with fail
          generalize wk.setCell ⟨w.heap.size + 1, 5, none⟩ (.slice (some ⟨gk, 0, none⟩) lk.length ck) = w9 at *
          have y2 := (G79.2 2 (by decide)).1
          simp at y2
          go_wp2_with fail
          refine (take_off s _ _ p w9 D9).mono ?_
          rintro r wz ⟨rfl, hDz, hFz⟩
          have HG6 : Hid (Many 6 wz w.heap.size _) := G69.fr hFz h6p
          have HG7 : Hid (Many 6 wz (w.heap.size + 1) (fun i => [Value.int .i64 1, .int .i64 sp, .string xn, .slice xa l.length xc, .string ⟨#[]⟩, .slice (some ⟨gk, 0, none⟩) lk.length ck].getD i undef)) := G79.fr hFz h7p
          have HDf : Hid (RdAt wz p s _ _) := hDz
          have HFf : Hid (Fr p w wz) := W9s.trans hFz
          have HEf : Hid (ElP (w.heap.size + 2 ≤ ·) wz (.agg #[.int .i64 1, .int .i64 sp, .string xn, .slice xa l.length xc, .string ⟨#[]⟩, .slice (some ⟨gk, 0, none⟩) lk.length ck]) (ElB.mk 1 sp xn l ⟨#[]⟩ lk)) := E9.fr hFz (by intro h; omega)
          clear G69 G79 D9 W9s E9 hDz hFz y2
          have Y := HG7.out
          have X := HG6.out
          have y0 := (Y.2 0 (by decide)).1
          have y1 := (Y.2 1 (by decide)).1
          have y2 := (Y.2 2 (by decide)).1
          have y3 := (Y.2 3 (by decide)).1
          have y4 := (Y.2 4 (by decide)).1
          have y5 := (Y.2 5 (by decide)).1
          have r0 := (X.2 0 (by decide)).1
          have r1 := (X.2 1 (by decide)).1
          have r2 := (X.2 2 (by decide)).1
          have r3 := (X.2 3 (by decide)).1
          have r4 := (X.2 4 (by decide)).1
          have r5 := (X.2 5 (by decide)).1
          have s0 := (X.2 0 (by decide)).2
          have s1 := (X.2 1 (by decide)).2
          have s2 := (X.2 2 (by decide)).2
          have s3 := (X.2 3 (by decide)).2
          have s4 := (X.2 4 (by decide)).2
          have s5 := (X.2 5 (by decide)).2
          simp at y0 y1 y2 y3 y4 y5 r0 r1 r2 r3 r4 r5
          have HFIN : Hid _ := el_fin hp HDf.out HFf.out HG6.out HEf.out
          clear X Y HG6 HG7 HDf HFf HEf
          go_wp2_with fail
          refine bodyPost_ret (v := .agg #[.int .i64 1, .int .i64 sp, .string xn, .slice xa l.length xc, .string ⟨#[]⟩, .slice (some ⟨gk, 0, none⟩) lk.length ck]) ?_ rfl ⟨_, rfl, .inr ⟨hR, ⟨_, HFIN.out.2.1⟩, _, HFIN.out.2.2.1⟩, HFIN.out.2.2.2⟩
          have T := HFIN.out.1
          have t0 := (T.2 0 (by decide)).1
          have t1 := (T.2 1 (by decide)).1
          have t2 := (T.2 2 (by decide)).1
          have t3 := (T.2 3 (by decide)).1
          have t4 := (T.2 4 (by decide)).1
          have t5 := (T.2 5 (by decide)).1
          simp at t0 t1 t2 t3 t4 t5
          simp [results, Tryz.results18, go_sem, t0, t1, t2, t3, t4, t5]

theorem elC_all (s : ByteArray) (p : Nat) (hs : s.size ≤ 1073741824) : ∀ m, ElC s p m
  | 0 => fun deep i about W h hi hm hd => absurd hm (by omega)
  | m + 1 => elC_step s p m hs (elC_all s p hs m)

end Go.Proofs.YthipdkagkdnaiaaGreatDoor.Sg
