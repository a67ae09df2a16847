/- Contracts of the model's Read and Well. Written by mk_rdread.py. -/
import Derived.Test.YtbmmghkieolpkaaGreatDoorMR2314
namespace Go.Proofs.YtbmmghkieolpkaaGreatDoor.Sg
open Go.ChangeShapes Go.WideShapes Go.ChangeAt Go.RowKit

theorem below_own {w a b : World} {e : TypeId} {z : Nat} {v : Value} {n : Nat} {xs : List Value} (h : Below w.heap.size w a) (ho : a.ownsRow w.heap.size e z v n xs) (hg : a.grownBy b v.ownBlock) : Below w.heap.size w b :=
  ⟨hg.os.trans h.os, hg.tape.trans h.tape, hg.output.trans h.output, Nat.le_trans h.size hg.size, fun k hk => (hg.block k (Nat.lt_of_lt_of_le hk h.size) (fun e => absurd (own_base ho e.symm) (Nat.not_le_of_lt hk))).trans (h.block k hk)⟩
theorem doc_more {l x : List ElB} {o : Option (List ElB)} : (o.map fun r => x ++ r).map (fun r => l ++ r) = o.map fun r => (l ++ x) ++ r := by
  cases o <;> simp
theorem KidsIn.qa {lo : Nat} {w : World} {a : Option Addr} {l : List ElB} (h : KidsIn (QP (lo ≤ ·)) (lo ≤ ·) w a l) : KidsIn (QA lo) (lo ≤ ·) w a l := by
  rcases h with h | ⟨b, o, e, hp, hk⟩
  · exact .inl h
  · exact .inr ⟨b, o, e, hp, ElsIn.wider (fun _ _ hq => hq.qa) (fun _ hb => hb) l b o hk⟩
theorem QP.lies (P : Nat → Prop) : Lies (QP P) := ⟨fun ⟨x, c, e, h1, h3, h4⟩ hb => ⟨x, c, e, fun b o m h => ⟨(h1 b o m h).1, Nat.lt_of_lt_of_le (h1 b o m h).2 hb.size⟩, h3.below hb, h4⟩, fun ⟨_, c, e, _⟩ => ⟨_, c, e⟩⟩
def finR : Option (List ElB) → Option (List ElB)
  | none => none
  | some l => if docF 0 0 l = true then some l else none
/-- What Read leaves. -/
def ReadLeft (w : World) (R : Option (List ElB)) (r : Ending) (w' : World) : Prop :=
  Below w.heap.size w w' ∧ ((∃ l g c, R = some l ∧ r = .returned (.tuple #[.slice (some ⟨g, 0, none⟩) l.length c, .bool true]) ∧ KidsIn (QP (w.heap.size ≤ ·)) (w.heap.size ≤ ·) w' (some ⟨g, 0, none⟩) l) ∨ (R = none ∧ ∃ g, r = .returned (.tuple #[.slice (some ⟨g, 0, none⟩) 0 0, .bool false])))

set_option maxRecDepth 20000 in
set_option maxHeartbeats 16000000 in
theorem specRead (s : ByteArray) (w : World) (hs : s.size ≤ 1073741824) :
    Calls Tryz.prog 11 #[.string s] w fun r w' => ReadLeft w (readR s) r w' := by
  have bA := (Below.refl w.heap.size w).alloc (Nat.le_refl _) (.cells #[] 25)
  by_cases hbig : 200000 < s.size
  · have hR : readR s = none := by unfold readR; rw [if_pos (.inl hbig)]
    have g1 : (200000 : Int) < (s.size : Int) := by omega
    go_enter Tryz.func11, Tryz.ntmps11
    go_wp2_with fail
    go_ret2
    exact ⟨bA, .inr ⟨hR, _, rfl⟩⟩
  have g1 : ¬ (200000 : Int) < (s.size : Int) := by omega
  obtain ⟨i0, hi0, hz0, hz1, hz2⟩ := info_parts info_el
  have Hi : Hid (Tryz.prog.info? 25 = some i0) := hi0
  have Hz0 : Hid (i0.zero = some (.agg #[.int .i64 0, .int .i64 0, .string ⟨#[]⟩, .slice none 0 0, .string ⟨#[]⟩, .slice none 0 0])) := hz0
  have Hz1 : Hid (i0.size = 6) := hz1
  have Hz2 : Hid (i0.bytes = 96) := hz2
  have HE : Hid (ElC s (w.heap.size + 1) (s.size + 1)) := elC_all s _ hs _
  have hsz := docL_size s _ (el_size s (s.size + 1) 60 (-1)) (s.size + 1) 22
  obtain ⟨el, Hel⟩ : ∃ el : Nat → Option (ElB × Nat), Hid (el = fun q => elM s (s.size + 1) 60 q (-1)) := ⟨_, rfl⟩
  rw [← Hel.out] at hsz
  obtain ⟨R, HR⟩ : ∃ R, Hid ((if standsB s 0 xmlHead = false then none else docL s el (s.size + 1) 22) = R) := ⟨_, rfl⟩
  have Hread : Hid (readR s = finR R) := by
    show _ = _
    unfold readR
    rw [← HR.out, Hel.out]
    cases hst : standsB s 0 xmlHead
    · rw [if_pos (.inr rfl), if_pos rfl]
      rfl
    · rw [if_neg (fun h => h.elim (fun h => hbig h) (fun h => by cases h)), if_neg (by decide)]
      cases docL s (fun q => elM s (s.size + 1) 60 q (-1)) (s.size + 1) 22 <;> rfl
  have HRs : Hid (∀ l, R = some l → l.length + elsW l ≤ 1000000) := fun l hl => by
    have h1 := HR.out
    rw [hl] at h1
    cases hst : standsB s 0 xmlHead
    · rw [hst, if_pos rfl] at h1
      cases h1
    · rw [hst, if_neg (by decide)] at h1
      have h2 := stands_le hst
      have u : xmlHead.size = 22 := rfl
      have := hsz l h1 (by omega)
      omega
  have HO0 : Hid (RowP (w.heap.size + 1) ((w.alloc (.cells #[] 25)).alloc (.cells #[.string s, .int .i64 0, .bool true] 38)) w.heap.size (.slice (some ⟨w.heap.size, 0, none⟩) 0 0) []) := (RowP.empty (w.heap.size + 1) w w.heap.size (Nat.le_refl _) (by omega)).keep ((Below.refl _ _).alloc (Nat.le_refl _) _)
  have HD0 : Hid (RdAt ((w.alloc (.cells #[] 25)).alloc (.cells #[.string s, .int .i64 0, .bool true] 38)) (w.heap.size + 1) s ((0 : Nat) : Int) true) := by
    show RdAt _ _ _ _ _
    unfold RdAt
    show ((w.heap.push _).push _)[w.heap.size + 1]? = _
    have e : w.heap.size + 1 = (w.heap.push (.cells #[] 25)).size := by simp
    rw [e]
    exact Array.getElem?_push_size
  have HB0 : Hid (Below w.heap.size w ((w.alloc (.cells #[] 25)).alloc (.cells #[.string s, .int .i64 0, .bool true] 38))) := bA.alloc (by simp) _
  clear hi0 hz0 hz1 hz2 bA hsz
  go_enter Tryz.func11, Tryz.ntmps11
  go_wp2_with fail
  generalize (w.alloc (.cells #[] 25)).alloc (.cells #[.string s, .int .i64 0, .bool true] 38) = w0 at *
  have hT : Calls Tryz.prog 27 #[.pointer (some ⟨w.heap.size + 1, 0, none⟩), .string ⟨#[60, 63, 120, 109, 108, 32, 118, 101, 114, 115, 105, 111, 110, 61, 34, 49, 46, 48, 34, 63, 62, 10]⟩] w0 fun r w' => r = .returned (.tuple #[]) ∧ Fr (w.heap.size + 1) w0 w' ∧ ((Hid ((docL s el (s.size + 1) 22).map (fun r => [] ++ r) = R) ∧ 22 ≤ s.size ∧ Hid (RdAt w' (w.heap.size + 1) s ((22 : Nat) : Int) true)) ∨ (Hid (R = none) ∧ ∃ k, Hid (RdAt w' (w.heap.size + 1) s k false))) := by
    cases hst : standsB s 0 xmlHead
    · refine (take_no s xmlHead 0 _ w0 HD0.out (by omega) (by omega) (by decide) hst).mono ?_
      rintro r w' ⟨rfl, hD, hF⟩
      refine ⟨rfl, hF, .inr ⟨?_, _, hD⟩⟩
      show _ = _
      rw [← HR.out, if_pos hst]
    · have h2 := stands_le hst
      have u : xmlHead.size = 22 := rfl
      refine (take_yes s xmlHead 0 _ w0 HD0.out (by omega) (by omega) (by decide) hst).mono ?_
      rintro r w' ⟨rfl, hD, hF⟩
      refine ⟨rfl, hF, .inl ⟨?_, by omega, hD⟩⟩
      show _ = _
      rw [← HR.out, if_neg (by rw [hst]; decide)]
      cases docL s el (s.size + 1) 22 <;> simp
  refine hT.mono ?_
  rintro r w1 ⟨rfl, hF1, hmode⟩
  have HO1 : Hid (RowP (w.heap.size + 1) w1 w.heap.size (.slice (some ⟨w.heap.size, 0, none⟩) 0 0) []) := HO0.out.fr hF1
  have HB1 : Hid (Below w.heap.size w w1) := HB0.out.trans (hF1.below (by omega) HB0.out.size)
  clear hT HO0 HD0 HB0 hF1 HR
  go_wp2_with fail
  go_loopw [4] (fun ov wr => ∃ l : List ElB, l.length ≤ s.size ∧ Hid (RowP (w.heap.size + 1) wr w.heap.size ov l) ∧ Hid (Below w.heap.size w wr) ∧ ((∃ f k : Nat, k ≤ s.size ∧ s.size + 1 ≤ f + k ∧ l.length ≤ k ∧ Hid ((docL s el f k).map (fun r => l ++ r) = R) ∧ Hid (RdAt wr (w.heap.size + 1) s (k : Int) true)) ∨ (Hid (R = none) ∧ ∃ k, Hid (RdAt wr (w.heap.size + 1) s k false)))) (fun _ wr => rdLeft s (w.heap.size + 1) wr)
  case atStart =>
    refine ⟨[], Nat.zero_le _, HO1, HB1, ?_⟩
    rcases hmode with ⟨h1, h2, h3⟩ | h
    · exact .inl ⟨s.size + 1, 22, h2, by omega, Nat.zero_le _, h1, h3⟩
    · exact .inr h
  case round =>
    clear HO1 HB1 hmode
    obtain ⟨l, hll, HO, HB, hmode⟩ := hrel
    obtain ⟨g, oc, rfl, hgp, hg1, hg2⟩ := HO.out.form
    rcases hmode with ⟨f, k, hk, hf, hlk, HRk, HD⟩ | ⟨HN, k, HD⟩
    · have c1 := HD.out.c1
      have c2 := HD.out.c2
      have HM : Hid (rdLeft s (w.heap.size + 1) wr = s.size + 2 - k) := rdLeft_on HD.out
      obtain ⟨f', rfl⟩ : ∃ f', f = f' + 1 := ⟨f - 1, by omega⟩
      have hRk := HRk.out
      rw [docL] at hRk
      by_cases hlt : k < s.size
      · rw [if_neg (by omega)] at hRk
        have k1 : (k : Int) < (s.size : Int) := by omega
        have k1' : decide ((k : Int) < (s.size : Int)) = true := decide_eq_true k1
        have HS2 := specStands s k openNoteB wr (by omega) (by omega) (by decide)
        cases hno : standsB s k openNoteB
        · rw [hno] at HS2 hRk
          rw [if_neg (by decide)] at hRk
          have HC := HE.out 60 k (-1) wr HD.out hk (by omega) (by omega)
          have eC : elM s (s.size + 1) 60 k (-1) = el k := by rw [Hel.out]
          rw [eC] at HC
          clear HRk
          go_wp2_with fail
          refine HS2.mono ?_
          rintro r wx ⟨rfl, rfl⟩
          clear HS2
          go_wp2_with fail
          refine HC.mono ?_
          rintro r w2 ⟨v, rfl, hleft, hfr⟩
          have HO2 : Hid (RowP (w.heap.size + 1) w2 w.heap.size _ l) := HO.out.fr hfr
          have HB2 : Hid (Below w.heap.size w w2) := HB.out.trans (hfr.below (by omega) HB.out.size)
          have HN' : Hid (g < wx.heap.size ∧ w.heap.size + 1 < wx.heap.size ∧ w.heap.size ≤ wx.heap.size) := ⟨hg2, HD.out.lt, HB.out.size⟩
          clear HC HO HB HD c1 c2 hfr hg2
          generalize wx.heap.size = N4 at *
          rcases hleft with ⟨e, j, hR, hkj, hjs, heP, hD⟩ | ⟨hR, ⟨e, heP⟩, kx, hD⟩
          · obtain ⟨kd, sq, nm, ats, tx, ks⟩ := e
            have HeP : Hid (ElP (N4 ≤ ·) w2 v (.mk kd sq nm ats tx ks)) := heP
            obtain ⟨av, ka, kc, ev, ⟨xa, xc, eav, _⟩, _⟩ := heP
            subst eav
            subst ev
            rw [hR] at hRk
            have HRj : Hid ((if standsB s j nlS = true then (docL s el f' (j + 1)).map (fun r => (ElB.mk kd sq nm ats tx ks) :: r) else none).map (fun r => l ++ r) = R) := hRk
            have HD2 : Hid (RdAt w2 (w.heap.size + 1) s ((j : Nat) : Int) true) := hD
            clear hRk hR hD
            obtain ⟨gq, capq, C, eV, hgp', hown, hels⟩ := HO2.out
            cases eV
            have bA := (Below.refl w2.heap.size w2).alloc (Nat.le_refl _) (.cells #[.int .i64 kd, .int .i64 sq, .string nm, .slice xa ats.length xc, .string tx, .slice ka ks.length kc] 25)
            have O4 := hown.alloc (.cells #[.int .i64 kd, .int .i64 sq, .string nm, .slice xa ats.length xc, .string tx, .slice ka ks.length kc] 25)
            have hels4 : ∀ i (hi : i < l.length), ElP (fun b => (w.heap.size ≤ b ∧ b ≠ g) ∧ b ≠ w.heap.size + 1) (w2.alloc (.cells #[.int .i64 kd, .int .i64 sq, .string nm, .slice xa ats.length xc, .string tx, .slice ka ks.length kc] 25)) (sixV C i) (l[i]'hi) := fun i hi => (hels i hi).stay (fun b _ h2 => bA.block b h2) bA.size
            have he4 : Hid (ElP (N4 ≤ ·) (w2.alloc (.cells #[.int .i64 kd, .int .i64 sq, .string nm, .slice xa ats.length xc, .string tx, .slice ka ks.length kc] 25)) (.agg #[.int .i64 kd, .int .i64 sq, .string nm, .slice xa ats.length xc, .string tx, .slice ka ks.length kc]) (ElB.mk kd sq nm ats tx ks)) := (HeP.out).stay (fun b _ h2 => bA.block b h2) bA.size
            have F4 : Hid (Below w.heap.size w (w2.alloc (.cells #[.int .i64 kd, .int .i64 sq, .string nm, .slice xa ats.length xc, .string tx, .slice ka ks.length kc] 25))) := HB2.out.trans (bA.mono HB2.out.size)
            have D4 : Hid (RdAt (w2.alloc (.cells #[.int .i64 kd, .int .i64 sq, .string nm, .slice xa ats.length xc, .string tx, .slice ka ks.length kc] 25)) (w.heap.size + 1) s _ _) := HD2.out.keep bA
            have Hels4 : Hid (∀ i (hi : i < l.length), ElP (fun b => (w.heap.size ≤ b ∧ b ≠ g) ∧ b ≠ w.heap.size + 1) (w2.alloc (.cells #[.int .i64 kd, .int .i64 sq, .string nm, .slice xa ats.length xc, .string tx, .slice ka ks.length kc] 25)) (sixV C i) (l[i]'hi)) := hels4
            have hC6 : Hid (C.length = l.length * 6) := hown.1
            clear hels hels4 bA hown
            go_wp2_with (at_builtin; refine wpList_append_at _ rfl (.tmp 61) (.tmp 64) 23 rfl w.heap.size 25 i0 (.agg #[.int .i64 0, .int .i64 0, .string ⟨#[]⟩, .slice none 0 0, .string ⟨#[]⟩, .slice none 0 0]) 6 96 Tryz.underlying23 Hi.out Hz0.out Hz1.out Hz2.out rfl (by decide) _ l.length C rfl O4 ⟨_, 0, none⟩ 1 1 [.int .i64 kd, .int .i64 sq, .string nm, .slice xa ats.length xc, .string tx, .slice ka ks.length kc] rfl rfl (six_cells _ _ _ _ _ _ _ _ _ (by first | rfl | simp | simp [World.setCell])) (by intro u hu; simp only [List.mem_cons, List.not_mem_nil, or_false] at hu; rcases hu with rfl | rfl | rfl | rfl | rfl | rfl <;> rfl) ?x3 ?x4 ?x5 ?_)
            case x3 => unfold maxLen; omega
            case x4 => omega
            case x5 => exact F4.out.size
            intro v' w5 ho5 hg5 hb5
            have HO5 : Hid (RowP (w.heap.size + 1) w5 w.heap.size v' (l ++ [(ElB.mk kd sq nm ats tx ks)])) := RowP.more rfl hgp D4.out.lt hC6.out Hels4.out HN'.out.1 HN'.out.2.1 HN'.out.2.2 he4.out ho5 hg5 (fun b hb => (hb5 b hb).imp (fun h => h) (fun h => by first | exact h | (simp; omega) | (simp [World.setCell]; omega)))
            have HB5 : Hid (Below w.heap.size w w5) := below_own F4.out O4 hg5
            have HD5 : Hid (RdAt w5 (w.heap.size + 1) s _ _) := D4.out.grownP hgp hg5
            have hl1 : (l ++ [(ElB.mk kd sq nm ats tx ks)]).length = l.length + 1 := by simp
            clear ho5 hg5 hb5 O4 F4 D4 Hels4 hC6 he4 HN' HO2 HB2 HD2
            go_wp2_with fail
            cases hnl : standsB s j nlS
            · have HN : Hid (R = none) := by
                show _ = _
                rw [← HRj.out, if_neg (by rw [hnl]; decide)]
                rfl
              clear HRj
              refine (take_no s nlS j _ _ HD5.out (by omega) (by omega) (by decide) hnl).mono ?_
              rintro r w6 ⟨rfl, hD6, hF6⟩
              have HO6 : Hid (RowP (w.heap.size + 1) w6 w.heap.size v' (l ++ [(ElB.mk kd sq nm ats tx ks)])) := HO5.out.fr hF6
              have HB6 : Hid (Below w.heap.size w w6) := HB5.out.trans (hF6.below (by omega) HB5.out.size)
              have HD6 : Hid (RdAt w6 (w.heap.size + 1) s _ false) := hD6
              clear HO5 HB5 HD5 hD6 hF6
              go_wp2_with fail
              go_roundw
              case rel => exact ⟨l ++ [(ElB.mk kd sq nm ats tx ks)], by rw [hl1]; omega, HO6, HB6, .inr ⟨HN, _, HD6⟩⟩
              case measure =>
                rw [rdLeft_off HD6.out, HM.out]
                omega
            · have HRn : Hid ((docL s el f' (j + 1)).map (fun r => (l ++ [(ElB.mk kd sq nm ats tx ks)]) ++ r) = R) := by
                show _ = _
                rw [← HRj.out, if_pos hnl]
                exact (doc_more (x := [(ElB.mk kd sq nm ats tx ks)])).symm
              have hjn := stands_le hnl
              have un : nlS.size = 1 := rfl
              rw [un] at hjn
              clear HRj
              refine (take_yes s nlS j _ _ HD5.out (by omega) (by omega) (by decide) hnl).mono ?_
              rintro r w6 ⟨rfl, hD6, hF6⟩
              rw [un] at hD6
              have HO6 : Hid (RowP (w.heap.size + 1) w6 w.heap.size v' (l ++ [(ElB.mk kd sq nm ats tx ks)])) := HO5.out.fr hF6
              have HB6 : Hid (Below w.heap.size w w6) := HB5.out.trans (hF6.below (by omega) HB5.out.size)
              have HD6 : Hid (RdAt w6 (w.heap.size + 1) s ((j + 1 : Nat) : Int) true) := hD6
              clear HO5 HB5 HD5 hD6 hF6
              go_wp2_with fail
              go_roundw
              case rel => exact ⟨l ++ [(ElB.mk kd sq nm ats tx ks)], by rw [hl1]; omega, HO6, HB6, .inl ⟨f', j + 1, by omega, by omega, by rw [hl1]; omega, HRn, HD6⟩⟩
              case measure =>
                rw [rdLeft_on HD6.out, HM.out]
                omega
          · obtain ⟨kd, sq, nm, ats, tx, ks⟩ := e
            have HeP : Hid (ElP (N4 ≤ ·) w2 v (.mk kd sq nm ats tx ks)) := heP
            obtain ⟨av, ka, kc, ev, ⟨xa, xc, eav, _⟩, _⟩ := heP
            subst eav
            subst ev
            rw [hR] at hRk
            have HN : Hid (R = none) := hRk.symm
            have HD2 : Hid (RdAt w2 (w.heap.size + 1) s kx false) := hD
            clear hRk hR hD
            obtain ⟨gq, capq, C, eV, hgp', hown, hels⟩ := HO2.out
            cases eV
            have bA := (Below.refl w2.heap.size w2).alloc (Nat.le_refl _) (.cells #[.int .i64 kd, .int .i64 sq, .string nm, .slice xa ats.length xc, .string tx, .slice ka ks.length kc] 25)
            have O4 := hown.alloc (.cells #[.int .i64 kd, .int .i64 sq, .string nm, .slice xa ats.length xc, .string tx, .slice ka ks.length kc] 25)
            have hels4 : ∀ i (hi : i < l.length), ElP (fun b => (w.heap.size ≤ b ∧ b ≠ g) ∧ b ≠ w.heap.size + 1) (w2.alloc (.cells #[.int .i64 kd, .int .i64 sq, .string nm, .slice xa ats.length xc, .string tx, .slice ka ks.length kc] 25)) (sixV C i) (l[i]'hi) := fun i hi => (hels i hi).stay (fun b _ h2 => bA.block b h2) bA.size
            have he4 : Hid (ElP (N4 ≤ ·) (w2.alloc (.cells #[.int .i64 kd, .int .i64 sq, .string nm, .slice xa ats.length xc, .string tx, .slice ka ks.length kc] 25)) (.agg #[.int .i64 kd, .int .i64 sq, .string nm, .slice xa ats.length xc, .string tx, .slice ka ks.length kc]) (ElB.mk kd sq nm ats tx ks)) := (HeP.out).stay (fun b _ h2 => bA.block b h2) bA.size
            have F4 : Hid (Below w.heap.size w (w2.alloc (.cells #[.int .i64 kd, .int .i64 sq, .string nm, .slice xa ats.length xc, .string tx, .slice ka ks.length kc] 25))) := HB2.out.trans (bA.mono HB2.out.size)
            have D4 : Hid (RdAt (w2.alloc (.cells #[.int .i64 kd, .int .i64 sq, .string nm, .slice xa ats.length xc, .string tx, .slice ka ks.length kc] 25)) (w.heap.size + 1) s _ _) := HD2.out.keep bA
            have Hels4 : Hid (∀ i (hi : i < l.length), ElP (fun b => (w.heap.size ≤ b ∧ b ≠ g) ∧ b ≠ w.heap.size + 1) (w2.alloc (.cells #[.int .i64 kd, .int .i64 sq, .string nm, .slice xa ats.length xc, .string tx, .slice ka ks.length kc] 25)) (sixV C i) (l[i]'hi)) := hels4
            have hC6 : Hid (C.length = l.length * 6) := hown.1
            clear hels hels4 bA hown
            go_wp2_with (at_builtin; refine wpList_append_at _ rfl (.tmp 61) (.tmp 64) 23 rfl w.heap.size 25 i0 (.agg #[.int .i64 0, .int .i64 0, .string ⟨#[]⟩, .slice none 0 0, .string ⟨#[]⟩, .slice none 0 0]) 6 96 Tryz.underlying23 Hi.out Hz0.out Hz1.out Hz2.out rfl (by decide) _ l.length C rfl O4 ⟨_, 0, none⟩ 1 1 [.int .i64 kd, .int .i64 sq, .string nm, .slice xa ats.length xc, .string tx, .slice ka ks.length kc] rfl rfl (six_cells _ _ _ _ _ _ _ _ _ (by first | rfl | simp | simp [World.setCell])) (by intro u hu; simp only [List.mem_cons, List.not_mem_nil, or_false] at hu; rcases hu with rfl | rfl | rfl | rfl | rfl | rfl <;> rfl) ?x3 ?x4 ?x5 ?_)
            case x3 => unfold maxLen; omega
            case x4 => omega
            case x5 => exact F4.out.size
            intro v' w5 ho5 hg5 hb5
            have HO5 : Hid (RowP (w.heap.size + 1) w5 w.heap.size v' (l ++ [(ElB.mk kd sq nm ats tx ks)])) := RowP.more rfl hgp D4.out.lt hC6.out Hels4.out HN'.out.1 HN'.out.2.1 HN'.out.2.2 he4.out ho5 hg5 (fun b hb => (hb5 b hb).imp (fun h => h) (fun h => by first | exact h | (simp; omega) | (simp [World.setCell]; omega)))
            have HB5 : Hid (Below w.heap.size w w5) := below_own F4.out O4 hg5
            have HD5 : Hid (RdAt w5 (w.heap.size + 1) s _ _) := D4.out.grownP hgp hg5
            have hl1 : (l ++ [(ElB.mk kd sq nm ats tx ks)]).length = l.length + 1 := by simp
            clear ho5 hg5 hb5 O4 F4 D4 Hels4 hC6 he4 HN' HO2 HB2 HD2
            go_wp2_with fail
            refine (take_off s nlS _ _ _ HD5.out).mono ?_
            rintro r w6 ⟨rfl, hD6, hF6⟩
            have HO6 : Hid (RowP (w.heap.size + 1) w6 w.heap.size v' (l ++ [(ElB.mk kd sq nm ats tx ks)])) := HO5.out.fr hF6
            have HB6 : Hid (Below w.heap.size w w6) := HB5.out.trans (hF6.below (by omega) HB5.out.size)
            have HD6 : Hid (RdAt w6 (w.heap.size + 1) s _ false) := hD6
            clear HO5 HB5 HD5 hD6 hF6
            go_wp2_with fail
            go_roundw
            case rel => exact ⟨l ++ [(ElB.mk kd sq nm ats tx ks)], by rw [hl1]; omega, HO6, HB6, .inr ⟨HN, _, HD6⟩⟩
            case measure =>
              rw [rdLeft_off HD6.out, HM.out]
              omega
        · rw [hno] at HS2 hRk
          rw [if_pos rfl] at hRk
          have hxt := xoI_le (s := s) (i := k)
          have HX := specXmlNote s (k : Int) wr hs
          generalize xoI s (k : Int) = xi at *
          generalize xoS s (k : Int) = xs at *
          clear HRk
          go_wp2_with fail
          refine HS2.mono ?_
          rintro r wx ⟨rfl, rfl⟩
          clear HS2
          go_wp2_with fail
          refine HX.mono ?_
          rintro r w2 ⟨rfl, b2⟩
          have HO2 : Hid (RowP (w.heap.size + 1) w2 w.heap.size _ l) := HO.out.keep b2
          have HB2 : Hid (Below w.heap.size w w2) := HB.out.trans (b2.mono HB.out.size)
          have HD2 : Hid (RdAt w2 (w.heap.size + 1) s (k : Int) true) := HD.out.keep b2
          clear HX HO HB HD c1 c2 b2 hg2
          by_cases hx0 : xi < 0
          · rw [if_pos hx0] at hRk
            have HN : Hid (R = none) := hRk.symm
            have gx : ¬ (0 : Int) ≤ xi := by omega
            have gx' : decide ((0 : Int) ≤ xi) = false := decide_eq_false gx
            clear hRk hxt
            have HDs : Hid (RdAt (w2.setCell ⟨w.heap.size + 1, 2, none⟩ (.bool false)) (w.heap.size + 1) s (k : Int) false) := HD2.out.set2 false
            have HD3 : Hid (RdAt ((w2.setCell ⟨w.heap.size + 1, 2, none⟩ (.bool false)).setCell ⟨w.heap.size + 1, 1, none⟩ (.int .i64 0)) (w.heap.size + 1) s 0 false) := HDs.out.set1 _
            have HB3 : Hid (Below w.heap.size w ((w2.setCell ⟨w.heap.size + 1, 2, none⟩ (.bool false)).setCell ⟨w.heap.size + 1, 1, none⟩ (.int .i64 0))) := HB2.out.trans (((Fr.set (p := w.heap.size + 1) w2 2 (.bool false)).trans (Fr.set _ 1 (.int .i64 0))).below (by omega) HB2.out.size)
            have HO3 : Hid (RowP (w.heap.size + 1) ((w2.setCell ⟨w.heap.size + 1, 2, none⟩ (.bool false)).setCell ⟨w.heap.size + 1, 1, none⟩ (.int .i64 0)) w.heap.size _ l) := (HO2.out.fr (Fr.set _ 2 (.bool false))).fr (Fr.set _ 1 (.int .i64 0))
            have HN' : Hid (g < w2.heap.size ∧ w.heap.size + 1 < w2.heap.size ∧ w.heap.size ≤ w2.heap.size) := by
              obtain ⟨_, _, e, _, _, h2⟩ := HO2.out.form
              cases e
              exact ⟨h2, HD2.out.lt, HB2.out.size⟩
            have c2 := HD2.out.c2
            have z2 := HD2.out.fz 2
            have c1 := HDs.out.c1
            have z1 := HDs.out.fz 1
            have HMx := specMaxE xi 0 (w2.setCell ⟨w.heap.size + 1, 2, none⟩ (.bool false))
            rw [if_neg (by omega)] at HMx
            clear HO2 HB2 HD2 HDs
            go_wp2_with fail
            refine HMx.mono ?_
            rintro r w3 ⟨rfl, rfl⟩
            clear HMx
            obtain ⟨gq, capq, C, eV, hgp', hown, hels⟩ := HO3.out
            cases eV
            have bA := (Below.refl ((w2.setCell ⟨w.heap.size + 1, 2, none⟩ (.bool false)).setCell ⟨w.heap.size + 1, 1, none⟩ (.int .i64 0)).heap.size ((w2.setCell ⟨w.heap.size + 1, 2, none⟩ (.bool false)).setCell ⟨w.heap.size + 1, 1, none⟩ (.int .i64 0))).alloc (Nat.le_refl _) (.cells #[.int .i64 3, .int .i64 0, .string ⟨#[]⟩, .slice none 0 0, .string xs, .slice none 0 0] 25)
            have O4 := hown.alloc (.cells #[.int .i64 3, .int .i64 0, .string ⟨#[]⟩, .slice none 0 0, .string xs, .slice none 0 0] 25)
            have hels4 : ∀ i (hi : i < l.length), ElP (fun b => (w.heap.size ≤ b ∧ b ≠ g) ∧ b ≠ w.heap.size + 1) (((w2.setCell ⟨w.heap.size + 1, 2, none⟩ (.bool false)).setCell ⟨w.heap.size + 1, 1, none⟩ (.int .i64 0)).alloc (.cells #[.int .i64 3, .int .i64 0, .string ⟨#[]⟩, .slice none 0 0, .string xs, .slice none 0 0] 25)) (sixV C i) (l[i]'hi) := fun i hi => (hels i hi).stay (fun b _ h2 => bA.block b h2) bA.size
            have he4 : Hid (ElP (w2.heap.size ≤ ·) (((w2.setCell ⟨w.heap.size + 1, 2, none⟩ (.bool false)).setCell ⟨w.heap.size + 1, 1, none⟩ (.int .i64 0)).alloc (.cells #[.int .i64 3, .int .i64 0, .string ⟨#[]⟩, .slice none 0 0, .string xs, .slice none 0 0] 25)) (.agg #[.int .i64 3, .int .i64 0, .string ⟨#[]⟩, .slice none 0 0, .string xs, .slice none 0 0]) (ElB.mk 3 0 ⟨#[]⟩ [] xs [])) := (ElP.note _ _ 3 xs).stay (fun b _ h2 => bA.block b h2) bA.size
            have F4 : Hid (Below w.heap.size w (((w2.setCell ⟨w.heap.size + 1, 2, none⟩ (.bool false)).setCell ⟨w.heap.size + 1, 1, none⟩ (.int .i64 0)).alloc (.cells #[.int .i64 3, .int .i64 0, .string ⟨#[]⟩, .slice none 0 0, .string xs, .slice none 0 0] 25))) := HB3.out.trans (bA.mono HB3.out.size)
            have D4 : Hid (RdAt (((w2.setCell ⟨w.heap.size + 1, 2, none⟩ (.bool false)).setCell ⟨w.heap.size + 1, 1, none⟩ (.int .i64 0)).alloc (.cells #[.int .i64 3, .int .i64 0, .string ⟨#[]⟩, .slice none 0 0, .string xs, .slice none 0 0] 25)) (w.heap.size + 1) s _ _) := HD3.out.keep bA
            have Hels4 : Hid (∀ i (hi : i < l.length), ElP (fun b => (w.heap.size ≤ b ∧ b ≠ g) ∧ b ≠ w.heap.size + 1) (((w2.setCell ⟨w.heap.size + 1, 2, none⟩ (.bool false)).setCell ⟨w.heap.size + 1, 1, none⟩ (.int .i64 0)).alloc (.cells #[.int .i64 3, .int .i64 0, .string ⟨#[]⟩, .slice none 0 0, .string xs, .slice none 0 0] 25)) (sixV C i) (l[i]'hi)) := hels4
            have hC6 : Hid (C.length = l.length * 6) := hown.1
            clear hels hels4 bA hown
            go_wp2_with (at_builtin; refine wpList_append_at _ rfl (.tmp 56) (.tmp 59) 23 rfl w.heap.size 25 i0 (.agg #[.int .i64 0, .int .i64 0, .string ⟨#[]⟩, .slice none 0 0, .string ⟨#[]⟩, .slice none 0 0]) 6 96 Tryz.underlying23 Hi.out Hz0.out Hz1.out Hz2.out rfl (by decide) _ l.length C rfl O4 ⟨_, 0, none⟩ 1 1 [.int .i64 3, .int .i64 0, .string ⟨#[]⟩, .slice none 0 0, .string xs, .slice none 0 0] rfl rfl (six_cells _ _ _ _ _ _ _ _ _ (by first | rfl | simp | simp [World.setCell])) (by intro u hu; simp only [List.mem_cons, List.not_mem_nil, or_false] at hu; rcases hu with rfl | rfl | rfl | rfl | rfl | rfl <;> rfl) ?x3 ?x4 ?x5 ?_)
            case x3 => unfold maxLen; omega
            case x4 => omega
            case x5 => exact F4.out.size
            intro v' w5 ho5 hg5 hb5
            have HO5 : Hid (RowP (w.heap.size + 1) w5 w.heap.size v' (l ++ [(ElB.mk 3 0 ⟨#[]⟩ [] xs [])])) := RowP.more rfl hgp D4.out.lt hC6.out Hels4.out HN'.out.1 HN'.out.2.1 HN'.out.2.2 he4.out ho5 hg5 (fun b hb => (hb5 b hb).imp (fun h => h) (fun h => by first | exact h | (simp; omega) | (simp [World.setCell]; omega)))
            have HB5 : Hid (Below w.heap.size w w5) := below_own F4.out O4 hg5
            have HD5 : Hid (RdAt w5 (w.heap.size + 1) s _ _) := D4.out.grownP hgp hg5
            have hl1 : (l ++ [(ElB.mk 3 0 ⟨#[]⟩ [] xs [])]).length = l.length + 1 := by simp
            clear ho5 hg5 hb5 O4 F4 D4 Hels4 hC6 he4 HN' HO3 HB3 HD3
            go_wp2_with fail
            refine (take_off s nlS _ _ _ HD5.out).mono ?_
            rintro r w6 ⟨rfl, hD6, hF6⟩
            have HO6 : Hid (RowP (w.heap.size + 1) w6 w.heap.size v' (l ++ [(ElB.mk 3 0 ⟨#[]⟩ [] xs [])])) := HO5.out.fr hF6
            have HB6 : Hid (Below w.heap.size w w6) := HB5.out.trans (hF6.below (by omega) HB5.out.size)
            have HD6 : Hid (RdAt w6 (w.heap.size + 1) s _ false) := hD6
            clear HO5 HB5 HD5 hD6 hF6
            go_wp2_with fail
            go_roundw
            case rel => exact ⟨l ++ [(ElB.mk 3 0 ⟨#[]⟩ [] xs [])], by rw [hl1]; omega, HO6, HB6, .inr ⟨HN, _, HD6⟩⟩
            case measure =>
              rw [rdLeft_off HD6.out, HM.out]
              omega
          · rw [if_neg hx0] at hRk
            obtain ⟨j, rfl, hj1, hj2, hj3⟩ := hxt (by omega)
            have ej : ((j : Nat) : Int).toNat = j := by omega
            rw [ej] at hRk
            have HRj : Hid ((if standsB s j nlS = true then (docL s el f' (j + 1)).map (fun r => (ElB.mk 3 0 ⟨#[]⟩ [] xs []) :: r) else none).map (fun r => l ++ r) = R) := hRk
            have gx : (0 : Int) ≤ (j : Int) := by omega
            have gx' : decide ((0 : Int) ≤ (j : Int)) = true := decide_eq_true gx
            clear hRk hxt
            have HDs : Hid (RdAt (w2.setCell ⟨w.heap.size + 1, 2, none⟩ (.bool true)) (w.heap.size + 1) s (k : Int) true) := HD2.out.set2 true
            have HD3 : Hid (RdAt ((w2.setCell ⟨w.heap.size + 1, 2, none⟩ (.bool true)).setCell ⟨w.heap.size + 1, 1, none⟩ (.int .i64 (j : Int))) (w.heap.size + 1) s (j : Int) true) := HDs.out.set1 _
            have HB3 : Hid (Below w.heap.size w ((w2.setCell ⟨w.heap.size + 1, 2, none⟩ (.bool true)).setCell ⟨w.heap.size + 1, 1, none⟩ (.int .i64 (j : Int)))) := HB2.out.trans (((Fr.set (p := w.heap.size + 1) w2 2 (.bool true)).trans (Fr.set _ 1 (.int .i64 (j : Int)))).below (by omega) HB2.out.size)
            have HO3 : Hid (RowP (w.heap.size + 1) ((w2.setCell ⟨w.heap.size + 1, 2, none⟩ (.bool true)).setCell ⟨w.heap.size + 1, 1, none⟩ (.int .i64 (j : Int))) w.heap.size _ l) := (HO2.out.fr (Fr.set _ 2 (.bool true))).fr (Fr.set _ 1 (.int .i64 (j : Int)))
            have HN' : Hid (g < w2.heap.size ∧ w.heap.size + 1 < w2.heap.size ∧ w.heap.size ≤ w2.heap.size) := by
              obtain ⟨_, _, e, _, _, h2⟩ := HO2.out.form
              cases e
              exact ⟨h2, HD2.out.lt, HB2.out.size⟩
            have c2 := HD2.out.c2
            have z2 := HD2.out.fz 2
            have c1 := HDs.out.c1
            have z1 := HDs.out.fz 1
            have HMx := specMaxE (j : Int) 0 (w2.setCell ⟨w.heap.size + 1, 2, none⟩ (.bool true))
            rw [if_pos (by omega)] at HMx
            clear HO2 HB2 HD2 HDs
            go_wp2_with fail
            refine HMx.mono ?_
            rintro r w3 ⟨rfl, rfl⟩
            clear HMx
            obtain ⟨gq, capq, C, eV, hgp', hown, hels⟩ := HO3.out
            cases eV
            have bA := (Below.refl ((w2.setCell ⟨w.heap.size + 1, 2, none⟩ (.bool true)).setCell ⟨w.heap.size + 1, 1, none⟩ (.int .i64 (j : Int))).heap.size ((w2.setCell ⟨w.heap.size + 1, 2, none⟩ (.bool true)).setCell ⟨w.heap.size + 1, 1, none⟩ (.int .i64 (j : Int)))).alloc (Nat.le_refl _) (.cells #[.int .i64 3, .int .i64 0, .string ⟨#[]⟩, .slice none 0 0, .string xs, .slice none 0 0] 25)
            have O4 := hown.alloc (.cells #[.int .i64 3, .int .i64 0, .string ⟨#[]⟩, .slice none 0 0, .string xs, .slice none 0 0] 25)
            have hels4 : ∀ i (hi : i < l.length), ElP (fun b => (w.heap.size ≤ b ∧ b ≠ g) ∧ b ≠ w.heap.size + 1) (((w2.setCell ⟨w.heap.size + 1, 2, none⟩ (.bool true)).setCell ⟨w.heap.size + 1, 1, none⟩ (.int .i64 (j : Int))).alloc (.cells #[.int .i64 3, .int .i64 0, .string ⟨#[]⟩, .slice none 0 0, .string xs, .slice none 0 0] 25)) (sixV C i) (l[i]'hi) := fun i hi => (hels i hi).stay (fun b _ h2 => bA.block b h2) bA.size
            have he4 : Hid (ElP (w2.heap.size ≤ ·) (((w2.setCell ⟨w.heap.size + 1, 2, none⟩ (.bool true)).setCell ⟨w.heap.size + 1, 1, none⟩ (.int .i64 (j : Int))).alloc (.cells #[.int .i64 3, .int .i64 0, .string ⟨#[]⟩, .slice none 0 0, .string xs, .slice none 0 0] 25)) (.agg #[.int .i64 3, .int .i64 0, .string ⟨#[]⟩, .slice none 0 0, .string xs, .slice none 0 0]) (ElB.mk 3 0 ⟨#[]⟩ [] xs [])) := (ElP.note _ _ 3 xs).stay (fun b _ h2 => bA.block b h2) bA.size
            have F4 : Hid (Below w.heap.size w (((w2.setCell ⟨w.heap.size + 1, 2, none⟩ (.bool true)).setCell ⟨w.heap.size + 1, 1, none⟩ (.int .i64 (j : Int))).alloc (.cells #[.int .i64 3, .int .i64 0, .string ⟨#[]⟩, .slice none 0 0, .string xs, .slice none 0 0] 25))) := HB3.out.trans (bA.mono HB3.out.size)
            have D4 : Hid (RdAt (((w2.setCell ⟨w.heap.size + 1, 2, none⟩ (.bool true)).setCell ⟨w.heap.size + 1, 1, none⟩ (.int .i64 (j : Int))).alloc (.cells #[.int .i64 3, .int .i64 0, .string ⟨#[]⟩, .slice none 0 0, .string xs, .slice none 0 0] 25)) (w.heap.size + 1) s _ _) := HD3.out.keep bA
            have Hels4 : Hid (∀ i (hi : i < l.length), ElP (fun b => (w.heap.size ≤ b ∧ b ≠ g) ∧ b ≠ w.heap.size + 1) (((w2.setCell ⟨w.heap.size + 1, 2, none⟩ (.bool true)).setCell ⟨w.heap.size + 1, 1, none⟩ (.int .i64 (j : Int))).alloc (.cells #[.int .i64 3, .int .i64 0, .string ⟨#[]⟩, .slice none 0 0, .string xs, .slice none 0 0] 25)) (sixV C i) (l[i]'hi)) := hels4
            have hC6 : Hid (C.length = l.length * 6) := hown.1
            clear hels hels4 bA hown
            go_wp2_with (at_builtin; refine wpList_append_at _ rfl (.tmp 56) (.tmp 59) 23 rfl w.heap.size 25 i0 (.agg #[.int .i64 0, .int .i64 0, .string ⟨#[]⟩, .slice none 0 0, .string ⟨#[]⟩, .slice none 0 0]) 6 96 Tryz.underlying23 Hi.out Hz0.out Hz1.out Hz2.out rfl (by decide) _ l.length C rfl O4 ⟨_, 0, none⟩ 1 1 [.int .i64 3, .int .i64 0, .string ⟨#[]⟩, .slice none 0 0, .string xs, .slice none 0 0] rfl rfl (six_cells _ _ _ _ _ _ _ _ _ (by first | rfl | simp | simp [World.setCell])) (by intro u hu; simp only [List.mem_cons, List.not_mem_nil, or_false] at hu; rcases hu with rfl | rfl | rfl | rfl | rfl | rfl <;> rfl) ?x3 ?x4 ?x5 ?_)
            case x3 => unfold maxLen; omega
            case x4 => omega
            case x5 => exact F4.out.size
            intro v' w5 ho5 hg5 hb5
            have HO5 : Hid (RowP (w.heap.size + 1) w5 w.heap.size v' (l ++ [(ElB.mk 3 0 ⟨#[]⟩ [] xs [])])) := RowP.more rfl hgp D4.out.lt hC6.out Hels4.out HN'.out.1 HN'.out.2.1 HN'.out.2.2 he4.out ho5 hg5 (fun b hb => (hb5 b hb).imp (fun h => h) (fun h => by first | exact h | (simp; omega) | (simp [World.setCell]; omega)))
            have HB5 : Hid (Below w.heap.size w w5) := below_own F4.out O4 hg5
            have HD5 : Hid (RdAt w5 (w.heap.size + 1) s _ _) := D4.out.grownP hgp hg5
            have hl1 : (l ++ [(ElB.mk 3 0 ⟨#[]⟩ [] xs [])]).length = l.length + 1 := by simp
            clear ho5 hg5 hb5 O4 F4 D4 Hels4 hC6 he4 HN' HO3 HB3 HD3
            go_wp2_with fail
            cases hnl : standsB s j nlS
            · have HN : Hid (R = none) := by
                show _ = _
                rw [← HRj.out, if_neg (by rw [hnl]; decide)]
                rfl
              clear HRj
              refine (take_no s nlS j _ _ HD5.out (by omega) (by omega) (by decide) hnl).mono ?_
              rintro r w6 ⟨rfl, hD6, hF6⟩
              have HO6 : Hid (RowP (w.heap.size + 1) w6 w.heap.size v' (l ++ [(ElB.mk 3 0 ⟨#[]⟩ [] xs [])])) := HO5.out.fr hF6
              have HB6 : Hid (Below w.heap.size w w6) := HB5.out.trans (hF6.below (by omega) HB5.out.size)
              have HD6 : Hid (RdAt w6 (w.heap.size + 1) s _ false) := hD6
              clear HO5 HB5 HD5 hD6 hF6
              go_wp2_with fail
              go_roundw
              case rel => exact ⟨l ++ [(ElB.mk 3 0 ⟨#[]⟩ [] xs [])], by rw [hl1]; omega, HO6, HB6, .inr ⟨HN, _, HD6⟩⟩
              case measure =>
                rw [rdLeft_off HD6.out, HM.out]
                omega
            · have HRn : Hid ((docL s el f' (j + 1)).map (fun r => (l ++ [(ElB.mk 3 0 ⟨#[]⟩ [] xs [])]) ++ r) = R) := by
                show _ = _
                rw [← HRj.out, if_pos hnl]
                exact (doc_more (x := [(ElB.mk 3 0 ⟨#[]⟩ [] xs [])])).symm
              have hjn := stands_le hnl
              have un : nlS.size = 1 := rfl
              rw [un] at hjn
              clear HRj
              refine (take_yes s nlS j _ _ HD5.out (by omega) (by omega) (by decide) hnl).mono ?_
              rintro r w6 ⟨rfl, hD6, hF6⟩
              rw [un] at hD6
              have HO6 : Hid (RowP (w.heap.size + 1) w6 w.heap.size v' (l ++ [(ElB.mk 3 0 ⟨#[]⟩ [] xs [])])) := HO5.out.fr hF6
              have HB6 : Hid (Below w.heap.size w w6) := HB5.out.trans (hF6.below (by omega) HB5.out.size)
              have HD6 : Hid (RdAt w6 (w.heap.size + 1) s ((j + 1 : Nat) : Int) true) := hD6
              clear HO5 HB5 HD5 hD6 hF6
              go_wp2_with fail
              go_roundw
              case rel => exact ⟨l ++ [(ElB.mk 3 0 ⟨#[]⟩ [] xs [])], by rw [hl1]; omega, HO6, HB6, .inl ⟨f', j + 1, by omega, by omega, by rw [hl1]; omega, HRn, HD6⟩⟩
              case measure =>
                rw [rdLeft_on HD6.out, HM.out]
                omega
      · rw [if_pos (by omega)] at hRk
        have hR : R = some l := by rw [← hRk]; simp
        have k1 : ¬ (k : Int) < (s.size : Int) := by omega
        have k1' : decide ((k : Int) < (s.size : Int)) = false := decide_eq_false k1
        have hsl := HRs.out l hR
        have hN := elsN_le l
        obtain ⟨g', c', e', hkid⟩ := HO.out.kids
        cases e'
        have HDoc := specDocOk l w.heap.size (some ⟨g, 0, none⟩) l.length oc wr hkid.qa rfl (els_small l (by omega)) (by omega)
        have Hr := Hread.out
        rw [hR, finR] at Hr
        have HK : Hid (KidsIn (QP (w.heap.size ≤ ·)) (w.heap.size ≤ ·) wr (some ⟨g, 0, none⟩) l) := hkid
        clear hkid HRk hRk Hread
        cases hd : docF 0 0 l
        · rw [hd] at HDoc Hr
          rw [if_neg (by decide)] at Hr
          go_wp2_with fail
          refine HDoc.mono ?_
          rintro r w2 ⟨rfl, b2⟩
          have HB2 : Hid (Below w.heap.size w w2) := HB.out.trans (b2.mono HB.out.size)
          clear HDoc b2 HB HO HK HD c1 c2
          go_wp2_with fail
          go_ret2
          exact ⟨HB2.out.alloc HB2.out.size _, .inr ⟨Hr, _, rfl⟩⟩
        · rw [hd] at HDoc Hr
          rw [if_pos rfl] at Hr
          go_wp2_with fail
          refine HDoc.mono ?_
          rintro r w2 ⟨rfl, b2⟩
          have HB2 : Hid (Below w.heap.size w w2) := HB.out.trans (b2.mono HB.out.size)
          have HK2 : Hid (KidsIn (QP (w.heap.size ≤ ·)) (w.heap.size ≤ ·) w2 (some ⟨g, 0, none⟩) l) := HK.out.keep (QP.lies _) b2
          clear HDoc b2 HB HO HK HD c1 c2
          go_wp2_with fail
          go_ret2
          exact ⟨HB2.out, .inl ⟨l, g, oc, Hr, rfl, HK2.out⟩⟩
    · have c1 := HD.out.c1
      have c2 := HD.out.c2
      have Hr : readR s = none := by rw [Hread.out, HN.out, finR]
      go_wp2_with fail
      go_ret2
      exact ⟨HB.out.alloc HB.out.size _, .inr ⟨Hr, _, rfl⟩⟩

end Go.Proofs.YtbmmghkieolpkaaGreatDoor.Sg
