/- Contract of the program's Bare. -/
import Derived.Test.YtlnegnikedinaaaBrImplP
import Derived.Test.YtlnegnikedinaaaBrSpec
import Derived.Test.YtlnegnikedinaaaShelf
import Derived.Sort.OwnSorted
namespace Go.Proofs.Ytlnegnikedinaaa.Sg
open Go.ChangeShapes Go.WideShapes Go.ChangeAt Go.RowKit Go.Sort

set_option maxRecDepth 100000 in
set_option maxHeartbeats 8000000 in
theorem implBare (l : List ItB) (a : Option Addr) (n cap : Nat) (w : World) (ha : ItsAt w a l) (hl : l.length = n) (hn : n ≤ 1048576) :
    Calls Try.prog 21 #[.slice a n cap] w fun e w' => ∃ v, e = .returned v ∧ w'.ownsRow w.heap.size 9 1 v (bareL l).length (strCs (bareL l)) ∧ Below w.heap.size w w' := by
  obtain ⟨i0, hi, hz0, hz1, hz2⟩ := info_parts info_strB
  have HA : Hid (ItsAt w a l) := ha
  have Hl : Hid (l.length = n) := hl
  have HR : Hid (Lib.compact ((namesL l).mergeSort fun x y => decide (x ≤ y)) = (bareL l).map dL) := bare_is l
  generalize bareL l = R at *
  clear ha hl
  go_enter Try.func21, Try.ntmps21
  go_wp2_with fail
  go_loopw [3, 8] (fun ov iv wr => ∃ (k m : Nat) (ss : List (List UInt8)), k ≤ n ∧ m ≤ k ∧ iv = .int .i64 k ∧ Hid (ss.length = m) ∧ Hid (ss = namesL (l.take k)) ∧ Hid (wr.ownsRow w.heap.size 9 1 ov m (ss.map Go.Proofs.encStr)) ∧ Hid (Below w.heap.size w wr)) (fun _ iv _ => n - (intOf iv).toNat)
  case atStart => exact ⟨0, 0, [], Nat.zero_le _, Nat.zero_le _, rfl, rfl, rfl, ⟨rfl, .inl ⟨rfl, rfl⟩⟩, Below.refl _ _⟩
  case round =>
    obtain ⟨k, m, ss, hk, hm, rfl, Hm, HS, HO, HB⟩ := hrel
    have k0 : (0 : Int) ≤ (k : Int) := by omega
    by_cases hlt : k < n
    · have hkl : k < l.length := by rw [Hl.out]; exact hlt
      have k1 : (k : Int) < (n : Int) := by omega
      obtain ⟨b, rfl, c0, c1, c2, ⟨sv, c3, hsv⟩, c4, c5, ⟨kv, c6, hkv⟩⟩ := (HA.out.keep HB.out).get k hkl
      obtain ⟨xa, xc, rfl, _⟩ := hsv
      obtain ⟨ya, yc, rfl, _⟩ := hkv
      have HSs : Hid (namesL (l.take (k + 1)) = ss ++ if (l[k]'hkl).kd == 2 then [dL (l[k]'hkl).nm] else []) := by show _ = _; rw [namesL_step l k hkl, ← HS.out]
      generalize (l[k]'hkl).ats.length = n1 at *
      generalize (l[k]'hkl).kids.length = n2 at *
      generalize (l[k]'hkl).kd = kd at *
      generalize (l[k]'hkl).sp = sp at *
      generalize (l[k]'hkl).nm = nm at *
      generalize (l[k]'hkl).tx = tx at *
      generalize (l[k]'hkl).up = up at *
      clear HS
      by_cases hkd : kd = 2
      · subst hkd
        have HSn : Hid (ss ++ [dL nm] = namesL (l.take (k + 1))) := HSs.out.symm
        have Hmn : Hid ((ss ++ [dL nm]).length = m + 1) := by show _ = _; rw [List.length_append, Hm.out]; rfl
        have hbs := HB.out.size
        have hO := HO.out
        have hone : ∀ y ∈ [Go.Proofs.encStr (dL nm)], y.oneCell' = true := by simp [Value.oneCell', Go.Proofs.encStr]
        have h63 : m + 1 ≤ maxLen := by unfold maxLen; omega
        have hbyt : (m + 1) * 16 ≤ 140737488355328 := by omega
        clear HSs
        go_wp2_with (first
          | (at_builtin; refine wpList_append_own _ rfl _ _ 40 rfl w.heap.size 9 i0 (.string ⟨#[]⟩) 1 16 Try.underlying40 hi hz0 hz1 hz2 rfl (by decide) _ _ _ rfl ((hO.alloc _).alloc _) ⟨wr.heap.size + 1, 0, none⟩ 1 1 [Go.Proofs.encStr (dL nm)] rfl rfl (one_cells _ _ _ _ (by simp)) hone h63 hbyt (by simp; omega) ?_; intro v3 w3 o3 g3 hnil3)
          | go_in)
        have B2 : Below w.heap.size w ((wr.alloc (.cells #[.int .i64 2, .int .i64 sp, .string nm, .slice xa n1 xc, .string tx, .int .i64 up, .slice ya n2 yc] 50)).alloc (.cells #[.string nm] 9)) := (HB.out.alloc hbs _).alloc (by simp; omega) _
        have B3 : Hid (Below w.heap.size w w3) := grown_below ((hO.alloc _).alloc _) B2 (Nat.le_refl _) g3 (by simp; omega)
        have O3 : Hid (w3.ownsRow w.heap.size 9 1 v3 (m + 1) ((ss ++ [dL nm]).map Go.Proofs.encStr)) := by show World.ownsRow _ _ _ _ _ _ _; rw [List.map_append]; exact o3
        clear o3 g3 hO B2 hone hnil3
        go_roundw
        case rel => exact ⟨k + 1, m + 1, _, by omega, by omega, by go_num, Hmn, HSn, O3, B3⟩
        case measure => simp [intOf]; omega
      · have g2 : (kd == 2) = false := by simpa using hkd
        have HSn : Hid (ss = namesL (l.take (k + 1))) := by show _ = _; rw [HSs.out, g2]; simp
        have hbs := HB.out.size
        have B3 : Hid (Below w.heap.size w (wr.alloc (.cells #[.int .i64 kd, .int .i64 sp, .string nm, .slice xa n1 xc, .string tx, .int .i64 up, .slice ya n2 yc] 50))) := HB.out.alloc hbs _
        have O3 : Hid ((wr.alloc (.cells #[.int .i64 kd, .int .i64 sp, .string nm, .slice xa n1 xc, .string tx, .int .i64 up, .slice ya n2 yc] 50)).ownsRow w.heap.size 9 1 u3 m (ss.map Go.Proofs.encStr)) := HO.out.alloc _
        clear HSs
        go_wp2_with fail
        go_roundw
        case rel => exact ⟨k + 1, m, _, by omega, by omega, by go_num, Hm, HSn, O3, B3⟩
        case measure => simp [intOf]; omega
    · have g1 : decide ((k : Int) < (n : Int)) = false := decide_eq_false (by omega)
      have HSn : Hid (ss = namesL l) := by show _ = _; rw [HS.out, List.take_of_length_le (by rw [Hl.out]; omega)]
      have hmm : m ≤ 1048576 := by omega
      rcases HO.out.2 with ⟨rfl, h0⟩ | ⟨g, oc, cur, rfl, hbase, hb, h1, h2, h3, h4⟩
      · subst h0
        have hnil : ss = [] := List.eq_nil_of_length_eq_zero Hm.out
        have hR : R = [] := by
          have h := HR.out
          rw [← HSn.out, hnil] at h
          have h2 : R.map dL = [] := by rw [← h]; simp [Lib.compact, Lib.compactUpTo]
          exact List.map_eq_nil_iff.1 h2
        have C1 := Try.slices_Sort_string_none none 0 wr
        have C2 := Try.slices_Compact_string_empty none 0 wr
        go_wp2_with fail
        refine C1.mono ?_
        rintro e wr ⟨rfl, rfl⟩
        clear C1
        go_wp2_with fail
        refine C2.mono ?_
        rintro e wr ⟨rfl, rfl⟩
        clear C2
        go_wp2_with fail
        go_ret
        refine ⟨_, rfl, ?_, HB.out⟩
        rw [hR]
        exact ⟨rfl, .inl ⟨rfl, rfl⟩⟩
      · have h1' : ss.length ≤ oc := by rw [Hm.out]; exact h1
        have hH : Holds Go.Proofs.encStr wr g 0 ss.toArray := holds_of_block hb (by rw [Hm.out]; simpa using h4)
        have hgl : g < wr.heap.size := (Array.getElem?_eq_some_iff.1 hb).1
        have C1 := Try.slices_Sort_string g 0 oc ss wr hH hgl (by rw [Hm.out]; omega)
        rw [Hm.out] at C1
        obtain ⟨zs, HZ⟩ : ∃ zs, Hid (zs = ss.mergeSort fun x y => decide (x ≤ y)) := ⟨_, rfl⟩
        rw [← HZ.out] at C1
        have hzl : zs.length = ss.length := by rw [HZ.out]; simp
        have C2 : ∀ nn os, Calls Try.prog 43 #[.slice (some ⟨g, 0, none⟩) m oc] (grow (putRow Go.Proofs.encStr (Sort.ahead wr nn) g 0 zs.toArray) os) fun e w' => e = .returned (.slice (some ⟨g, 0, none⟩) R.length oc) ∧ w'.ownsRow w.heap.size 9 1 (.slice (some ⟨g, 0, none⟩) R.length oc) R.length (strCs R) ∧ Below w.heap.size w w' := by
          intro nn os
          have hrow := ownsRow_sorted (n := nn) (os := os) hzl hbase hb h1' h2 h3
          have hbel : Below w.heap.size w (grow (putRow Go.Proofs.encStr (Sort.ahead wr nn) g 0 zs.toArray) os) := HB.out.grown (grownBy_sorted _) HB.out.size (fun j hj => by cases hj; exact hbase)
          generalize grow (putRow Go.Proofs.encStr (Sort.ahead wr nn) g 0 zs.toArray) os = W at *
          rcases hrow.2 with ⟨hv, _⟩ | ⟨g', oc', cur', hv, hbase', hb', e1, e2, e3, e4⟩
          · cases hv
          cases hv
          have hH' : Holds Go.Proofs.encStr W g 0 zs.toArray := holds_of_block hb' (by rw [hzl]; simpa using e4)
          have C := Try.slices_Compact_string g 0 oc zs W hH' (by rw [hzl, Hm.out]; omega) (by rw [hzl]; exact e1)
          rw [hzl, Hm.out] at C
          refine C.mono ?_
          have hcl := compact_len zs
          have hcR : Lib.compact zs = R.map dL := by rw [HZ.out, HSn.out]; exact HR.out
          have hcRl : (Lib.compact zs).length = R.length := by rw [hcR, List.length_map]
          rintro e w' ⟨rfl, q, rfl⟩
          have hl2 : (Lib.compact zs ++ List.replicate (m - (Lib.compact zs).length) ([] : List UInt8)).length = zs.length := by
            have := Hm.out
            rw [List.length_append, List.length_replicate]
            omega
          have ho := ownsRow_sorted (n := q) (os := #[]) (ss := zs) (ts := Lib.compact zs ++ List.replicate (m - (Lib.compact zs).length) ([] : List UInt8)) hl2 hbase hb' (by rw [hzl]; exact e1) e2 e3
          have hg : W.grownBy (grow (putRow Go.Proofs.encStr (Sort.ahead W q) g 0 (Lib.compact zs ++ List.replicate (m - (Lib.compact zs).length) ([] : List UInt8)).toArray) #[]) (some g) := grownBy_sorted _
          rw [grow_empty] at ho hg
          refine ⟨by rw [hcRl], ?_, hbel.grown hg hbel.size (fun j hj => by cases hj; exact hbase)⟩
          have hc := owns_cut ho (m := R.length) (by rw [← hcRl]; exact hcl)
          rw [List.map_append, List.take_left' (by rw [List.length_map, hcRl]), hcR, enc_dL] at hc
          rw [hcR] at *
          exact hc
        clear hH h1 h1' h2 h3 h4 hb hbase hgl hzl HO
        go_wp2_with fail
        refine C1.mono ?_
        rintro e w1 ⟨rfl, nn, os, rfl⟩
        clear C1
        replace C2 := C2 nn os
        generalize grow (putRow Go.Proofs.encStr (Sort.ahead wr nn) g 0 zs.toArray) os = W at *
        go_wp2_with fail
        refine C2.mono ?_
        rintro e w2 ⟨rfl, o2, b2⟩
        have HO2 : Hid (w2.ownsRow w.heap.size 9 1 (.slice (some ⟨g, 0, none⟩) R.length oc) R.length (strCs R)) := o2
        have HB2 : Hid (Below w.heap.size w w2) := b2
        clear C2 o2 b2
        go_wp2_with fail
        go_ret
        exact ⟨_, rfl, HO2.out, HB2.out⟩

end Go.Proofs.Ytlnegnikedinaaa.Sg
