/- Contract of the model's Bare. -/
import Derived.Test.YtlnegnikedinaaaBrP
import Derived.Test.YtlnegnikedinaaaCpP
import Derived.Test.YtlnegnikedinaaaGTexts
namespace Go.Proofs.Ytlnegnikedinaaa.Sg
open Go.ChangeShapes Go.WideShapes Go.ChangeAt Go.RowKit

theorem ret_br {a b : Bool} (h : a = b) : Ending.returned (.bool a) = .returned (.bool b) := by rw [h]

set_option maxHeartbeats 1000000 in
theorem specIsT (s : ByteArray) (a : Option Addr) (n cap : Nat) (ls : List ByteArray) (w : World) (h : StrsAt w a ls) (hn : ls.length = n) (hm : n ≤ 1048576) :
    Calls Try.prog 40 #[.string s, .slice a n cap] w fun e w' => e = .returned (.bool (hasT s ls)) ∧ w' = w := by
  have HT : Hid (StrsAt w a ls) := h
  have Hn : Hid (ls.length = n) := hn
  have HR : Hid (hasT s ls = hasT s (ls.drop 0)) := rfl
  generalize hasT s ls = R at *
  clear h hn
  go_enter Try.func40, Try.ntmps40
  go_wp2
  go_loopw [5] (fun kv wr => ∃ k : Nat, k ≤ n ∧ kv = .int .i64 k ∧ Hid (R = hasT s (ls.drop k)) ∧ wr = w) (fun kv _ => n - (intOf kv).toNat)
  case atStart => exact ⟨0, Nat.zero_le _, rfl, HR, rfl⟩
  case round =>
    clear HR
    obtain ⟨k, hk, rfl, HR, rfl⟩ := hrel
    by_cases hlt : k < n
    · have hkl : k < ls.length := by rw [Hn.out]; exact hlt
      rcases HT.out with h | ⟨b, rfl, _, hc⟩
      · rw [h] at hkl
        exact absurd hkl (Nat.not_lt_zero _)
      have c0 := hc k hkl
      have hd := HR.out.trans (hasT_step s ls k hkl)
      have g1 : (k : Int) < (n : Int) := by omega
      have g0 : (0 : Int) ≤ (k : Int) := by omega
      clear hc
      generalize ls.getD k ByteArray.empty = y at *
      cases g2 : (y.toList == s.toList)
      · have Hd : Hid (R = hasT s (ls.drop (k + 1))) := by show _ = _; rw [hd, g2]; rfl
        clear HR hd
        go_wp2_with fail
        go_roundw
        case rel => exact ⟨k + 1, by omega, by go_num, Hd, by first | trivial | rfl⟩
        case measure => simp [intOf]; omega
      · have Hd : Hid (R = true) := by show _ = _; rw [hd, g2]; rfl
        clear HR hd
        go_wp2_with fail
        go_ret
        exact ⟨ret_br Hd.out.symm, rfl⟩
    · have g1 : decide ((k : Int) < (n : Int)) = false := decide_eq_false (by omega)
      have Hd : Hid (R = false) := HR.out.trans (hasT_end s ls k (by rw [Hn.out]; omega))
      clear HR
      go_wp2_with fail
      go_ret
      exact ⟨ret_br Hd.out.symm, rfl⟩

theorem info_strB : (Try.prog.info? 9).map (fun i => (i.zero, i.size, i.bytes)) = some (some (.string ⟨#[]⟩), 1, 16) := by kernel_rfl
theorem empty_strs (w : World) (B : Nat) (h : B ≤ w.heap.size) (t : TypeId) : (w.alloc (.cells #[] t)).ownsRow B t 1 (.slice (some ⟨w.heap.size, 0, none⟩) 0 0) 0 (strCs []) :=
  own_empty h (by show (w.heap.push _)[w.heap.size]? = _; simp)
theorem own_strs {w : World} {base n : Nat} {e : TypeId} {v : Value} {l : List ByteArray} (h : w.ownsRow base e 1 v n (strCs l)) (hn : v ≠ .slice none 0 0) : ∃ g cap, v = .slice (some ⟨g, 0, none⟩) n cap ∧ n ≤ cap ∧ g < w.heap.size ∧ base ≤ g := by
  rcases h.2 with ⟨rfl, h0⟩ | ⟨g, cap, cur, rfl, h3, h4, h5, _⟩
  · exact absurd rfl hn
  · exact ⟨g, cap, rfl, h5, (Array.getElem?_eq_some_iff.1 h4).1, h3⟩
theorem own_strs_cell {w : World} {base g cap n : Nat} {e : TypeId} {l : List ByteArray} (h : w.ownsRow base e 1 (.slice (some ⟨g, 0, none⟩) n cap) n (strCs l)) (hl : l.length = n) {k : Nat} (hk : k < n) : w.cell? ⟨g, k, none⟩ = some (.string (l.getD k ByteArray.empty)) := by
  rw [(own_cell h (j := k) (by omega)).1]
  subst hl
  simp [strCs, List.getD, hk]
theorem part_cells {w w2 : World} {base g oc m : Nat} {e : TypeId} {o : List ByteArray} (h : w.ownsRow base e 1 (.slice (some ⟨g, 0, none⟩) m oc) m (strCs o)) (hl : o.length = m) (hb : Below w.heap.size w w2) (hg : g < w.heap.size) (d t : Nat) : ∀ i u, (strCs ((o.drop d).take t))[i]? = some u → w2.cell? ((⟨g, d, none⟩ : Addr).add i) = some u := by
  intro i u hu
  have e1 : (strCs o)[d + i]? = some u := by
    unfold strCs at hu ⊢
    rw [List.getElem?_map] at hu ⊢
    obtain ⟨y, hy, rfl⟩ := Option.map_eq_some_iff.1 hu
    have := (List.getElem?_eq_some_iff.1 hy).1
    rw [List.length_take] at this
    rw [List.getElem?_take_of_lt (by omega), List.getElem?_drop] at hy
    rw [hy]
    rfl
  have hi : d + i < m := by
    have := (List.getElem?_eq_some_iff.1 e1).1
    rw [strCs_len] at this
    omega
  have e2 : (⟨g, d, none⟩ : Addr).add i = ⟨g, d + i, none⟩ := by unfold Addr.add; by_cases h : i = 0 <;> simp [h]
  rw [e2, (hb.cell hg), (own_cell h (j := d + i) (by omega)).1, e1]
theorem insT_parts {s : ByteArray} {o : List ByteArray} {j m : Nat} (h : lowT s o = j) (hm : o.length = m) : (o.take j ++ [s]) ++ (o.drop j).take (m - j) = insT s o := by
  unfold insT
  have e : (o.drop j).take (m - j) = o.drop j := List.take_of_length_le (by rw [List.length_drop, hm]; exact Nat.le_refl _)
  rw [e, h, List.append_assoc]
  rfl
theorem one_cells (w : World) (x : Value) (t : TypeId) (b : Nat) (hb : b = w.heap.size) : ∀ j u, ([x])[j]? = some u → (w.alloc (.cells #[x] t)).cell? ((⟨b, 0, none⟩ : Addr).add j) = some u := by
  subst hb
  intro j u hj
  match j, hj with
  | 0, hj => simp at hj; subst hj; simp [Addr.add]

set_option maxRecDepth 20000 in
set_option maxHeartbeats 8000000 in
theorem specBare (l : List ItB) (a : Option Addr) (n cap : Nat) (w : World) (ha : ItsAt w a l) (hl : l.length = n) (hn : n ≤ 1048576) :
    Calls Try.prog 19 #[.slice a n cap] w fun e w' => ∃ v, e = .returned v ∧ w'.ownsRow w.heap.size 9 1 v (bareL l).length (strCs (bareL l)) ∧ Below w.heap.size w w' := by
  obtain ⟨i0, hi0, hz0, hz1, hz2⟩ := info_parts info_strB
  have Hi : Hid (Try.prog.info? 9 = some i0) := hi0
  have Hz0 : Hid (i0.zero = some (.string ⟨#[]⟩)) := hz0
  have Hz1 : Hid (i0.size = 1) := hz1
  have Hz2 : Hid (i0.bytes = 16) := hz2
  clear hi0 hz0 hz1 hz2
  have HA : Hid (ItsAt w a l) := ha
  have Hl : Hid (l.length = n) := hl
  have HR : Hid (bareL l = bareF (l.drop 0) []) := rfl
  generalize bareL l = R at *
  have ow0 := empty_strs w w.heap.size (Nat.le_refl _) 9
  have b0 := (Below.refl w.heap.size w).alloc (Nat.le_refl _) (.cells #[] 9)
  clear ha hl
  go_enter Try.func19, Try.ntmps19
  go_wp2_with fail
  go_loopw [3, 4] (fun ov iv wr => ∃ (k m g oc : Nat) (o : List ByteArray), k ≤ n ∧ m ≤ k ∧ m ≤ oc ∧ iv = .int .i64 k ∧ ov = .slice (some ⟨g, 0, none⟩) m oc ∧ Hid (o.length = m) ∧ Hid (R = bareF (l.drop k) o) ∧ Hid (wr.ownsRow w.heap.size 9 1 (.slice (some ⟨g, 0, none⟩) m oc) m (strCs o)) ∧ Hid (Below w.heap.size w wr)) (fun _ iv _ => n - (intOf iv).toNat)
  case atStart => exact ⟨0, 0, w.heap.size, 0, [], Nat.zero_le _, Nat.zero_le _, Nat.zero_le _, rfl, rfl, rfl, HR, ow0, b0⟩
  case round =>
    clear HR ow0 b0
    obtain ⟨k, m, g, oc, o, hk, hm, hmc, rfl, rfl, Hm, HR, HO, HB⟩ := hrel
    have k0 : (0 : Int) ≤ (k : Int) := by omega
    by_cases hlt : k < n
    · have hkl : k < l.length := by rw [Hl.out]; exact hlt
      have k1 : (k : Int) < (n : Int) := by omega
      obtain ⟨b, rfl, c0, _, c2, _, _, _, _⟩ := (HA.out.keep HB.out).get k hkl
      have hst := bareF_step l o k hkl
      have HRs : Hid (R = bareF (l.drop (k + 1)) (if (l[k]'hkl).kd == 2 && !hasT (l[k]'hkl).nm o then insT (l[k]'hkl).nm o else o)) := HR.out.trans hst
      clear hst HR
      generalize (l[k]'hkl).kd = kd at *
      generalize (l[k]'hkl).nm = s at *
      by_cases hkd : kd = 2
      · subst hkd
        have g2 : ((2 : Int) != 2) = false := by decide
        have HT := specIsT s (some ⟨g, 0, none⟩) m oc o wr (by
          obtain ⟨a', c', e', h'⟩ := strs_of_own (by rw [Hm.out]; exact HO.out : wr.ownsRow w.heap.size 9 1 (.slice (some ⟨g, 0, none⟩) m oc) o.length (strCs o))
          cases e'
          exact h') Hm.out (by omega)
        cases hh : hasT s o
        · rw [hh] at HT HRs
          have HRn : Hid (R = bareF (l.drop (k + 1)) (insT s o)) := HRs
          clear HRs
          go_wp2_with fail
          refine HT.mono ?_
          rintro e wr ⟨rfl, rfl⟩
          clear HT
          go_wp2_with fail
          go_loopw [6] (fun jv wz => ∃ j : Nat, j ≤ m ∧ jv = .int .i64 j ∧ Hid (lowT s o = j + lowT s (o.drop j)) ∧ wz = wr) (fun jv _ => m - (intOf jv).toNat)
          case atStart => exact ⟨0, Nat.zero_le _, rfl, by show _ = _; simp, rfl⟩
          case round =>
            obtain ⟨j, hj, rfl, HLo, rfl⟩ := hrel
            have j0 : (0 : Int) ≤ (j : Int) := by omega
            by_cases hjm : j < m
            · have j1 : (j : Int) < (m : Int) := by omega
              have x0 := own_strs_cell HO.out Hm.out hjm
              have hls := lowT_step s o j (by rw [Hm.out]; exact hjm)
              generalize o.getD j ByteArray.empty = y at *
              cases hless : Op.bytesLess y.toList s.toList
              · have HL : Hid (lowT s o = j) := by show _ = _; rw [HLo.out, hls, hless]; rfl
                clear HLo hls
                go_upto_region 10 with fail
                have hj0 : (0 : Int) ≤ (j : Int) := by omega
                have hjm2 : (j : Int) ≤ (m : Int) := by omega
                have hjc : (j : Int) ≤ (oc : Int) := by omega
                have hjc2 : ¬ ((oc : Int) < (j : Int)) := by omega
                obtain ⟨_, _, eo, hmo, hg, _⟩ := own_strs HO.out (by intro h; cases h)
                cases eo
                have OA := empty_strs wr wr.heap.size (Nat.le_refl _) 9
                have BA := (Below.refl wr.heap.size wr).alloc (Nat.le_refl _) (.cells #[] 9)
                have HC1 : Hid (∀ i u, (strCs (o.take j))[i]? = some u → (wr.alloc (.cells #[] 9)).cell? ((⟨g, 0, none⟩ : Addr).add i) = some u) := fun i u hu => part_cells HO.out Hm.out BA hg 0 j i u hu
                have ht : Hid ((strCs (o.take j)).length = j * 1) := by show _ = _; rw [strCs_len, List.length_take, Hm.out]; omega
                go_wp2_with (at_builtin; refine wpList_append_own _ rfl (.tmp 45) (.tmp 48) 40 rfl wr.heap.size 9 i0 (.string ⟨#[]⟩) 1 16 Try.underlying40 Hi.out Hz0.out Hz1.out Hz2.out rfl (by decide) _ 0 (strCs []) rfl OA ⟨g, 0, none⟩ j oc (strCs (o.take j)) rfl ht.out HC1.out (strCs_one _) ?c3 ?c4 ?c5 ?_)
                case c3 => unfold maxLen; omega
                case c4 => omega
                intro v1 w5 own1 grow1 if1
                have B5 : Below wr.heap.size wr w5 := grown_below OA BA (Nat.le_refl _) grow1 BA.size
                rw [← strCs_app, List.nil_append] at own1
                obtain ⟨g1, c1, rfl, _, _, _⟩ := own_strs own1 if1
                have O6 := own1.alloc (.cells #[.string s] 9)
                have B6 := B5.alloc B5.size (.cells #[.string s] 9)
                have HC2 := one_cells w5 (.string s) 9 w5.heap.size rfl
                clear own1 grow1 if1 OA BA HC1
                go_wp2_with (at_builtin; refine wpList_append_own _ rfl (.tmp 50) (.tmp 52) 40 rfl wr.heap.size 9 i0 (.string ⟨#[]⟩) 1 16 Try.underlying40 Hi.out Hz0.out Hz1.out Hz2.out rfl (by decide) _ j (strCs (o.take j)) rfl O6 ⟨w5.heap.size, 0, none⟩ 1 1 (strCs [s]) rfl rfl HC2 (strCs_one _) ?d3 ?d4 ?d5 ?_)
                case d3 => unfold maxLen; omega
                case d4 => omega
                case d5 => exact B6.size
                intro v2 w7 own2 grow2 if2
                have B7 : Below wr.heap.size wr w7 := grown_below O6 B6 (Nat.le_refl _) grow2 B6.size
                rw [← strCs_app] at own2
                obtain ⟨g2, c2, rfl, _, _, _⟩ := own_strs own2 (by simpa using if2)
                have HC3 : Hid (∀ i u, (strCs ((o.drop j).take (m - j)))[i]? = some u → w7.cell? ((⟨g, j, none⟩ : Addr).add i) = some u) := fun i u hu => part_cells HO.out Hm.out B7 hg j (m - j) i u hu
                have ht3 : Hid ((strCs ((o.drop j).take (m - j))).length = (m - j) * 1) := by show _ = _; rw [strCs_len, List.length_take, List.length_drop, Hm.out]; omega
                clear grow2 if2 O6 B6 HC2 B5
                go_wp2_with (at_builtin; refine wpList_append_own _ rfl (.tmp 54) (.tmp 57) 40 rfl wr.heap.size 9 i0 (.string ⟨#[]⟩) 1 16 Try.underlying40 Hi.out Hz0.out Hz1.out Hz2.out rfl (by decide) _ (j + 1) (strCs (o.take j ++ [s])) rfl own2 ⟨g, j, none⟩ (m - j) (oc - j) (strCs ((o.drop j).take (m - j))) rfl ht3.out HC3.out (strCs_one _) ?e3 ?e4 ?e5 ?_)
                case e3 => unfold maxLen; omega
                case e4 => omega
                case e5 => exact B7.size
                intro v3 w8 own3 grow3 if3
                have B8 : Below wr.heap.size wr w8 := grown_below own2 B7 (Nat.le_refl _) grow3 B7.size
                rw [← strCs_app] at own3
                obtain ⟨g3, c3, rfl, hc3, _, _⟩ := own_strs own3 (by simpa using if3)
                have ei : Hid ((o.take j ++ [s]) ++ (o.drop j).take (m - j) = insT s o) := insT_parts HL.out Hm.out
                rw [ei.out] at own3
                have en : j + 1 + (m - j) = m + 1 := by omega
                rw [en] at own3 hc3 ⊢
                have Hm' : Hid ((insT s o).length = m + 1) := by show _ = _; rw [insT_length, Hm.out]
                have HO' : Hid (w8.ownsRow w.heap.size 9 1 (.slice (some ⟨g3, 0, none⟩) (m + 1) c3) (m + 1) (strCs (insT s o))) := own_mono own3 HB.out.size
                have HB' : Hid (Below w.heap.size w w8) := HB.out.trans (B8.mono HB.out.size)
                clear own3 grow3 if3 B8 own2 B7 HC3 ht3 HO HB ei
                go_wp2_with fail
                go_roundw
                case rel => exact ⟨k + 1, m + 1, g3, c3, insT s o, by omega, by omega, hc3, by go_num, rfl, Hm', HRn, HO', HB'⟩
                case measure => simp [intOf]; omega
              · have HL : Hid (lowT s o = j + 1 + lowT s (o.drop (j + 1))) := by show _ = _; rw [HLo.out, hls, hless, if_pos rfl]; omega
                clear HLo hls
                go_wp2_with fail
                go_roundw
                case rel => exact ⟨j + 1, by omega, by go_num, HL, by first | trivial | rfl⟩
                case measure => simp [intOf]; omega
            · have j1 : decide ((j : Int) < (m : Int)) = false := decide_eq_false (by omega)
              have HL : Hid (lowT s o = j) := by show _ = _; rw [HLo.out, lowT_end s o j (by rw [Hm.out]; omega)]; rfl
              clear HLo
              by_cases hoc : oc = j
              · have hmj : m = j := by omega
                subst hmj
                subst hoc
                go_upto_region 10 with fail
                have hj0 : (0 : Int) ≤ (oc : Int) := by omega
                have hjm2 : (oc : Int) ≤ (oc : Int) := by omega
                have hjc : (oc : Int) ≤ (oc : Int) := by omega
                have hjc2 : ¬ ((oc : Int) < (oc : Int)) := by omega
                obtain ⟨_, _, eo, hmo, hg, _⟩ := own_strs HO.out (by intro h; cases h)
                cases eo
                have OA := empty_strs wr wr.heap.size (Nat.le_refl _) 9
                have BA := (Below.refl wr.heap.size wr).alloc (Nat.le_refl _) (.cells #[] 9)
                have HC1 : Hid (∀ i u, (strCs (o.take oc))[i]? = some u → (wr.alloc (.cells #[] 9)).cell? ((⟨g, 0, none⟩ : Addr).add i) = some u) := fun i u hu => part_cells HO.out Hm.out BA hg 0 oc i u hu
                have ht : Hid ((strCs (o.take oc)).length = oc * 1) := by show _ = _; rw [strCs_len, List.length_take, Hm.out]; omega
                go_wp2_with (at_builtin; refine wpList_append_own _ rfl (.tmp 45) (.tmp 48) 40 rfl wr.heap.size 9 i0 (.string ⟨#[]⟩) 1 16 Try.underlying40 Hi.out Hz0.out Hz1.out Hz2.out rfl (by decide) _ 0 (strCs []) rfl OA ⟨g, 0, none⟩ oc oc (strCs (o.take oc)) rfl ht.out HC1.out (strCs_one _) ?c3 ?c4 ?c5 ?_)
                case c3 => unfold maxLen; omega
                case c4 => omega
                intro v1 w5 own1 grow1 if1
                have B5 : Below wr.heap.size wr w5 := grown_below OA BA (Nat.le_refl _) grow1 BA.size
                rw [← strCs_app, List.nil_append] at own1
                obtain ⟨g1, c1, rfl, _, _, _⟩ := own_strs own1 if1
                have O6 := own1.alloc (.cells #[.string s] 9)
                have B6 := B5.alloc B5.size (.cells #[.string s] 9)
                have HC2 := one_cells w5 (.string s) 9 w5.heap.size rfl
                clear own1 grow1 if1 OA BA HC1
                go_wp2_with (at_builtin; refine wpList_append_own _ rfl (.tmp 50) (.tmp 52) 40 rfl wr.heap.size 9 i0 (.string ⟨#[]⟩) 1 16 Try.underlying40 Hi.out Hz0.out Hz1.out Hz2.out rfl (by decide) _ oc (strCs (o.take oc)) rfl O6 ⟨w5.heap.size, 0, none⟩ 1 1 (strCs [s]) rfl rfl HC2 (strCs_one _) ?d3 ?d4 ?d5 ?_)
                case d3 => unfold maxLen; omega
                case d4 => omega
                case d5 => exact B6.size
                intro v2 w7 own2 grow2 if2
                have B7 : Below wr.heap.size wr w7 := grown_below O6 B6 (Nat.le_refl _) grow2 B6.size
                rw [← strCs_app] at own2
                obtain ⟨g2, c2, rfl, hc2, _, _⟩ := own_strs own2 (by simpa using if2)
                have ei : Hid (o.take oc ++ [s] = insT s o) := by
                  have h := insT_parts HL.out Hm.out
                  rw [Nat.sub_self, List.take_zero, List.append_nil] at h
                  exact h
                rw [ei.out] at own2
                have Hm' : Hid ((insT s o).length = oc + 1) := by show _ = _; rw [insT_length, Hm.out]
                have HO' : Hid (w7.ownsRow w.heap.size 9 1 (.slice (some ⟨g2, 0, none⟩) (oc + 1) c2) (oc + 1) (strCs (insT s o))) := own_mono own2 HB.out.size
                have HB' : Hid (Below w.heap.size w w7) := HB.out.trans (B7.mono HB.out.size)
                clear grow2 if2 O6 B6 HC2 B5 own2 B7 HO HB ei
                go_wp2_with fail
                go_roundw
                case rel => exact ⟨k + 1, oc + 1, g2, c2, insT s o, by omega, by omega, hc2, by go_num, by first | rfl | trivial | simp, Hm', HRn, HO', HB'⟩
                case measure => simp [intOf]; omega
              · go_upto_region 10 with fail
                have hj0 : (0 : Int) ≤ (j : Int) := by omega
                have hjm2 : (j : Int) ≤ (m : Int) := by omega
                have hjc : (j : Int) ≤ (oc : Int) := by omega
                have hjc2 : ¬ ((oc : Int) < (j : Int)) := by omega
                obtain ⟨_, _, eo, hmo, hg, _⟩ := own_strs HO.out (by intro h; cases h)
                cases eo
                have OA := empty_strs wr wr.heap.size (Nat.le_refl _) 9
                have BA := (Below.refl wr.heap.size wr).alloc (Nat.le_refl _) (.cells #[] 9)
                have HC1 : Hid (∀ i u, (strCs (o.take j))[i]? = some u → (wr.alloc (.cells #[] 9)).cell? ((⟨g, 0, none⟩ : Addr).add i) = some u) := fun i u hu => part_cells HO.out Hm.out BA hg 0 j i u hu
                have ht : Hid ((strCs (o.take j)).length = j * 1) := by show _ = _; rw [strCs_len, List.length_take, Hm.out]; omega
                go_wp2_with (at_builtin; refine wpList_append_own _ rfl (.tmp 45) (.tmp 48) 40 rfl wr.heap.size 9 i0 (.string ⟨#[]⟩) 1 16 Try.underlying40 Hi.out Hz0.out Hz1.out Hz2.out rfl (by decide) _ 0 (strCs []) rfl OA ⟨g, 0, none⟩ j oc (strCs (o.take j)) rfl ht.out HC1.out (strCs_one _) ?c3 ?c4 ?c5 ?_)
                case c3 => unfold maxLen; omega
                case c4 => omega
                intro v1 w5 own1 grow1 if1
                have B5 : Below wr.heap.size wr w5 := grown_below OA BA (Nat.le_refl _) grow1 BA.size
                rw [← strCs_app, List.nil_append] at own1
                obtain ⟨g1, c1, rfl, _, _, _⟩ := own_strs own1 if1
                have O6 := own1.alloc (.cells #[.string s] 9)
                have B6 := B5.alloc B5.size (.cells #[.string s] 9)
                have HC2 := one_cells w5 (.string s) 9 w5.heap.size rfl
                clear own1 grow1 if1 OA BA HC1
                go_wp2_with (at_builtin; refine wpList_append_own _ rfl (.tmp 50) (.tmp 52) 40 rfl wr.heap.size 9 i0 (.string ⟨#[]⟩) 1 16 Try.underlying40 Hi.out Hz0.out Hz1.out Hz2.out rfl (by decide) _ j (strCs (o.take j)) rfl O6 ⟨w5.heap.size, 0, none⟩ 1 1 (strCs [s]) rfl rfl HC2 (strCs_one _) ?d3 ?d4 ?d5 ?_)
                case d3 => unfold maxLen; omega
                case d4 => omega
                case d5 => exact B6.size
                intro v2 w7 own2 grow2 if2
                have B7 : Below wr.heap.size wr w7 := grown_below O6 B6 (Nat.le_refl _) grow2 B6.size
                rw [← strCs_app] at own2
                obtain ⟨g2, c2, rfl, _, _, _⟩ := own_strs own2 (by simpa using if2)
                have HC3 : Hid (∀ i u, (strCs ((o.drop j).take (m - j)))[i]? = some u → w7.cell? ((⟨g, j, none⟩ : Addr).add i) = some u) := fun i u hu => part_cells HO.out Hm.out B7 hg j (m - j) i u hu
                have ht3 : Hid ((strCs ((o.drop j).take (m - j))).length = (m - j) * 1) := by show _ = _; rw [strCs_len, List.length_take, List.length_drop, Hm.out]; omega
                clear grow2 if2 O6 B6 HC2 B5
                go_wp2_with (at_builtin; refine wpList_append_own _ rfl (.tmp 54) (.tmp 57) 40 rfl wr.heap.size 9 i0 (.string ⟨#[]⟩) 1 16 Try.underlying40 Hi.out Hz0.out Hz1.out Hz2.out rfl (by decide) _ (j + 1) (strCs (o.take j ++ [s])) rfl own2 ⟨g, j, none⟩ (m - j) (oc - j) (strCs ((o.drop j).take (m - j))) rfl ht3.out HC3.out (strCs_one _) ?e3 ?e4 ?e5 ?_)
                case e3 => unfold maxLen; omega
                case e4 => omega
                case e5 => exact B7.size
                intro v3 w8 own3 grow3 if3
                have B8 : Below wr.heap.size wr w8 := grown_below own2 B7 (Nat.le_refl _) grow3 B7.size
                rw [← strCs_app] at own3
                obtain ⟨g3, c3, rfl, hc3, _, _⟩ := own_strs own3 (by simpa using if3)
                have ei : Hid ((o.take j ++ [s]) ++ (o.drop j).take (m - j) = insT s o) := insT_parts HL.out Hm.out
                rw [ei.out] at own3
                have en : j + 1 + (m - j) = m + 1 := by omega
                rw [en] at own3 hc3 ⊢
                have Hm' : Hid ((insT s o).length = m + 1) := by show _ = _; rw [insT_length, Hm.out]
                have HO' : Hid (w8.ownsRow w.heap.size 9 1 (.slice (some ⟨g3, 0, none⟩) (m + 1) c3) (m + 1) (strCs (insT s o))) := own_mono own3 HB.out.size
                have HB' : Hid (Below w.heap.size w w8) := HB.out.trans (B8.mono HB.out.size)
                clear own3 grow3 if3 B8 own2 B7 HC3 ht3 HO HB ei
                go_wp2_with fail
                go_roundw
                case rel => exact ⟨k + 1, m + 1, g3, c3, insT s o, by omega, by omega, hc3, by go_num, rfl, Hm', HRn, HO', HB'⟩
                case measure => simp [intOf]; omega
        · rw [hh] at HT HRs
          have HRn : Hid (R = bareF (l.drop (k + 1)) o) := HRs
          clear HRs
          go_wp2_with fail
          refine HT.mono ?_
          rintro e wr ⟨rfl, rfl⟩
          clear HT
          go_wp2_with fail
          go_roundw
          case rel => exact ⟨k + 1, m, g, oc, o, by omega, by omega, hmc, by go_num, rfl, Hm, HRn, HO, HB⟩
          case measure => simp [intOf]; omega
      · have g2 : (kd != 2) = true := by simp [hkd]
        have g2' : (kd == 2) = false := by simp [hkd]
        rw [g2'] at HRs
        have HRn : Hid (R = bareF (l.drop (k + 1)) o) := HRs
        clear HRs
        go_wp2_with fail
        go_roundw
        case rel => exact ⟨k + 1, m, g, oc, o, by omega, by omega, hmc, by go_num, rfl, Hm, HRn, HO, HB⟩
        case measure => simp [intOf]; omega
    · have hkn : k = n := by omega
      subst hkn
      have g1 : decide ((k : Int) < (k : Int)) = false := by simp
      have Hn : o = R := by
        rw [HR.out, List.drop_of_length_le (by rw [Hl.out]; exact Nat.le_refl _)]
        rfl
      subst Hn
      have ow := HO.out
      rw [← Hm.out] at ow ⊢
      clear HR HO
      go_wp2_with fail
      go_ret
      exact ⟨_, rfl, ow, HB.out⟩

end Go.Proofs.Ytlnegnikedinaaa.Sg
