/- Contract of the model's XmlText. -/
import Derived.Test.YthipdkagkdnaiaaGreatDoorMRD09
import Derived.Test.YthipdkagkdnaiaaGreatDoorXmP
import Derived.Test.YthipdkagkdnaiaaGreatDoorSgGetS
import Derived.Deep.Cut
import Derived.Deep.CutRange
import Derived.Lib.QuietBelow
import Derived.BigQuiet
import Derived.Laws.DeepStrings4
namespace Go.Proofs.YthipdkagkdnaiaaGreatDoor.Sg
open Go.ChangeShapes Go.WideShapes Go.ChangeAt Go.RowKit

/-- What the model's XmlText hands back. -/
def textV : Option (List UInt8 × Nat) → Value
  | none => .tuple #[.string ⟨#[]⟩, .int .i64 (-1)]
  | some r => .tuple #[.string (strB r.1), .int .i64 (r.2 : Int)]
theorem findL_in (b : UInt8) (l : List UInt8) : l.contains b = (findL b l).isSome := by
  induction l with
  | nil => rfl
  | cons x l ih =>
    rw [List.contains_cons, ih]
    show _ = (if x = b then some 0 else Option.map (· + 1) (findL b l)).isSome
    by_cases h : x = b
    · rw [if_pos h, h]
      simp
    · rw [if_neg h]
      have : (b == x) = false := by rw [beq_eq_false_iff_ne]; exact fun e => h e.symm
      rw [this]
      cases findL b l <;> rfl

set_option maxHeartbeats 1000000 in
theorem specXmlText_out (s : ByteArray) (at' : Int) (e0 : ByteArray) (w : World) (h : at' < 0 ∨ (s.size : Int) < at') :
    Calls Tryz.prog 70 #[.string s, .int .i64 at', .string e0] w fun e w' => e = .returned (.tuple #[.string ⟨#[]⟩, .int .i64 (-1)]) ∧ w' = w := by
  by_cases h0 : at' < 0
  · have g0 : decide (at' < 0) = true := decide_eq_true h0
    clear h
    go_enter Tryz.func70, Tryz.ntmps70
    go_wp2_with fail
    go_ret2
    exact ⟨rfl, rfl⟩
  · have g0 : decide (at' < 0) = false := decide_eq_false h0
    have g1 : decide ((s.size : Int) < at') = true := decide_eq_true (by omega)
    clear h
    go_enter Tryz.func70, Tryz.ntmps70
    go_wp2_with fail
    go_ret2
    exact ⟨rfl, rfl⟩

theorem map_none {acc : List UInt8} {x : Option (List UInt8 × Nat)} (h : x = none) : x.map (fun r => (acc ++ r.1, r.2)) = none := by rw [h]; rfl
theorem map_more {acc t : List UInt8} {x y : Option (List UInt8 × Nat)} (h : x = y.map (fun r => (t ++ r.1, r.2))) : x.map (fun r => (acc ++ r.1, r.2)) = y.map (fun r => ((acc ++ t) ++ r.1, r.2)) := by
  rw [h]
  cases y with
  | none => rfl
  | some r => simp

set_option maxRecDepth 20000 in
set_option maxHeartbeats 8000000 in
theorem specXmlText_in (s : ByteArray) (a : Nat) (e0 : ByteArray) (w : World) (ha : a ≤ s.size) (hs : s.size ≤ 1099511627776) (he : e0.size ≤ 1099511627776) :
    Calls Tryz.prog 70 #[.string s, .int .i64 (a : Int), .string e0] w fun e w' => e = .returned (textV (xtextR s e0.data.toList a)) ∧ Below w.heap.size w w' := by
  obtain ⟨R, HR⟩ : ∃ R, Hid (xtextR s e0.data.toList a = R) := ⟨_, rfl⟩
  rw [HR.out]
  obtain ⟨i0, hi0, hz0, hz1, hz2⟩ := info_parts info_byte
  have Hi : Hid (Tryz.prog.info? 5 = some i0) := hi0
  have Hz0 : Hid (i0.zero = some (.int .u8 0)) := hz0
  have Hz1 : Hid (i0.size = 1) := hz1
  have Hz2 : Hid (i0.bytes = 1) := hz2
  clear hi0 hz0 hz1 hz2
  have g0 : decide ((a : Int) < 0) = false := decide_eq_false (by omega)
  have g1 : decide ((s.size : Int) < (a : Int)) = false := decide_eq_false (by omega)
  have g2 : decide (s.size < a) = false := decide_eq_false (by omega)
  go_enter Tryz.func70, Tryz.ntmps70
  go_wp2_with fail
  go_loopw [8, 9] (fun v i wr => ∃ (k : Nat) (acc : List UInt8), a ≤ k ∧ k ≤ s.size ∧ acc.length ≤ 4 * (k - a) ∧ i = .int .i64 (k : Int) ∧ wr.ownsRow w.heap.size 5 1 v acc.length (Lib.byteCells acc) ∧ Below w.heap.size w wr ∧ Hid ((xtextR s e0.data.toList k).map (fun r => (acc ++ r.1, r.2)) = R)) (fun _ i _ => s.size - (intOf i).toNat)
  case atStart =>
    refine ⟨a, [], Nat.le_refl _, ha, Nat.zero_le _, rfl, ⟨rfl, .inr ⟨w.heap.size, 0, #[], rfl, Nat.le_refl _, ?_, Nat.le_refl _, Nat.zero_le _, rfl, rfl⟩⟩, (Below.refl _ _).alloc (Nat.le_refl _) _, ?_⟩
    · show (w.heap.push _)[w.heap.size]? = _
      simp
    · show _ = _
      rw [HR.out]
      cases R <;> simp
  case round =>
    obtain ⟨k, acc, hak, hk, hal, rfl, hown, hbel, HK⟩ := hrel
    clear g0 g1 g2 HR
    have q0 : (0 : Int) ≤ (k : Int) := by omega
    by_cases hlt : k < s.size
    · have Hf := fun W => specFind e0 0 (s[k]'hlt) W (Nat.zero_le _) (by omega)
      rw [findE_zero] at Hf
      have gl : (k : Int) < (s.size : Int) := by omega
      cases hr : findL (s[k]'hlt) e0.data.toList with
      | some q =>
        have HX := xtextR_stop hlt (by rw [findL_in, hr]; rfl)
        obtain rfl : some (acc, k) = R := by
          rw [← HK.out, HX]
          simp
        have hbk := own_back hown
        clear HX HK hown
        rw [hr] at Hf
        clear hr
        go_wp2_with fail
        refine (Hf _).mono ?_
        rintro e w1 ⟨rfl, rfl⟩
        simp only [findV]
        have gq : decide ((q : Int) < 0) = false := decide_eq_false (by omega)
        go_wp2_with fail
        go_ret2
        exact ⟨rfl, hbel⟩
      | none =>
        rw [hr] at Hf
        go_wp2_with fail
        refine (Hf _).mono ?_
        rintro e w0 ⟨rfl, rfl⟩
        simp only [findV]
        clear Hf
        by_cases h38 : (s[k]'hlt).toNat = 38
        · have g38 : (((s[k]'hlt).toNat : Int) == 38) = true := by rw [h38]; rfl
          have Hr := fun W => specXmlRef_in s k W hlt (by omega)
          have hno : e0.data.toList.contains (s[k]'hlt) = false := by rw [findL_in, hr]; rfl
          have h38' : s[k]'hlt = 38 := UInt8.toNat_inj.1 h38
          clear hr
          cases hx : xrefR s k with
          | none =>
            have HX := xtextR_none hlt hno h38' hx
            rw [hx] at Hr
            obtain rfl : none = R := (map_none HX).symm.trans HK.out
            clear HX HK
            clear hx h38 h38' hno
            go_wp2_with fail
            refine (Hr _).mono ?_
            rintro e w1 ⟨rfl, b1⟩
            simp only [xrefV]
            go_wp2_with fail
            go_ret2
            exact ⟨rfl, below_from hbel b1⟩
          | some tj =>
            obtain ⟨t, j⟩ := tj
            have HX := xtextR_ref hlt hno h38' hx
            have hl := xrefR_le hx
            rw [hx] at Hr
            clear hx h38 h38' hno
            go_wp2_with fail
            refine (Hr _).mono ?_
            rintro e w1 ⟨rfl, b1⟩
            simp only [xrefV]
            have gj : decide ((j : Int) < 0) = false := decide_eq_false (by omega)
            replace hown := owns_below hown (Nat.le_refl _) b1
            replace hbel := below_from hbel b1
            clear b1
            have HX2 : Hid ((xtextR s e0.data.toList j).map (fun r => ((acc ++ t.data.toList) ++ r.1, r.2)) = R) := (map_more HX).symm.trans HK.out
            clear HX HK
            generalize hts : t.data.toList = tl at *
            have Hts : Hid ((t).size = tl.length) := by show _ = _; rw [← hts, Array.length_toList]; rfl
            have Htd : Hid ((t).data.toList = tl) := hts
            clear hts
            obtain ⟨cap', W, hrun, hbW, hszW, hcW⟩ := conv_bytes w1 (t)
            have hownW : W.ownsRow w.heap.size 5 1 _ acc.length (Lib.byteCells acc) := owns_below hown (Nat.le_refl _) hbW
            have hbelW : Below w.heap.size w W := below_from hbel hbW
            rw [Htd.out] at hcW
            have HcW : Hid (∀ j u, (Lib.byteCells tl)[j]? = some u → W.cell? ((⟨w1.heap.size, 0, none⟩ : Addr).add j) = some u) := hcW
            clear hcW hbW hown hbel
            go_wp2_with (at_builtin; refine wpList_append_own _ rfl (.tmp 48) (.tmp 50) 78 rfl w.heap.size 5 i0 (.int .u8 0) 1 1 Tryz.underlying78 Hi.out Hz0.out Hz1.out Hz2.out rfl (by decide) _ acc.length (Lib.byteCells acc) rfl hownW ⟨w1.heap.size, 0, none⟩ t.size cap' (Lib.byteCells tl) rfl ?c1 HcW.out byteCells_one ?c3 ?c4 hbelW.size ?_)
            case c1 => rw [Lib.byteCells_length, Nat.mul_one]; exact Hts.out.symm
            case c3 => unfold maxLen; omega
            case c4 => omega
            intro v' w2 hown' hgrow _
            have hbel2 : Below w.heap.size w w2 := own_grown hownW hbelW (Nat.le_refl _) hgrow hbelW.size
            have hown2 : w2.ownsRow w.heap.size 5 1 v' (acc ++ tl).length (Lib.byteCells (acc ++ tl)) := by
              have e1 : (acc ++ tl).length = acc.length + t.size := by rw [List.length_append, ← Hts.out]
              have e2 : Lib.byteCells (acc ++ tl) = Lib.byteCells acc ++ Lib.byteCells tl := by simp [Lib.byteCells]
              rw [e1, e2]
              exact hown'
            clear hown' hgrow hownW hbelW hrun
            go_wp2_with fail
            go_roundw
            case rel => exact ⟨j, acc ++ tl, by omega, by omega, by rw [List.length_append, ← Hts.out]; omega, by go_num, hown2, hbel2, HX2⟩
            case measure => simp [intOf]; omega
        · have g38 : (((s[k]'hlt).toNat : Int) == 38) = false := by rw [beq_eq_false_iff_ne]; omega
          have hno : e0.data.toList.contains (s[k]'hlt) = false := by rw [findL_in, hr]; rfl
          have h38' : ¬ s[k]'hlt = 38 := fun h => h38 (by rw [h]; rfl)
          clear hr h38
          have hm := getS_many s k hlt
          have hsg : xsignB s k = (textB ((getS s k).1 : Int) && (decide ((getS s k).1 ≠ 13) && (decide ((getS s k).1 ≠ 60) && (asRead s k && !standsB s k closeB)))) := rfl
          have har : asRead s k = ((putS ((getS s k).1 : Int)).toList == (s.extract k (k + (getS s k).2)).toList) := rfl
          have Hg := fun W => specGet_in s k W hlt (by omega)
          generalize hn : (getS s k).1 = n at *
          generalize hmm : (getS s k).2 = m at *
          have q3 : IntKind.i64.wrap ((k : Int) + (m : Int)) = (k : Int) + (m : Int) := IntWalk.i64_in _ (by omega)
          have q4 : (k : Int) ≤ (k : Int) + (m : Int) := by omega
          have q5 : (k : Int) + (m : Int) ≤ (s.size : Int) := by omega
          have q6 : (0 : Int) ≤ (k : Int) + (m : Int) := by omega
          have q7 : ((k : Int) + (m : Int)).toNat = k + m := by omega
          have q8 : (0 : Int) ≤ (k : Int) := by omega
          go_wp2_with fail
          refine (Hg _).mono ?_
          rintro e w1 ⟨rfl, rfl⟩
          clear Hg
          go_upto_region 13 with fail
          have HT : ∀ W, Calls Tryz.prog 94 #[.int .i64 (n : Int)] W fun e w' => e = .returned (.bool (textB (n : Int))) ∧ Below W.heap.size W w' := fun W => (specIsText (n : Int) W).mono fun e w' h => ⟨h.1, h.2 ▸ Below.refl _ _⟩
          have HP := fun W => specPutSign (n : Int) W
          have HS : ∀ W, Calls Tryz.prog 28 #[.string s, .int .i64 (k : Int), .string ⟨#[93, 93, 62]⟩] W fun e w' => e = .returned (.bool (standsB s k closeB)) ∧ Below W.heap.size W w' := fun W => (specStands s k closeB W (by omega) (by omega) (by decide)).mono fun e w' h => ⟨h.1, h.2 ▸ Below.refl _ _⟩
          cases ht : textB (n : Int)
          · rw [ht] at HT
            have HX := xtextR_bad hlt hno h38' (by rw [hsg]; rw [ht]; rfl)
            obtain rfl : none = R := (map_none HX).symm.trans HK.out
            clear HX HK
            clear hsg hno h38' har
            have cT := fun d os => Calls.regrown_of (w := w1) (HT (Sort.grow (redrawn w1 d) os))
            clear HT HP HS
            refine wp_region_quiet_below (by kernel_rfl) (by kernel_rfl) ?_
            repeat (go_big_quiet_step (first | exact cT _ _))
            refine wpQuiet_nil ?_
            intro _ hw'
            obtain ⟨⟨dq, osq⟩, hw''⟩ := hw'
            subst hw''
            have bfin := below_regrown w1 dq osq
            generalize Sort.grow (redrawn w1 dq) osq = W1 at *
            go_wp2_with fail
            go_ret2
            exact ⟨rfl, below_from hbel bfin⟩
          · rw [ht] at HT
            by_cases h13 : n = 13
            · have g13 : ((n : Int) == 13) = true := by rw [h13]; rfl
              have HX := xtextR_bad hlt hno h38' (by rw [hsg]; rw [show decide (n ≠ 13) = false from decide_eq_false (fun h => h h13)]; simp)
              obtain rfl : none = R := (map_none HX).symm.trans HK.out
              clear HX HK
              clear hsg hno h38' har h13
              have cT := fun d os => Calls.regrown_of (w := w1) (HT (Sort.grow (redrawn w1 d) os))
              clear HT HP HS
              refine wp_region_quiet_below (by kernel_rfl) (by kernel_rfl) ?_
              repeat (go_big_quiet_step (first | exact cT _ _))
              refine wpQuiet_nil ?_
              intro _ hw'
              obtain ⟨⟨dq, osq⟩, hw''⟩ := hw'
              subst hw''
              have bfin := below_regrown w1 dq osq
              generalize Sort.grow (redrawn w1 dq) osq = W1 at *
              go_wp2_with fail
              go_ret2
              exact ⟨rfl, below_from hbel bfin⟩
            · have g13 : ((n : Int) == 13) = false := by rw [beq_eq_false_iff_ne]; omega
              by_cases h60 : n = 60
              · have g60 : ((n : Int) == 60) = true := by rw [h60]; rfl
                have HX := xtextR_bad hlt hno h38' (by rw [hsg]; rw [show decide (n ≠ 60) = false from decide_eq_false (fun h => h h60)]; simp)
                obtain rfl : none = R := (map_none HX).symm.trans HK.out
                clear HX HK
                clear hsg hno h38' har h60
                have cT := fun d os => Calls.regrown_of (w := w1) (HT (Sort.grow (redrawn w1 d) os))
                clear HT HP HS
                refine wp_region_quiet_below (by kernel_rfl) (by kernel_rfl) ?_
                repeat (go_big_quiet_step (first | exact cT _ _))
                refine wpQuiet_nil ?_
                intro _ hw'
                obtain ⟨⟨dq, osq⟩, hw''⟩ := hw'
                subst hw''
                have bfin := below_regrown w1 dq osq
                generalize Sort.grow (redrawn w1 dq) osq = W1 at *
                go_wp2_with fail
                go_ret2
                exact ⟨rfl, below_from hbel bfin⟩
              · have g60 : ((n : Int) == 60) = false := by rw [beq_eq_false_iff_ne]; omega
                cases hc : ((putS (n : Int)).toList == (s.extract k (k + m)).toList)
                · have HX := xtextR_bad hlt hno h38' (by rw [hsg]; rw [har, hc]; simp)
                  obtain rfl : none = R := (map_none HX).symm.trans HK.out
                  clear HX HK
                  clear hsg hno h38' har
                  have cT := fun d os => Calls.regrown_of (w := w1) (HT (Sort.grow (redrawn w1 d) os))
                  have cP := fun d os => Calls.regrown_of (w := w1) (HP (Sort.grow (redrawn w1 d) os))
                  clear HT HP HS
                  refine wp_region_quiet_below (by kernel_rfl) (by kernel_rfl) ?_
                  repeat (go_big_quiet_step (first | exact cT _ _ | exact cP _ _))
                  refine wpQuiet_nil ?_
                  intro _ hw'
                  obtain ⟨⟨dq, osq⟩, hw''⟩ := hw'
                  subst hw''
                  have bfin := below_regrown w1 dq osq
                  generalize Sort.grow (redrawn w1 dq) osq = W1 at *
                  go_wp2_with fail
                  go_ret2
                  exact ⟨rfl, below_from hbel bfin⟩
                · cases hb : standsB s k closeB
                  · rw [hb] at HS
                    have HX := xtextR_sign hlt hno h38' (by rw [hsg, har, ht, hc, hb, decide_eq_true h13, decide_eq_true h60]; rfl)
                    rw [hmm] at HX
                    clear hsg hno h38' har
                    have cT := fun d os => Calls.regrown_of (w := w1) (HT (Sort.grow (redrawn w1 d) os))
                    have cP := fun d os => Calls.regrown_of (w := w1) (HP (Sort.grow (redrawn w1 d) os))
                    have cS := fun d os => Calls.regrown_of (w := w1) (HS (Sort.grow (redrawn w1 d) os))
                    clear HT HP HS
                    refine wp_region_quiet_below (by kernel_rfl) (by kernel_rfl) ?_
                    repeat (go_big_quiet_step (first | exact cT _ _ | exact cP _ _ | exact cS _ _))
                    refine wpQuiet_nil ?_
                    intro _ hw'
                    obtain ⟨⟨dq, osq⟩, hw''⟩ := hw'
                    subst hw''
                    have bfin := below_regrown w1 dq osq
                    generalize Sort.grow (redrawn w1 dq) osq = W1 at *
                    replace hown := owns_below hown (Nat.le_refl _) bfin
                    replace hbel := below_from hbel bfin
                    clear bfin
                    have hsz : (s.extract k (k + m)).size = m := by rw [ByteArray.size_extract]; omega
                    have HX2 : Hid ((xtextR s e0.data.toList (k + m)).map (fun r => ((acc ++ (s.extract k (k + m)).data.toList) ++ r.1, r.2)) = R) := (map_more HX).symm.trans HK.out
                    clear HX HK
                    generalize hts : (s.extract k (k + m)).data.toList = tl at *
                    have Hts : Hid ((s.extract k (k + m)).size = tl.length) := by show _ = _; rw [← hts, Array.length_toList]; rfl
                    have Htd : Hid ((s.extract k (k + m)).data.toList = tl) := hts
                    clear hts
                    obtain ⟨cap', W, hrun, hbW, hszW, hcW⟩ := conv_bytes W1 (s.extract k (k + m))
                    rw [hsz] at hrun
                    have hownW : W.ownsRow w.heap.size 5 1 _ acc.length (Lib.byteCells acc) := owns_below hown (Nat.le_refl _) hbW
                    have hbelW : Below w.heap.size w W := below_from hbel hbW
                    rw [Htd.out] at hcW
                    have HcW : Hid (∀ j u, (Lib.byteCells tl)[j]? = some u → W.cell? ((⟨W1.heap.size, 0, none⟩ : Addr).add j) = some u) := hcW
                    clear hcW hbW hown hbel
                    go_wp2_with (at_builtin; refine wpList_append_own _ rfl (.tmp 86) (.tmp 93) 78 rfl w.heap.size 5 i0 (.int .u8 0) 1 1 Tryz.underlying78 Hi.out Hz0.out Hz1.out Hz2.out rfl (by decide) _ acc.length (Lib.byteCells acc) rfl hownW ⟨W1.heap.size, 0, none⟩ m cap' (Lib.byteCells tl) rfl ?c1 HcW.out byteCells_one ?c3 ?c4 hbelW.size ?_)
                    case c1 => rw [Lib.byteCells_length, Nat.mul_one]; rw [← Hts.out]; exact hsz
                    case c3 => unfold maxLen; omega
                    case c4 => omega
                    intro v' w2 hown' hgrow _
                    have hbel2 : Below w.heap.size w w2 := own_grown hownW hbelW (Nat.le_refl _) hgrow hbelW.size
                    have hown2 : w2.ownsRow w.heap.size 5 1 v' (acc ++ tl).length (Lib.byteCells (acc ++ tl)) := by
                      have e1 : (acc ++ tl).length = acc.length + m := by rw [List.length_append, ← Hts.out]; rw [hsz]
                      have e2 : Lib.byteCells (acc ++ tl) = Lib.byteCells acc ++ Lib.byteCells tl := by simp [Lib.byteCells]
                      rw [e1, e2]
                      exact hown'
                    clear hown' hgrow hownW hbelW hrun
                    go_wp2_with fail
                    go_roundw
                    case rel => exact ⟨(k + m), acc ++ tl, by omega, by omega, by rw [List.length_append, ← Hts.out]; omega, by go_num, hown2, hbel2, HX2⟩
                    case measure => simp [intOf]; omega
                  · rw [hb] at HS
                    have HX := xtextR_bad hlt hno h38' (by rw [hsg]; rw [hb]; simp)
                    obtain rfl : none = R := (map_none HX).symm.trans HK.out
                    clear HX HK
                    clear hsg hno h38' har
                    have cT := fun d os => Calls.regrown_of (w := w1) (HT (Sort.grow (redrawn w1 d) os))
                    have cP := fun d os => Calls.regrown_of (w := w1) (HP (Sort.grow (redrawn w1 d) os))
                    have cS := fun d os => Calls.regrown_of (w := w1) (HS (Sort.grow (redrawn w1 d) os))
                    clear HT HP HS
                    refine wp_region_quiet_below (by kernel_rfl) (by kernel_rfl) ?_
                    repeat (go_big_quiet_step (first | exact cT _ _ | exact cP _ _ | exact cS _ _))
                    refine wpQuiet_nil ?_
                    intro _ hw'
                    obtain ⟨⟨dq, osq⟩, hw''⟩ := hw'
                    subst hw''
                    have bfin := below_regrown w1 dq osq
                    generalize Sort.grow (redrawn w1 dq) osq = W1 at *
                    go_wp2_with fail
                    go_ret2
                    exact ⟨rfl, below_from hbel bfin⟩
    · have HX := xtextR_end (e := e0.data.toList) hlt
      obtain rfl : some (acc, k) = R := by
        rw [← HK.out, HX]
        simp
      have hbk := own_back hown
      clear HX HK hown
      have gl : decide ((k : Int) < (s.size : Int)) = false := decide_eq_false (by omega)
      have gl' : decide (k < s.size) = false := decide_eq_false hlt
      go_wp2_with fail
      go_ret2
      exact ⟨rfl, hbel⟩

end Go.Proofs.YthipdkagkdnaiaaGreatDoor.Sg
