/- The program's noteAt and XmlNote. -/
import Derived.Test.YtbmmghkieolpkaaGreatDoorMR2115
import Derived.Test.YtbmmghkieolpkaaGreatDoorMR2121
import Derived.Test.YtbmmghkieolpkaaGreatDoorStImN
namespace Go.Proofs.YtbmmghkieolpkaaGreatDoor.Sg
open Go.ChangeShapes Go.WideShapes Go.ChangeAt Go.RowKit

/-- The note and the place behind it. -/
def noteO (s : ByteArray) (k : Nat) : Option (ByteArray × Nat) := (noteP s k).map fun m => (s.extract (k + 4) m, m + 3)

set_option maxHeartbeats 2000000 in
theorem noteAt_out (s : ByteArray) (i : Int) (a : Addr) (w : World) (h : i < 0 ∨ (s.size : Int) < i) (hE : ErrA a w) :
    Calls Tryz.prog 83 #[.string s, .int .i64 i] w fun e w' => e = .returned (prefV a i none) ∧ Below w.heap.size w w' := by
  have hv : w.cell? ⟨0, 0, none⟩ = some (errV a) := hE
  clear hE
  by_cases h0 : i < 0
  · clear h
    go_enter Tryz.func83, Tryz.ntmps83
    go_wp2_with fail
    go_quiet (fail)
    have bf := drew_kd (Below.refl w.heap.size w) nq
    go_wp2_with fail
    go_ret3
    exact ⟨rfl, bf⟩
  · have g0 : decide (i < 0) = false := decide_eq_false h0
    have g1 : (s.size : Int) < i := by omega
    clear h
    go_enter Tryz.func83, Tryz.ntmps83
    go_wp2_with fail
    go_quiet (fail)
    have bf := drew_kd (Below.refl w.heap.size w) nq
    go_wp2_with fail
    go_ret3
    exact ⟨rfl, bf⟩

theorem cut_two {l : List UInt8} : Lib.cut l [45, 45] = if 0 ≤ Lib.index l [45, 45] then (l.take (Lib.index l [45, 45]).toNat, l.drop ((Lib.index l [45, 45]).toNat + 2), true) else (l, [], false) := rfl
theorem strB_take (s : ByteArray) (k i : Nat) : (⟨((tailL s k).take i).toArray⟩ : ByteArray) = s.extract k (k + i) := by
  apply ByteArray.ext
  apply Array.toList_inj.1
  rw [Lib.extract_data, show k + i - k = i by omega]
  rfl

set_option maxRecDepth 20000 in
set_option maxHeartbeats 4000000 in
theorem noteAt_in (s : ByteArray) (k : Nat) (a : Addr) (w : World) (hk : k ≤ s.size) (hs : s.size ≤ 1073741824) (hX : PcX a w) :
    Calls Tryz.prog 83 #[.string s, .int .i64 (k : Int)] w fun e w' => e = .returned (prefV a k (noteO s k)) ∧ Below w.heap.size w w' := by
  have HX : Hid (PcX a w) := hX
  obtain ⟨m, hm⟩ := hX.2
  have HO : Hid (noteO s k = (noteP s k).map fun m => (s.extract (k + 4) m, m + 3)) := rfl
  have HP : Hid (noteP s k = if Lib.hasPrefix (tailL s k) [60, 33, 45, 45] then
    if 0 ≤ Lib.index (tailL s (k + 4)) [45, 45] then
      let m := k + 4 + (Lib.index (tailL s (k + 4)) [45, 45]).toNat
      if stNoteB (s.extract (k + 4) m) && Lib.hasPrefix (tailL s (m + 2)) [62] then some m else none
    else none
  else none) := rfl
  have HC := fun W => Tryz.strings_CutPrefix (s.extract k s.size) ⟨#[60, 33, 45, 45]⟩ W
  rw [tail_bytes, show (⟨#[60, 33, 45, 45]⟩ : ByteArray).data.toList = [60, 33, 45, 45] from rfl] at HC
  have q0 : decide ((k : Int) < 0) = false := decide_eq_false (by omega)
  have q1 : decide ((s.size : Int) < (k : Int)) = false := decide_eq_false (by omega)
  have q2 : (k : Int) ≤ (s.size : Int) := by omega
  have hlk := tailL_length s k
  clear hX
  cases hp : Lib.hasPrefix (tailL s k) [60, 33, 45, 45]
  · have Hn : Hid (noteO s k = none) := by show _ = _; rw [HO.out, HP.out, hp]; rfl
    rw [hp, show Lib.trimPrefix (tailL s k) [60, 33, 45, 45] = tailL s k by unfold Lib.trimPrefix; rw [hp]; rfl] at HC
    have HU := Tryz.strings_Cut (⟨(tailL s k).toArray⟩ : ByteArray) ⟨#[45, 45]⟩ m w (by rw [show (⟨(tailL s k).toArray⟩ : ByteArray) = strB (tailL s k) from rfl, strB_size]; omega) hm
    generalize (⟨(Lib.cut (⟨(tailL s k).toArray⟩ : ByteArray).data.toList (⟨#[45, 45]⟩ : ByteArray).data.toList).1.toArray⟩ : ByteArray) = c1 at *
    generalize (⟨(Lib.cut (⟨(tailL s k).toArray⟩ : ByteArray).data.toList (⟨#[45, 45]⟩ : ByteArray).data.toList).2.1.toArray⟩ : ByteArray) = c2 at *
    generalize (Lib.cut (⟨(tailL s k).toArray⟩ : ByteArray).data.toList (⟨#[45, 45]⟩ : ByteArray).data.toList).2.2 = c3 at *
    generalize (⟨(tailL s k).toArray⟩ : ByteArray) = L at *
    clear HO HP hp hm
    go_enter Tryz.func83, Tryz.ntmps83
    go_wp2_with fail
    refine (HC _).mono ?_
    rintro e w1 ⟨rfl, rfl⟩
    clear HC
    go_wp2_with fail
    refine HU.mono ?_
    rintro e w2 ⟨rfl, n, hw2⟩
    have b2 : Below w1.heap.size w1 w2 := hw2 ▸ drew_kd (Below.refl _ _) n
    have hv1 : w2.cell? ⟨0, 0, none⟩ = some (errV a) := HX.out.1.2.below b2
    clear hw2 HU
    go_wp2_with fail
    go_quiet (fail)
    have bf := drew_kd b2 nq
    go_wp2_with fail
    go_ret3
    exact ⟨ret_pref0 Hn.out, bf⟩
  · have h4 : k + 4 ≤ s.size := by
      unfold Lib.hasPrefix at hp
      have h := (List.isPrefixOf_iff_prefix.1 hp).length_le
      rw [hlk] at h
      simp only [List.length_cons, List.length_nil] at h
      omega
    have ht4 : Lib.trimPrefix (tailL s k) [60, 33, 45, 45] = tailL s (k + 4) := by
      unfold Lib.trimPrefix
      rw [hp, if_pos rfl]
      exact tailL_drop s k 4
    have hl4 := tailL_length s (k + 4)
    rw [hp, ht4] at HC
    have HU := Tryz.strings_Cut (⟨(tailL s (k + 4)).toArray⟩ : ByteArray) ⟨#[45, 45]⟩ m w (by rw [show (⟨(tailL s (k + 4)).toArray⟩ : ByteArray) = strB (tailL s (k + 4)) from rfl, strB_size]; omega) hm
    rw [show (⟨(tailL s (k + 4)).toArray⟩ : ByteArray).data.toList = tailL s (k + 4) by simp, show (⟨#[45, 45]⟩ : ByteArray).data.toList = [45, 45] from rfl, cut_two] at HU
    have HP2 : Hid (noteP s k = if 0 ≤ Lib.index (tailL s (k + 4)) [45, 45] then
      let m := k + 4 + (Lib.index (tailL s (k + 4)) [45, 45]).toNat
      if stNoteB (s.extract (k + 4) m) && Lib.hasPrefix (tailL s (m + 2)) [62] then some m else none
    else none) := by show _ = _; rw [HP.out, hp]; rfl
    clear HP hp hm ht4
    generalize (⟨(tailL s (k + 4)).toArray⟩ : ByteArray) = L at *
    rcases Lib.index_spec (tailL s (k + 4)) [45, 45] with ⟨e1, _⟩ | ⟨i, e1, _, _, _⟩
    · have Hn : Hid (noteO s k = none) := by show _ = _; rw [HO.out, HP2.out, e1]; rfl
      rw [e1, if_neg (by decide)] at HU
      simp only at HU
      have HK := fun W h => implNoteOk (⟨(tailL s (k + 4)).toArray⟩ : ByteArray) W (by rw [show (⟨(tailL s (k + 4)).toArray⟩ : ByteArray) = strB (tailL s (k + 4)) from rfl, strB_size]; omega) h
      have HH : ∀ W, Calls Tryz.prog 55 #[.string ⟨#[]⟩, .string ⟨#[62]⟩] W fun e w' => e = .returned (.bool false) ∧ w' = W := fun W => Tryz.strings_HasPrefix ⟨#[]⟩ ⟨#[62]⟩ W
      generalize (⟨(tailL s (k + 4)).toArray⟩ : ByteArray) = nt at *
      clear HO HP2 hlk hl4
      cases hb : stNoteB nt
      · rw [hb] at HK
        clear hb
        go_enter Tryz.func83, Tryz.ntmps83
        go_wp2_with fail
        refine (HC _).mono ?_
        rintro e w1 ⟨rfl, rfl⟩
        clear HC
        go_wp2_with fail
        refine HU.mono ?_
        rintro e w2 ⟨rfl, n, hw2⟩
        have b2 : Below w1.heap.size w1 w2 := hw2 ▸ drew_kd (Below.refl _ _) n
        have HX2 := HX.out.below b2
        clear hw2 HU
        go_wp2_with fail
        refine (HK _ ⟨HX2.1.1, HX2.2⟩).mono ?_
        rintro e w3 ⟨rfl, b3⟩
        have b4 := below_from b2 b3
        have hv1 : w3.cell? ⟨0, 0, none⟩ = some (errV a) := HX.out.1.2.below b4
        clear b2 b3 HX2 HK
        go_wp2_with fail
        go_quiet (fail)
        have bf := drew_kd b4 nq
        go_wp2_with fail
        go_ret3
        exact ⟨ret_pref0 Hn.out, bf⟩
      · rw [hb] at HK
        clear hb
        go_enter Tryz.func83, Tryz.ntmps83
        go_wp2_with fail
        refine (HC _).mono ?_
        rintro e w1 ⟨rfl, rfl⟩
        clear HC
        go_wp2_with fail
        refine HU.mono ?_
        rintro e w2 ⟨rfl, n, hw2⟩
        have b2 : Below w1.heap.size w1 w2 := hw2 ▸ drew_kd (Below.refl _ _) n
        have HX2 := HX.out.below b2
        clear hw2 HU
        go_wp2_with fail
        refine (HK _ ⟨HX2.1.1, HX2.2⟩).mono ?_
        rintro e w3 ⟨rfl, b3⟩
        have b4 := below_from b2 b3
        have hv1 : w3.cell? ⟨0, 0, none⟩ = some (errV a) := HX.out.1.2.below b4
        clear b2 b3 HX2 HK
        go_wp2_with fail
        refine (HH _).mono ?_
        rintro e w4 ⟨rfl, rfl⟩
        clear HH
        go_wp2_with fail
        go_quiet (fail)
        have bf := drew_kd b4 nq
        go_wp2_with fail
        go_ret3
        exact ⟨ret_pref0 Hn.out, bf⟩
    · have hroom := Lib.index_room (tailL s (k + 4)) [45, 45] (by omega)
      rw [e1] at hroom
      simp only [List.length_cons, List.length_nil] at hroom
      rw [e1, if_pos (by omega), show ((i : Nat) : Int).toNat = i from rfl, strB_take] at HU
      simp only at HU
      have HK := fun W h => implNoteOk (s.extract (k + 4) (k + 4 + i)) W (by rw [ByteArray.size_extract]; omega) h
      have hdr : (tailL s (k + 4)).drop (i + 2) = tailL s (k + 4 + i + 2) := tailL_drop s (k + 4) (i + 2)
      rw [hdr] at HU
      have HH : ∀ W, Calls Tryz.prog 55 #[.string (⟨(tailL s (k + 4 + i + 2)).toArray⟩ : ByteArray), .string ⟨#[62]⟩] W fun e w' => e = .returned (.bool (Lib.hasPrefix (tailL s (k + 4 + i + 2)) [62])) ∧ w' = W := fun W => by
        exact Tryz.strings_HasPrefix (⟨(tailL s (k + 4 + i + 2)).toArray⟩ : ByteArray) ⟨#[62]⟩ W
      have Hes : Hid ((⟨(tailL s (k + 4 + i + 2)).toArray⟩ : ByteArray).size = s.size - (k + 4 + i + 2)) := by
        show _ = _
        rw [show (⟨(tailL s (k + 4 + i + 2)).toArray⟩ : ByteArray) = strB (tailL s (k + 4 + i + 2)) from rfl, strB_size, tailL_length]
      have HN : Hid (noteO s k = if stNoteB (s.extract (k + 4) (k + 4 + i)) && Lib.hasPrefix (tailL s (k + 4 + i + 2)) [62] then some (s.extract (k + 4) (k + 4 + i), k + 4 + i + 3) else none) := by
        show _ = _
        rw [HO.out, HP2.out, e1, if_pos (by omega), show ((i : Nat) : Int).toNat = i from rfl]
        simp only
        split <;> rfl
      clear HO HP2 hdr e1
      generalize (⟨(tailL s (k + 4 + i + 2)).toArray⟩ : ByteArray) = en at *
      generalize s.extract (k + 4) (k + 4 + i) = nt at *
      cases hb : stNoteB nt
      · have Hn : Hid (noteO s k = none) := by show _ = _; rw [HN.out, hb]; rfl
        rw [hb] at HK
        clear hb HN HH
        go_enter Tryz.func83, Tryz.ntmps83
        go_wp2_with fail
        refine (HC _).mono ?_
        rintro e w1 ⟨rfl, rfl⟩
        clear HC
        go_wp2_with fail
        refine HU.mono ?_
        rintro e w2 ⟨rfl, n, hw2⟩
        have b2 : Below w1.heap.size w1 w2 := hw2 ▸ drew_kd (Below.refl _ _) n
        have HX2 := HX.out.below b2
        clear hw2 HU
        go_wp2_with fail
        refine (HK _ ⟨HX2.1.1, HX2.2⟩).mono ?_
        rintro e w3 ⟨rfl, b3⟩
        have b4 := below_from b2 b3
        have hv1 : w3.cell? ⟨0, 0, none⟩ = some (errV a) := HX.out.1.2.below b4
        clear b2 b3 HX2 HK
        go_wp2_with fail
        go_quiet (fail)
        have bf := drew_kd b4 nq
        go_wp2_with fail
        go_ret3
        exact ⟨ret_pref0 Hn.out, bf⟩
      · rw [hb] at HK HN
        clear hb
        cases hc : Lib.hasPrefix (tailL s (k + 4 + i + 2)) [62]
        · have Hn : Hid (noteO s k = none) := by show _ = _; rw [HN.out, hc]; rfl
          rw [hc] at HH
          clear hc HN
          go_enter Tryz.func83, Tryz.ntmps83
          go_wp2_with fail
          refine (HC _).mono ?_
          rintro e w1 ⟨rfl, rfl⟩
          clear HC
          go_wp2_with fail
          refine HU.mono ?_
          rintro e w2 ⟨rfl, n, hw2⟩
          have b2 : Below w1.heap.size w1 w2 := hw2 ▸ drew_kd (Below.refl _ _) n
          have HX2 := HX.out.below b2
          clear hw2 HU
          go_wp2_with fail
          refine (HK _ ⟨HX2.1.1, HX2.2⟩).mono ?_
          rintro e w3 ⟨rfl, b3⟩
          have b4 := below_from b2 b3
          have hv1 : w3.cell? ⟨0, 0, none⟩ = some (errV a) := HX.out.1.2.below b4
          clear b2 b3 HX2 HK
          go_wp2_with fail
          refine (HH _).mono ?_
          rintro e w4 ⟨rfl, rfl⟩
          clear HH
          go_wp2_with fail
          go_quiet (fail)
          have bf := drew_kd b4 nq
          go_wp2_with fail
          go_ret3
          exact ⟨ret_pref0 Hn.out, bf⟩
        · have Hn : Hid (noteO s k = some (nt, k + 4 + i + 3)) := by show _ = _; rw [HN.out, hc]; rfl
          rw [hc] at HH
          have z1 : IntKind.i64.wrap ((s.size : Int) - (en.size : Int)) = (s.size : Int) - (en.size : Int) := IntWalk.i64_in _ (by have := Hes.out; omega)
          have z2 : IntKind.i64.wrap ((s.size : Int) - (en.size : Int) + 1) = (s.size : Int) - (en.size : Int) + 1 := IntWalk.i64_in _ (by have := Hes.out; omega)
          have Hj : Hid (((k + 4 + i + 3 : Nat) : Int) = (s.size : Int) - (en.size : Int) + 1) := by show _ = _; have := Hes.out; omega
          clear hc HN
          go_enter Tryz.func83, Tryz.ntmps83
          go_wp2_with fail
          refine (HC _).mono ?_
          rintro e w1 ⟨rfl, rfl⟩
          clear HC
          go_wp2_with fail
          refine HU.mono ?_
          rintro e w2 ⟨rfl, n, hw2⟩
          have b2 : Below w1.heap.size w1 w2 := hw2 ▸ drew_kd (Below.refl _ _) n
          have HX2 := HX.out.below b2
          clear hw2 HU
          go_wp2_with fail
          refine (HK _ ⟨HX2.1.1, HX2.2⟩).mono ?_
          rintro e w3 ⟨rfl, b3⟩
          have b4 := below_from b2 b3
          have hv1 : w3.cell? ⟨0, 0, none⟩ = some (errV a) := HX.out.1.2.below b4
          clear b2 b3 HX2 HK
          go_wp2_with fail
          refine (HH _).mono ?_
          rintro e w4 ⟨rfl, rfl⟩
          clear HH
          go_wp2_with fail
          go_ret3
          exact ⟨ret_pref Hn.out (by rw [Hj.out]; rfl), b4⟩

end Go.Proofs.YtbmmghkieolpkaaGreatDoor.Sg
