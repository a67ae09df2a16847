/- The program's textAt. -/
import Derived.Test.YthikgkhnhbaccaaGreatDoorMP11
namespace Go.Proofs.YthikgkhnhbaccaaGreatDoor.Sg
open Go.ChangeShapes Go.WideShapes Go.ChangeAt Go.RowKit

theorem textAt_out (s : ByteArray) (i : Int) (e0 : ByteArray) (a : Addr) (w : World) (h : i < 0 ∨ (s.size : Int) < i) (hE : ErrA a w) :
    Calls Tryz.prog 49 #[.string s, .int .i64 i, .string e0] w fun e w' => (∃ j, e = .returned (prefV a j none)) ∧ Below w.heap.size w w' := by
  have hv : w.cell? ⟨0, 0, none⟩ = some (errV a) := hE
  clear hE
  by_cases h0 : i < 0
  · clear h
    go_enter Tryz.func49, Tryz.ntmps49
    go_wp2_with fail
    go_quiet (fail)
    have bf := drew_kd (Below.refl w.heap.size w) nq
    go_wp2_with fail
    go_ret3
    exact ⟨⟨_, rfl⟩, bf⟩
  · have g0 : decide (i < 0) = false := decide_eq_false h0
    have g1 : (s.size : Int) < i := by omega
    clear h
    go_enter Tryz.func49, Tryz.ntmps49
    go_wp2_with fail
    go_quiet (fail)
    have bf := drew_kd (Below.refl w.heap.size w) nq
    go_wp2_with fail
    go_ret3
    exact ⟨⟨_, rfl⟩, bf⟩

theorem ptext_step {s : ByteArray} {k : Nat} (h : k < s.size) {t : ByteArray} {j : Nat} (ht : tsO s k h = some (t, j)) : ptextR s k = (ptextR s j).map (fun r => t.data.toList ++ r) ∧ k < j ∧ j ≤ s.size ∧ t.size ≤ 4 * (j - k) := by
  unfold tsO at ht
  by_cases h38 : s[k]'h = 38
  · rw [if_pos h38] at ht
    have hl := xrefR_le ht
    exact ⟨ptextR_ref h h38 ht, hl.1, hl.2.1, by omega⟩
  · rw [if_neg h38] at ht
    have hm := getS_many s k h
    split at ht
    · rename_i hp
      obtain ⟨rfl, rfl⟩ := Prod.mk.inj (Option.some.inj ht)
      refine ⟨ptextR_sign h h38 hp, by omega, hm.2, ?_⟩
      rw [ByteArray.size_extract]
      omega
    · cases ht
theorem ptext_stop {s : ByteArray} {k : Nat} (h : k < s.size) (ht : tsO s k h = none) : ptextR s k = none := by
  unfold tsO at ht
  by_cases h38 : s[k]'h = 38
  · rw [if_pos h38] at ht
    exact ptextR_none h h38 ht
  · rw [if_neg h38] at ht
    split at ht
    · cases ht
    · rename_i hp
      exact ptextR_bad h h38 (by simpa using hp)

/-- The text and the place, as textAt tells them. -/
def strO (o : Option (List UInt8 × Nat)) : Option (ByteArray × Nat) := o.map fun r => (strB r.1, r.2)

set_option maxRecDepth 20000 in
set_option maxHeartbeats 4000000 in
theorem textAt_in (s : ByteArray) (k0 : Nat) (e0 : ByteArray) (a : Addr) (w : World) (hk : k0 ≤ s.size) (hs : s.size ≤ 1073741824) (hX : PcX a w) :
    Calls Tryz.prog 49 #[.string s, .int .i64 (k0 : Int), .string e0] w fun e w' => (∃ j, e = .returned (prefV a j (strO (textP s k0 (runE (notU e0) s k0))))) ∧ Below w.heap.size w w' := by
  have HX : Hid (PcX a w) := hX
  clear hX
  have HU := fun W => implUpTo s k0 e0 W (by omega)
  have hle := runE_le (p := notU e0) (s := s) hk
  generalize runE (notU e0) s k0 = q at *
  have hs' := cut_size s q hle.2
  have Hp : Hid (textP s k0 q = if Lib.contains (tailL (s.extract 0 q) k0) [93, 93, 62] then none else (ptextR (s.extract 0 q) k0).map fun r => (r, q)) := rfl
  have htb := tail_bytes (s.extract 0 q) k0
  obtain ⟨m, hm⟩ := HX.out.2
  have hm1 : (s.extract 0 q).size ≤ s.size := by omega
  have HC := Tryz.strings_Contains ((s.extract 0 q).extract k0 (s.extract 0 q).size) ⟨#[93, 93, 62]⟩ m w (by rw [ByteArray.size_extract]; omega) hm
  rw [htb, show (⟨#[93, 93, 62]⟩ : ByteArray).data.toList = [93, 93, 62] from rfl] at HC
  rw [hs'] at HC
  have Hlen : Hid (tailL (s.extract 0 q) q = []) := tailL_end _ _ (by omega)
  clear htb hm hm1
  generalize textP s k0 q = R at *
  generalize Lib.contains (tailL (s.extract 0 q) k0) [93, 93, 62] = ct at *
  have q0 : decide ((k0 : Int) < 0) = false := decide_eq_false (by omega)
  have q1 : decide ((s.size : Int) < (k0 : Int)) = false := decide_eq_false (by omega)
  have q2 : (q : Int) ≤ (s.size : Int) := by omega
  cases ct
  · have Hn : Hid (R = (ptextR (s.extract 0 q) k0).map fun r => (r, q)) := Hp.out
    clear Hp
    go_enter Tryz.func49, Tryz.ntmps49
    go_wp2_with fail
    refine (HU _).mono ?_
    rintro e w1 ⟨rfl, rfl⟩
    clear HU
    go_wp2_with fail
    refine HC.mono ?_
    rintro e w2 ⟨rfl, rfl⟩
    clear HC
    generalize s.extract 0 q = S at *
    have hS := implTextSign S
    go_wp2_with fail
    go_loopw [1] (fun i wr => ∃ (k : Nat) (acc : List UInt8), k0 ≤ k ∧ k ≤ q ∧ acc.length ≤ 4 * k ∧ i = .int .i64 k ∧ Lib.IsBuilderF 48 5 w2.heap.size w2.heap.size (Lib.byteCells acc) wr ∧ Below w2.heap.size w2 wr ∧ Hid (ptextR S k0 = (ptextR S k).map fun r => acc ++ r)) (fun i _ => q - (intOf i).toNat)
    case atStart => exact ⟨k0, [], Nat.le_refl _, hle.1, Nat.zero_le _, rfl, Lib.IsBuilderF.of (Lib.fresh_isBuilder 48 5 w2), (Below.refl _ _).alloc (Nat.le_refl _) _, by show _ = _; cases ptextR S k0 <;> rfl⟩
    case round =>
      obtain ⟨k, acc, hk0, hkq, hal, rfl, hI, hbel, Hacc⟩ := hrel
      by_cases hlt : k < q
      · have hkS : k < S.size := by omega
        have HC := hS k a wr hkS (by omega) (HX.out.below hbel)
        have Hstop := ptext_stop (s := S) hkS
        have Hstep := fun t j => ptext_step (s := S) hkS (t := t) (j := j)
        clear hS
        cases ho : tsO S k hkS with
        | none =>
          have Hr : Hid (R = none) := by show _ = _; rw [Hn.out, Hacc.out, Hstop ho]; rfl
          rw [ho, show prefV a k none = .tuple #[.string ⟨#[]⟩, .int .i64 k, errV a] from rfl] at HC
          clear ho Hstop Hstep Hacc
          go_wp2_with fail
          refine HC.mono ?_
          rintro e w3 ⟨rfl, b3⟩
          have bel3 := hbel.trans (b3.mono hbel.size)
          clear HC hI hbel
          go_wp2_with fail
          go_ret3
          exact ⟨⟨_, ret_pref0 (by rw [Hr.out]; rfl)⟩, bel3⟩
        | some r =>
          obtain ⟨t, j⟩ := r
          obtain ⟨hst, hj1, hj2, hts⟩ := Hstep t j ho
          have Hst : Hid (ptextR S k0 = (ptextR S j).map fun r => (acc ++ t.data.toList) ++ r) := by
            show _ = _
            rw [Hacc.out, hst, Option.map_map]
            congr 1
            funext r
            simp
          have E2 : Hid (Lib.byteCells (acc ++ t.data.toList) = Lib.byteCells acc ++ Lib.strCells t) := by show _ = _; simp [Lib.byteCells, Lib.strCells]
          have htl : t.data.toList.length = t.size := Array.length_toList
          have hal2 : (acc ++ t.data.toList).length ≤ 4 * j := by rw [List.length_append, htl]; omega
          rw [ho, show prefV a k (some (t, j)) = .tuple #[.string t, .int .i64 (j : Int), .nilIface] from rfl] at HC
          clear ho hst Hstop Hstep Hacc htl
          go_wp2_with fail
          refine HC.mono ?_
          rintro e w3 ⟨rfl, b3⟩
          have bel3 := hbel.trans (b3.mono hbel.size)
          have hI3 := isb_below hI b3
          clear HC hI hbel b3
          go_wp2_with fail
          refine (writeString w2.heap.size w2.heap.size (Lib.byteCells acc) t _ hI3 ?_ bel3.size).mono ?_
          · rw [Lib.byteCells_length]
            omega
          rintro e w4 ⟨rfl, hI4, b4, _⟩
          have hI5 : Lib.IsBuilderF 48 5 w2.heap.size w2.heap.size (Lib.byteCells (acc ++ t.data.toList)) w4 := by
            rw [E2.out]
            exact .inr hI4
          have bel4 := bel3.trans b4
          clear hI3 hI4 b4 bel3
          go_wp2
          go_roundw
          case rel => exact ⟨j, acc ++ t.data.toList, by omega, by omega, hal2, rfl, hI5, bel4, Hst⟩
          case measure => simp [intOf]; omega
      · have hkq2 : k = q := by omega
        have Hr : Hid (R = some (acc, q)) := by
          show _ = _
          rw [Hn.out, Hacc.out, hkq2, ptextR_end (by omega)]
          simp
        have hdl : decide ((k : Int) < (q : Int)) = false := decide_eq_false (by omega)
        clear Hacc hkq2 hS
        go_wp2_with fail
        refine (Tryz.Builder_String_any_k w2.heap.size w2.heap.size acc _ hI hbel.size).mono ?_
        rintro e w3 ⟨rfl, _, b3, _⟩
        have bel3 := hbel.trans b3
        clear hI hbel b3
        go_wp2
        go_ret3
        exact ⟨⟨0, ret_pref (t := strB acc) (j := q) (by rw [Hr.out]; rfl) rfl⟩, bel3⟩
  · have Hn : Hid (R = none) := Hp.out
    have hv : w.cell? ⟨0, 0, none⟩ = some (errV a) := HX.out.1.2
    clear Hp
    go_enter Tryz.func49, Tryz.ntmps49
    go_wp2_with fail
    refine (HU _).mono ?_
    rintro e w1 ⟨rfl, rfl⟩
    clear HU
    go_wp2_with fail
    refine HC.mono ?_
    rintro e w2 ⟨rfl, rfl⟩
    clear HC
    go_wp2_with fail
    go_quiet (fail)
    have bf := drew_kd (Below.refl w2.heap.size w2) nq
    go_wp2_with fail
    go_ret3
    exact ⟨⟨_, ret_pref0 (by rw [Hn.out]; rfl)⟩, bf⟩
end Go.Proofs.YthikgkhnhbaccaaGreatDoor.Sg
