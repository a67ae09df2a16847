/- Contracts of slices.Contains over texts, and of the program's isItem and isNamed. -/
import Derived.Test.YtlnegnikedinaaaMDPopTo04
namespace Go.Proofs.Ytlnegnikedinaaa.Sg
open Go.ChangeShapes Go.WideShapes Go.ChangeAt Go.RowKit

theorem alB (W : World) (o : Obj) : Below W.heap.size W (W.alloc o) := (Below.refl _ _).alloc (Nat.le_refl _) _

theorem str_eq' {y : List UInt8} {s : ByteArray} (h : y = s.data.toList) : (s.toList == (strB y).toList) = true := by
  rw [ByteArray.toList_eq, ByteArray.toList_eq, ← h]
  simp [strB]
theorem str_ne' {y : List UInt8} {s : ByteArray} (h : y ≠ s.data.toList) : (s.toList == (strB y).toList) = false := by
  rw [ByteArray.toList_eq, ByteArray.toList_eq]
  simpa [strB] using fun e => h e.symm

set_option maxHeartbeats 1000000 in
theorem implIndexS (s : ByteArray) (b n cap : Nat) (ls : List (List UInt8)) (w : World) (h : Texts w b ls) (hn : ls.length = n) (hm : n ≤ 1000) :
    Calls Try.prog 82 #[.slice (some ⟨b, 0, none⟩) n cap, .string s] w fun e w' => (∃ z : Int, e = .returned (.int .i64 z) ∧ decide (0 ≤ z) = isIn s ls) ∧ w' = w := by
  have HT : Hid (Texts w b ls) := h
  have Hn : Hid (ls.length = n) := hn
  have HR : Hid (isIn s ls = isIn s (ls.drop 0)) := rfl
  generalize isIn s ls = R at *
  clear h hn
  go_enter Try.func82, Try.ntmps82
  go_wp2
  go_loopw [8] (fun kv wr => ∃ k : Nat, k ≤ n ∧ kv = .int .i64 k ∧ Hid (R = isIn s (ls.drop k)) ∧ wr = w) (fun kv _ => n - (intOf kv).toNat)
  case atStart => exact ⟨0, Nat.zero_le _, rfl, HR, rfl⟩
  case round =>
    clear HR
    obtain ⟨k, hk, rfl, HR, rfl⟩ := hrel
    by_cases hlt : k < n
    · have hkl : k < ls.length := by rw [Hn.out]; exact hlt
      have c0 := HT.out.2 k hkl
      have hd := HR.out.trans (isIn_drop hkl)
      have g1 : (k : Int) < (n : Int) := by omega
      have g0 : (0 : Int) ≤ (k : Int) := by omega
      by_cases he : ls.getD k [] = s.data.toList
      · have g2 := str_eq' he
        have Hd : Hid (R = true) := by show _ = _; rw [hd, he]; simp
        clear HR hd he
        generalize strB (ls.getD k []) = y at *
        go_wp2_with fail
        go_ret
        exact ⟨⟨_, rfl, by rw [Hd.out]; exact decide_eq_true g0⟩, rfl⟩
      · have g2 := str_ne' he
        have Hd : Hid (R = isIn s (ls.drop (k + 1))) := by show _ = _; rw [hd, beq_false_of_ne he]; rfl
        clear HR hd he
        generalize strB (ls.getD k []) = y at *
        go_wp2_with fail
        go_roundw
        case rel => exact ⟨k + 1, by omega, by go_num, Hd, by first | trivial | rfl⟩
        case measure => simp [intOf]; omega
    · have g1 : decide ((k : Int) < (n : Int)) = false := decide_eq_false (by omega)
      have Hd : Hid (R = false) := HR.out.trans (isIn_end (by rw [Hn.out]; omega))
      clear HR
      go_wp2_with fail
      go_ret
      exact ⟨⟨_, rfl, by rw [Hd.out]; rfl⟩, rfl⟩

set_option maxHeartbeats 1000000 in
theorem implContainsS (s : ByteArray) (b n cap : Nat) (ls : List (List UInt8)) (w : World) (h : Texts w b ls) (hn : ls.length = n) (hm : n ≤ 1000) :
    Calls Try.prog 63 #[.slice (some ⟨b, 0, none⟩) n cap, .string s] w fun e w' => e = .returned (.bool (isIn s ls)) ∧ w' = w := by
  have H := implIndexS s b n cap ls w h hn hm
  generalize isIn s ls = R at *
  clear h hn
  go_enter Try.func63, Try.ntmps63
  go_wp2_with fail
  refine H.mono ?_
  rintro e w' ⟨⟨z, rfl, hz⟩, rfl⟩
  cases R with
  | true =>
    have g1 : 0 ≤ z := of_decide_eq_true hz
    have g2 : z ≥ 0 := g1
    go_wp2_with fail
    go_ret
    exact ⟨rfl, rfl⟩
  | false =>
    have g1 : decide (z ≥ 0) = false := hz
    have g2 : ¬ 0 ≤ z := of_decide_eq_false hz
    go_wp2_with fail
    go_ret
    exact ⟨rfl, rfl⟩

set_option maxHeartbeats 1000000 in
theorem implIsItem (i hd bd : Int) (ia oa fa : Option Addr) (n ic m oc q fc : Nat) (w : World) :
    Calls Try.prog 62 #[.agg #[.slice ia n ic, .slice oa m oc, .slice fa q fc, .int .i64 hd, .int .i64 bd], .int .i64 i] w fun e w' => e = .returned (.bool (decide (0 ≤ i) && decide (i < (n : Int)))) ∧ Below w.heap.size w w' := by
  have HB : Hid (∀ o, Below w.heap.size w (w.alloc o)) := fun o => (Below.refl _ _).alloc (Nat.le_refl _) _
  by_cases h0 : 0 ≤ i
  · have g0 : decide (0 ≤ i) = true := decide_eq_true h0
    have g1 : i ≥ 0 := h0
    rw [g0]
    by_cases h1 : i < (n : Int)
    · have g2 : decide (i < (n : Int)) = true := decide_eq_true h1
      rw [g2]
      go_enter Try.func62, Try.ntmps62
      go_wp2_with fail
      go_ret
      exact ⟨rfl, HB.out _⟩
    · have g2 : decide (i < (n : Int)) = false := decide_eq_false h1
      rw [g2]
      go_enter Try.func62, Try.ntmps62
      go_wp2_with fail
      go_ret
      exact ⟨rfl, HB.out _⟩
  · have g0 : decide (0 ≤ i) = false := decide_eq_false h0
    have g1 : decide (i ≥ 0) = false := g0
    rw [g0]
    go_enter Try.func62, Try.ntmps62
    go_wp2_with fail
    go_ret
    exact ⟨rfl, HB.out _⟩

theorem box_five0 (w : World) (a b c d e : Value) (t : TypeId) : (w.alloc (.cells #[a, b, c, d, e] t)).cell? ⟨w.heap.size, 0, none⟩ = some a := by
  rw [World.cell?_alloc_new]
  rfl

/-- The name of an item, if there is one. -/
def itName (p : PgB) (i : Int) : Option ByteArray := if 0 ≤ i then (p.its[i.toNat]?).map (·.nm) else none
def namedB (p : PgB) (i : Int) (ls : List (List UInt8)) : Bool :=
  match itName p i with
  | none => false
  | some s => isIn s ls
theorem named_none {p : PgB} {i : Int} (ls : List (List UInt8)) (h : ¬ (0 ≤ i ∧ i < (p.its.length : Int))) : namedB p i ls = false := by
  have : itName p i = none := by
    unfold itName
    split
    · rw [List.getElem?_eq_none (by omega)]
      rfl
    · rfl
  unfold namedB
  rw [this]
theorem named_at {p : PgB} {m : Nat} (ls : List (List UInt8)) (h : m < p.its.length) : namedB p (m : Int) ls = isIn (p.its[m]'h).nm ls := by
  have : itName p (m : Int) = some (p.its[m]'h).nm := by
    unfold itName
    rw [if_pos (by omega), Int.toNat_natCast, List.getElem?_eq_getElem h]
    rfl
  unfold namedB
  rw [this]

/-- Of what is open: its name, where no empty name is asked for. -/
theorem named_open {p : PgB} {k : Nat} (hk : k < p.opn.length) {ls : List (List UInt8)} (hl : ([] : List UInt8) ∉ ls) : namedB p (p.opn.getD k 0) ls = isIn (nameAt p k) ls := by
  have e0 : p.opn.getD k 0 = p.opn[k]'hk := by simp [List.getD, hk]
  rw [e0]
  by_cases hc : 0 ≤ p.opn[k]'hk ∧ p.opn[k]'hk < (p.its.length : Int)
  · obtain ⟨m, hm⟩ := Int.eq_ofNat_of_zero_le hc.1
    have hml : m < p.its.length := by omega
    rw [hm, named_at _ hml, nameAt_in hk hm hml]
  · rw [named_none _ hc]
    have : nameAt p k = ⟨#[]⟩ := by
      rcases Int.lt_or_le (p.opn[k]'hk) 0 with h | h
      · exact nameAt_low hk h
      · exact nameAt_high hk (by omega)
    rw [this]
    cases h : isIn ⟨#[]⟩ ls with
    | false => rfl
    | true => exact absurd (isIn_iff.1 h) hl
theorem isT_swap (s : ByteArray) (l : List UInt8) : (l == s.data.toList) = isT s l := by
  unfold isT
  rw [ByteArray.toList_eq, Bool.eq_iff_iff, beq_iff_eq, beq_iff_eq]
  exact eq_comm

set_option maxRecDepth 20000 in
set_option maxHeartbeats 4000000 in
theorem implIsNamed (p : PgB) (v : Value) (i : Int) (b n cap : Nat) (ls : List (List UInt8)) (w : World) (hv : PgAt w v p) (ht : Texts w b ls) (hn : ls.length = n) (hm : n ≤ 1000) :
    Calls Try.prog 53 #[v, .int .i64 i, .slice (some ⟨b, 0, none⟩) n cap] w fun e w' => e = .returned (.bool (namedB p i ls)) ∧ Below w.heap.size w w' := by
  obtain ⟨ia, ic, oa, oc, fa, fc, rfl, ⟨hI, hi1⟩, _, _⟩ := hv
  by_cases hc : 0 ≤ i ∧ i < (p.its.length : Int)
  · obtain ⟨m, rfl⟩ := Int.eq_ofNat_of_zero_le hc.1
    have hml : m < p.its.length := by omega
    obtain ⟨bi, rfl, -, -, c2, -⟩ := hI.get m hml
    rw [named_at ls hml]
    have HS := fun (W : World) (hW : Below w.heap.size w W) => implContainsS (p.its[m]'hml).nm b n cap ls W (ht.below ht.1 hW) hn hm
    have hbi : bi < w.heap.size := by
      rcases Nat.lt_or_ge bi w.heap.size with h | h
      · exact h
      · simp [World.cell?, Array.getElem?_eq_none h] at c2
    have HX := fun W => implIsItem (m : Int) p.hd p.bd (some ⟨bi, 0, none⟩) oa fa p.its.length ic p.opn.length oc p.fms.length fc W
    have g0 : decide ((0 : Int) ≤ (m : Int)) = true := decide_eq_true hc.1
    have g1 : decide ((m : Int) < (p.its.length : Int)) = true := decide_eq_true hc.2
    simp only [g0, g1, Bool.and_self] at HX
    have g2 : (m : Int) < (p.its.length : Int) := hc.2
    have g3 : (0 : Int) ≤ (m : Int) := hc.1
    have CC : Hid (∀ W, Below w.heap.size w W → W.cell? ⟨bi, m * 7 + 2, none⟩ = some (.string (p.its[m]'hml).nm)) := fun W hW => (hW.cell hbi).trans c2
    have HX' : Hid (∀ W, _) := HX
    have HS' : Hid (∀ W, Below w.heap.size w W → _) := HS
    have HB : Hid (∀ o, Below w.heap.size w (w.alloc o)) := fun o => (Below.refl _ _).alloc (Nat.le_refl _) _
    clear HX HS c2 hI g0 g1 hc
    generalize (p.its[m]'hml).nm = s at *
    generalize isIn s ls = R at *
    generalize p.its.length = N at *
    generalize p.opn.length = O at *
    generalize p.fms.length = F at *
    go_enter Try.func53, Try.ntmps53
    go_wp2_with fail
    refine (HX'.out _).mono ?_
    rintro e w1 ⟨rfl, b1⟩
    have hB1 : Below w.heap.size w w1 := (HB.out _).trans (b1.mono (by simp))
    have cc := CC.out w1 hB1
    have c0 := (b1.cell (p := ⟨w.heap.size, 0, none⟩) (by simp)).trans (box_five0 w _ _ _ _ _ _)
    go_wp2_with fail
    refine (HS'.out _ hB1).mono ?_
    rintro e w2 ⟨rfl, rfl⟩
    go_wp2_with fail
    go_ret
    exact ⟨rfl, hB1⟩
  · rw [named_none ls hc]
    have HX := fun W => implIsItem i p.hd p.bd ia oa fa p.its.length ic p.opn.length oc p.fms.length fc W
    have g0 : (decide (0 ≤ i) && decide (i < (p.its.length : Int))) = false := by
      rw [Bool.and_eq_false_iff, decide_eq_false_iff_not, decide_eq_false_iff_not]
      by_cases h : 0 ≤ i
      · exact .inr fun h2 => hc ⟨h, h2⟩
      · exact .inl h
    simp only [g0] at HX
    have HX' : Hid (∀ W, _) := HX
    have HB : Hid (∀ o, Below w.heap.size w (w.alloc o)) := fun o => (Below.refl _ _).alloc (Nat.le_refl _) _
    clear HX hI g0 hc
    generalize p.its.length = N at *
    generalize p.opn.length = O at *
    generalize p.fms.length = F at *
    go_enter Try.func53, Try.ntmps53
    go_wp2_with fail
    refine (HX'.out _).mono ?_
    rintro e w1 ⟨rfl, b1⟩
    have hB1 : Below w.heap.size w w1 := (HB.out _).trans (b1.mono (by simp))
    go_wp2_with fail
    go_ret
    exact ⟨rfl, hB1⟩

end Go.Proofs.Ytlnegnikedinaaa.Sg
