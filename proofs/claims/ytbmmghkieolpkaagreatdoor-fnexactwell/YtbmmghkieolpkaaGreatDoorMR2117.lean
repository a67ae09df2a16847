/- What stays of a builder where nothing that was there has turned. The program's textAt. Plain: the program's reader reads piece by piece: a note, a tag or a text; at the top texts, too, which no document has. A value up to a byte 34, without a byte 9 or 10: in the model's words and in the program's. Plain. The program's valueAt, strictAttrAt, XmlAttr. The program's strictAttrAt and XmlAttr. -/
import Derived.Test.YtbmmghkieolpkaaGreatDoorMR2112
import Derived.Test.YtbmmghkieolpkaaGreatDoorMR2121
import Derived.Test.YtbmmghkieolpkaaGreatDoorRpP
import Derived.Test.YtbmmghkieolpkaaGreatDoorPcNoteI
import Derived.Test.YtbmmghkieolpkaaGreatDoorRdRowP
import Derived.Test.YtbmmghkieolpkaaGreatDoorMR2105
import Derived.Test.YtbmmghkieolpkaaGreatDoorMR2115
import Derived.Test.YtbmmghkieolpkaaGreatDoorMR2113
import Derived.BigRegion
namespace Go.Proofs.YtbmmghkieolpkaaGreatDoor.Sg
open Go.ChangeShapes Go.WideShapes Go.ChangeAt Go.RowKit

theorem ownsF_below {w w' : World} {base : Nat} {e : TypeId} {size : Nat} {v : Value} {n : Nat} {xs : List Value} (h : w.ownsRowF base e size v n xs) (hb : Below w.heap.size w w') : w'.ownsRowF base e size v n xs := by
  obtain ⟨h1, h2⟩ := h
  refine ⟨h1, ?_⟩
  rcases h2 with h2 | ⟨g, cap, cur, fz, h2, h3, h4, h5⟩
  · exact .inl h2
  · have hg : g < w.heap.size := (Array.getElem?_eq_some_iff.1 h4).1
    exact .inr ⟨g, cap, cur, fz, h2, h3, (hb.block g hg).trans h4, h5⟩
theorem at_below {T e : TypeId} {B b : Nat} {p : Value} {bs : List Value} {w w' : World} (h : Lib.BuilderAtF T e B b p bs w) (hb : Below w.heap.size w w') : Lib.BuilderAtF T e B b p bs w' := by
  obtain ⟨hB, v, hk, ho, hn⟩ := h
  exact ⟨hB, v, (hb.block b (Array.getElem?_eq_some_iff.1 hk).1).trans hk, ownsF_below ho hb, hn⟩
theorem isb_below {T e : TypeId} {B b : Nat} {bs : List Value} {w w' : World} (h : Lib.IsBuilderF T e B b bs w) (hb : Below w.heap.size w w') : Lib.IsBuilderF T e B b bs w' := by
  rcases h with h | h
  · exact .inl (at_below h hb)
  · exact .inr (at_below h hb)

end Go.Proofs.YtbmmghkieolpkaaGreatDoor.Sg

namespace Go.Proofs.YtbmmghkieolpkaaGreatDoor.Sg
open Go.ChangeShapes Go.WideShapes Go.ChangeAt Go.RowKit

theorem textAt_out (s : ByteArray) (i : Int) (e0 : ByteArray) (a : Addr) (w : World) (h : i < 0 ∨ (s.size : Int) < i) (hE : ErrA a w) :
    Calls Tryz.prog 85 #[.string s, .int .i64 i, .string e0] w fun e w' => (∃ j, e = .returned (prefV a j none)) ∧ Below w.heap.size w w' := by
  have hv : w.cell? ⟨0, 0, none⟩ = some (errV a) := hE
  clear hE
  by_cases h0 : i < 0
  · clear h
    go_enter Tryz.func85, Tryz.ntmps85
    go_wp2_with fail
    go_quiet (fail)
    have bf := drew_kd (Below.refl w.heap.size w) nq
    go_wp2_with fail
    go_ret3
    exact ⟨⟨_, rfl⟩, bf⟩
  · have g0 : decide (i < 0) = false := decide_eq_false h0
    have g1 : (s.size : Int) < i := by omega
    clear h
    go_enter Tryz.func85, Tryz.ntmps85
    go_wp2_with fail
    go_quiet (fail)
    have bf := drew_kd (Below.refl w.heap.size w) nq
    go_wp2_with fail
    go_ret3
    exact ⟨⟨_, rfl⟩, bf⟩

theorem ptext_step {s : ByteArray} {k : Nat} (h : k < s.size) {t : ByteArray} {j : Nat} (ht : tsO s k h = some (t, j)) : ptextR s k = (ptextR s j).map (fun r => t.data.toList ++ r) ∧ k < j ∧ j ≤ s.size ∧ t.size ≤ 4 * (j - k) := by
  unfold tsO at ht
  by_cases h38 : s[k]'h = 38
  · rw [if_pos h38] at ht
    have hl := xrefR_le ht
    exact ⟨ptextR_ref h h38 ht, hl.1, hl.2.1, by omega⟩
  · rw [if_neg h38] at ht
    have hm := getS_many s k h
    split at ht
    · rename_i hp
      obtain ⟨rfl, rfl⟩ := Prod.mk.inj (Option.some.inj ht)
      refine ⟨ptextR_sign h h38 hp, by omega, hm.2, ?_⟩
      rw [ByteArray.size_extract]
      omega
    · cases ht
theorem ptext_stop {s : ByteArray} {k : Nat} (h : k < s.size) (ht : tsO s k h = none) : ptextR s k = none := by
  unfold tsO at ht
  by_cases h38 : s[k]'h = 38
  · rw [if_pos h38] at ht
    exact ptextR_none h h38 ht
  · rw [if_neg h38] at ht
    split at ht
    · cases ht
    · rename_i hp
      exact ptextR_bad h h38 (by simpa using hp)

/-- The text and the place, as textAt tells them. -/
def strO (o : Option (List UInt8 × Nat)) : Option (ByteArray × Nat) := o.map fun r => (strB r.1, r.2)

set_option maxRecDepth 20000 in
set_option maxHeartbeats 4000000 in
theorem textAt_in (s : ByteArray) (k0 : Nat) (e0 : ByteArray) (a : Addr) (w : World) (hk : k0 ≤ s.size) (hs : s.size ≤ 1073741824) (hX : PcX a w) :
    Calls Tryz.prog 85 #[.string s, .int .i64 (k0 : Int), .string e0] w fun e w' => (∃ j, e = .returned (prefV a j (strO (textP s k0 (runE (notU e0) s k0))))) ∧ Below w.heap.size w w' := by
  have HX : Hid (PcX a w) := hX
  clear hX
  have HU := fun W => implUpTo s k0 e0 W (by omega)
  have hle := runE_le (p := notU e0) (s := s) hk
  generalize runE (notU e0) s k0 = q at *
  have hs' := cut_size s q hle.2
  have Hp : Hid (textP s k0 q = if Lib.contains (tailL (s.extract 0 q) k0) [93, 93, 62] then none else (ptextR (s.extract 0 q) k0).map fun r => (r, q)) := rfl
  have htb := tail_bytes (s.extract 0 q) k0
  obtain ⟨m, hm⟩ := HX.out.2
  have hm1 : (s.extract 0 q).size ≤ s.size := by omega
  have HC := Tryz.strings_Contains ((s.extract 0 q).extract k0 (s.extract 0 q).size) ⟨#[93, 93, 62]⟩ m w (by rw [ByteArray.size_extract]; omega) hm
  rw [htb, show (⟨#[93, 93, 62]⟩ : ByteArray).data.toList = [93, 93, 62] from rfl] at HC
  rw [hs'] at HC
  have Hlen : Hid (tailL (s.extract 0 q) q = []) := tailL_end _ _ (by omega)
  clear htb hm hm1
  generalize textP s k0 q = R at *
  generalize Lib.contains (tailL (s.extract 0 q) k0) [93, 93, 62] = ct at *
  have q0 : decide ((k0 : Int) < 0) = false := decide_eq_false (by omega)
  have q1 : decide ((s.size : Int) < (k0 : Int)) = false := decide_eq_false (by omega)
  have q2 : (q : Int) ≤ (s.size : Int) := by omega
  cases ct
  · have Hn : Hid (R = (ptextR (s.extract 0 q) k0).map fun r => (r, q)) := Hp.out
    clear Hp
    go_enter Tryz.func85, Tryz.ntmps85
    go_wp2_with fail
    refine (HU _).mono ?_
    rintro e w1 ⟨rfl, rfl⟩
    clear HU
    go_wp2_with fail
    refine HC.mono ?_
    rintro e w2 ⟨rfl, rfl⟩
    clear HC
    generalize s.extract 0 q = S at *
    have hS := implTextSign S
    go_wp2_with fail
    go_loopw [1] (fun i wr => ∃ (k : Nat) (acc : List UInt8), k0 ≤ k ∧ k ≤ q ∧ acc.length ≤ 4 * k ∧ i = .int .i64 k ∧ Lib.IsBuilderF 130 5 w2.heap.size w2.heap.size (Lib.byteCells acc) wr ∧ Below w2.heap.size w2 wr ∧ Hid (ptextR S k0 = (ptextR S k).map fun r => acc ++ r)) (fun i _ => q - (intOf i).toNat)
    case atStart => exact ⟨k0, [], Nat.le_refl _, hle.1, Nat.zero_le _, rfl, Lib.IsBuilderF.of (Lib.fresh_isBuilder 130 5 w2), (Below.refl _ _).alloc (Nat.le_refl _) _, by show _ = _; cases ptextR S k0 <;> rfl⟩
    case round =>
      obtain ⟨k, acc, hk0, hkq, hal, rfl, hI, hbel, Hacc⟩ := hrel
      by_cases hlt : k < q
      · have hkS : k < S.size := by omega
        have HC := hS k a wr hkS (by omega) (HX.out.below hbel)
        have Hstop := ptext_stop (s := S) hkS
        have Hstep := fun t j => ptext_step (s := S) hkS (t := t) (j := j)
        clear hS
        cases ho : tsO S k hkS with
        | none =>
          have Hr : Hid (R = none) := by show _ = _; rw [Hn.out, Hacc.out, Hstop ho]; rfl
          rw [ho, show prefV a k none = .tuple #[.string ⟨#[]⟩, .int .i64 k, errV a] from rfl] at HC
          clear ho Hstop Hstep Hacc
          go_wp2_with fail
          refine HC.mono ?_
          rintro e w3 ⟨rfl, b3⟩
          have bel3 := hbel.trans (b3.mono hbel.size)
          clear HC hI hbel
          go_wp2_with fail
          go_ret3
          exact ⟨⟨_, ret_pref0 (by rw [Hr.out]; rfl)⟩, bel3⟩
        | some r =>
          obtain ⟨t, j⟩ := r
          obtain ⟨hst, hj1, hj2, hts⟩ := Hstep t j ho
          have Hst : Hid (ptextR S k0 = (ptextR S j).map fun r => (acc ++ t.data.toList) ++ r) := by
            show _ = _
            rw [Hacc.out, hst, Option.map_map]
            congr 1
            funext r
            simp
          have E2 : Hid (Lib.byteCells (acc ++ t.data.toList) = Lib.byteCells acc ++ Lib.strCells t) := by show _ = _; simp [Lib.byteCells, Lib.strCells]
          have htl : t.data.toList.length = t.size := Array.length_toList
          have hal2 : (acc ++ t.data.toList).length ≤ 4 * j := by rw [List.length_append, htl]; omega
          rw [ho, show prefV a k (some (t, j)) = .tuple #[.string t, .int .i64 (j : Int), .nilIface] from rfl] at HC
          clear ho hst Hstop Hstep Hacc htl
          go_wp2_with fail
          refine HC.mono ?_
          rintro e w3 ⟨rfl, b3⟩
          have bel3 := hbel.trans (b3.mono hbel.size)
          have hI3 := isb_below hI b3
          clear HC hI hbel b3
          go_wp2_with fail
          refine (writeString w2.heap.size w2.heap.size (Lib.byteCells acc) t _ hI3 ?_ bel3.size).mono ?_
          · rw [Lib.byteCells_length]
            omega
          rintro e w4 ⟨rfl, hI4, b4, _⟩
          have hI5 : Lib.IsBuilderF 130 5 w2.heap.size w2.heap.size (Lib.byteCells (acc ++ t.data.toList)) w4 := by
            rw [E2.out]
            exact .inr hI4
          have bel4 := bel3.trans b4
          clear hI3 hI4 b4 bel3
          go_wp2
          go_roundw
          case rel => exact ⟨j, acc ++ t.data.toList, by omega, by omega, hal2, rfl, hI5, bel4, Hst⟩
          case measure => simp [intOf]; omega
      · have hkq2 : k = q := by omega
        have Hr : Hid (R = some (acc, q)) := by
          show _ = _
          rw [Hn.out, Hacc.out, hkq2, ptextR_end (by omega)]
          simp
        have hdl : decide ((k : Int) < (q : Int)) = false := decide_eq_false (by omega)
        clear Hacc hkq2 hS
        go_wp2_with fail
        refine (Tryz.Builder_String_any_k w2.heap.size w2.heap.size acc _ hI hbel.size).mono ?_
        rintro e w3 ⟨rfl, _, b3, _⟩
        have bel3 := hbel.trans b3
        clear hI hbel b3
        go_wp2
        go_ret3
        exact ⟨⟨0, ret_pref (t := strB acc) (j := q) (by rw [Hr.out]; rfl) rfl⟩, bel3⟩
  · have Hn : Hid (R = none) := Hp.out
    have hv : w.cell? ⟨0, 0, none⟩ = some (errV a) := HX.out.1.2
    clear Hp
    go_enter Tryz.func85, Tryz.ntmps85
    go_wp2_with fail
    refine (HU _).mono ?_
    rintro e w1 ⟨rfl, rfl⟩
    clear HU
    go_wp2_with fail
    refine HC.mono ?_
    rintro e w2 ⟨rfl, rfl⟩
    clear HC
    go_wp2_with fail
    go_quiet (fail)
    have bf := drew_kd (Below.refl w2.heap.size w2) nq
    go_wp2_with fail
    go_ret3
    exact ⟨⟨_, ret_pref0 (by rw [Hn.out]; rfl)⟩, bf⟩
end Go.Proofs.YtbmmghkieolpkaaGreatDoor.Sg

namespace Go.Proofs.YtbmmghkieolpkaaGreatDoor.Sg
open Go.ChangeShapes Go.WideShapes Go.ChangeAt Go.RowKit

/-- A byte stands at a place. -/
theorem stands_one (s : ByteArray) (k : Nat) (b : UInt8) : standsB s k ⟨#[b]⟩ = true ↔ s.data[k]? = some b := by
  by_cases h : k < s.size
  · have e : standsB s k ⟨#[b]⟩ = Lib.hasPrefix (tailL s k) [b] := stands_tailT ⟨#[b]⟩ (Nat.le_of_lt h)
    rw [e, tailL_step s k h]
    have ed : s.data[k]? = some (s[k]'h) := by
      show s.data[k]? = some (s.data[k]'h)
      exact Array.getElem?_eq_getElem h
    rw [ed]
    unfold Lib.hasPrefix
    simp [List.isPrefixOf]
    exact eq_comm
  · have e : s.data[k]? = none := Array.getElem?_eq_none (by show s.size ≤ k; omega)
    rw [e]
    constructor
    · intro hs
      have := stands_le hs
      have u : (⟨#[b]⟩ : ByteArray).size = 1 := rfl
      omega
    · intro hs
      cases hs

/-- One piece from place i on, and where it ends. -/
def pieceQ (s : ByteArray) (el : Nat → Option (ElB × Nat)) (i : Nat) : Option (ElB × Nat) :=
  if standsB s i openNoteB = true then (noteO s i).map fun r => (.mk 3 0 ⟨#[]⟩ [] r.1 [], r.2)
  else if standsB s i ltS = true then el i
  else (strO (xtextR s [60] i)).map fun r => (.mk 2 0 ⟨#[]⟩ [] r.1 [], r.2)

theorem note_told {s : ByteArray} {i : Nat} (hi : i < s.size) : (noteO s i = none ∧ xoI s (i : Int) < 0) ∨ ∃ j : Nat, noteO s i = some (xoS s (i : Int), j) ∧ xoI s (i : Int) = (j : Int) := by
  have hx := noteP_eq (s := s) (k := i) (Nat.le_of_lt hi)
  have h1 : 0 ≤ (i : Int) ∧ (i : Int) < s.size := by omega
  have e : ((i : Int)).toNat = i := by omega
  unfold xoI xoS xoO noteO
  rw [if_pos h1, e, ← hx]
  cases xnoteR s i with
  | none => exact .inl ⟨rfl, by decide⟩
  | some m => exact .inr ⟨m + 3, rfl, rfl⟩
theorem text_told {s : ByteArray} {i : Nat} (hi : i < s.size) : (strO (xtextR s [60] i) = none ∧ xtI s (i : Int) ltS < 0) ∨ ∃ j : Nat, strO (xtextR s [60] i) = some (xtS s (i : Int) ltS, j) ∧ xtI s (i : Int) ltS = (j : Int) := by
  have h1 : 0 ≤ (i : Int) ∧ (i : Int) ≤ s.size := by omega
  have e : ((i : Int)).toNat = i := by omega
  have eL : ltS.data.toList = [60] := rfl
  unfold xtI xtS xtO strO
  rw [if_pos h1, e, eL]
  cases xtextR s [60] i with
  | none => exact .inl ⟨rfl, by decide⟩
  | some r => exact .inr ⟨r.2, rfl, rfl⟩
theorem not_neg {j : Nat} {x : Int} (h : x = (j : Int)) : ¬ x < 0 := by omega
theorem not_lt60 {s : ByteArray} {i : Nat} (h : standsB s i ltS = false) : s.data[i]? ≠ some 60 := fun e => by
  have := (stands_one s i 60).2 e
  unfold ltS at h
  rw [this] at h
  cases h
theorem piece_size {s : ByteArray} {el : Nat → Option (ElB × Nat)} (hE : ElSz s el) : ∀ k e j, k < s.size → pieceQ s el k = some (e, j) → k < j ∧ j ≤ s.size ∧ elW e + 1 ≤ 5 * (j - k) := by
  intro k e j hk h
  unfold pieceQ at h
  split at h
  · rcases note_told hk with ⟨h1, _⟩ | ⟨m, h1, h2⟩
    · rw [h1] at h
      cases h
    · rw [h1] at h
      cases h
      obtain ⟨m', h3, h4, h5, h6⟩ := xoI_le (not_neg h2)
      rw [elW_bare]
      show k < m ∧ m ≤ s.size ∧ (xoS s (k : Int)).size + 1 ≤ 5 * (m - k)
      omega
  · split at h
    · exact hE k e j (Nat.le_of_lt hk) h
    · rename_i h60
      rcases text_told hk with ⟨h1, _⟩ | ⟨m, h1, h2⟩
      · rw [h1] at h
        cases h
      · rw [h1] at h
        cases h
        obtain ⟨m', h3, h4, h5, h6⟩ := xtI_lt hk (not_lt60 (by simpa using h60)) (not_neg h2)
        rw [elW_bare]
        show k < m ∧ m ≤ s.size ∧ (xtS s (k : Int) ltS).size + 1 ≤ 5 * (m - k)
        omega

theorem kids_step (s : ByteArray) (el : Nat → Option (ElB × Nat)) (f i : Nat) : kidsL s el (f + 1) i = if standsB s i ltSlash = true then some ([], i) else if ¬ i < s.size then none else match pieceQ s el i with
    | none => none
    | some x => (kidsL s el f x.2).map fun r => (x.1 :: r.1, r.2) := by
  rw [kidsL]
  split
  · rfl
  · split
    · rfl
    · rename_i hlt
      have hi : i < s.size := by omega
      unfold pieceQ
      split
      · rcases note_told hi with ⟨h1, h2⟩ | ⟨m, h1, h2⟩
        · rw [if_pos h2, h1]
          rfl
        · rw [if_neg (not_neg h2), h1, h2]
          rfl
      · by_cases h60 : standsB s i ltS = true
        · rw [if_pos h60, if_pos ((stands_one s i 60).1 h60)]
          cases el i <;> rfl
        · have h60' : standsB s i ltS = false := by simpa using h60
          rw [if_neg h60, if_neg (not_lt60 h60')]
          rcases text_told hi with ⟨h1, h2⟩ | ⟨m, h1, h2⟩
          · rw [if_pos h2, h1]
            rfl
          · rw [if_neg (not_neg h2), h1, h2]
            rfl

/-- Pieces from place i on, a byte 10 behind each, to the end. -/
def docQ (s : ByteArray) (el : Nat → Option (ElB × Nat)) : Nat → Nat → Option (List ElB)
  | 0, _ => none
  | f + 1, i =>
    if ¬ i < s.size then some []
    else match pieceQ s el i with
      | none => none
      | some x => if standsB s x.2 nlS = true then (docQ s el f (x.2 + 1)).map fun r => x.1 :: r else none
theorem docQ_like (s : ByteArray) (el : Nat → Option (ElB × Nat)) (h : ∀ i, standsB s i ltS = false → el i = none) : ∀ (f i : Nat), (∀ l, docL s el f i = some l → docQ s el f i = some l) ∧ (docL s el f i = none → ∀ l, docQ s el f i = some l → ∃ e ∈ l, kindE e = 2)
  | 0, i => ⟨fun x hx => (by cases hx), fun _ x hx => by cases hx⟩
  | f + 1, i => by
    have step : ∀ (e : ElB) (j : Nat), (∀ l, (docL s el f j).map (fun r => e :: r) = some l → (docQ s el f j).map (fun r => e :: r) = some l) ∧ ((docL s el f j).map (fun r => e :: r) = none → ∀ l, (docQ s el f j).map (fun r => e :: r) = some l → ∃ e ∈ l, kindE e = 2) := fun e j => by
      have ih := docQ_like s el h f j
      constructor
      · intro x hx
        obtain ⟨r, hr, rfl⟩ := Option.map_eq_some_iff.1 hx
        rw [ih.1 r hr]
        rfl
      · intro hn x hx
        have hn' := Option.map_eq_none_iff.1 hn
        obtain ⟨r, hr, rfl⟩ := Option.map_eq_some_iff.1 hx
        obtain ⟨y, hy, hb⟩ := ih.2 hn' r hr
        exact ⟨y, List.mem_cons_of_mem _ hy, hb⟩
    rw [docL, docQ]
    split
    · exact ⟨fun x hx => hx, fun hn => (by cases hn)⟩
    · rename_i hlt
      have hi : i < s.size := by omega
      unfold pieceQ
      split
      · rcases note_told hi with ⟨h1, h2⟩ | ⟨m, h1, h2⟩
        · rw [if_pos h2, h1]
          exact ⟨fun x hx => (by cases hx), fun _ x hx => by cases hx⟩
        · rw [if_neg (not_neg h2), h1, h2]
          simp only [Option.map_some, Int.toNat_natCast]
          split
          · exact step _ _
          · exact ⟨fun x hx => (by cases hx), fun _ x hx => by cases hx⟩
      · cases h60 : standsB s i ltS
        · rw [h i h60, if_neg (by simp)]
          refine ⟨fun x hx => (by cases hx), fun _ x hx => ?_⟩
          cases ht : strO (xtextR s [60] i) with
          | none => rw [ht] at hx; cases hx
          | some r =>
            rw [ht] at hx
            simp only [Option.map_some] at hx
            split at hx
            · obtain ⟨r', hr, rfl⟩ := Option.map_eq_some_iff.1 hx
              exact ⟨_, List.mem_cons_self, rfl⟩
            · cases hx
        · rw [if_pos rfl]
          cases el i with
          | none => exact ⟨fun x hx => (by cases hx), fun _ x hx => by cases hx⟩
          | some y =>
            simp only
            split
            · exact step _ _
            · exact ⟨fun x hx => (by cases hx), fun _ x hx => by cases hx⟩
theorem docF_text : ∀ (es : List ElB) (t n : Nat), (∃ e ∈ es, kindE e = 2) → docF t n es = false
  | [], _, _, h => by obtain ⟨e, he, _⟩ := h; cases he
  | x :: es, t, n, h => by
    rw [docF]
    split
    · rename_i hs
      refine docF_text es _ _ ?_
      obtain ⟨e, he, hb⟩ := h
      rcases List.mem_cons.1 he with rfl | he
      · exact absurd hb hs.2
      · exact ⟨e, he, hb⟩
    · rfl
theorem elQ_lt (s : ByteArray) (m deep i : Nat) (about : Int) (h : standsB s i ltS = false) : elQ s m deep i about = none := by
  cases m with
  | zero => rfl
  | succ m => rw [elQ, if_pos (.inl h)]
/-- What the program reads of a strict text, texts at the top, too. -/
def readP (s : ByteArray) : Option (List ElB) :=
  if 200000 < s.size ∨ standsB s 0 xmlHead = false then none
  else match docQ s (fun q => elQ s (s.size + 1) 60 q (-1)) (s.size + 1) 22 with
    | none => none
    | some l => if docF 0 0 l = true then some l else none
theorem readP_eq (s : ByteArray) : readP s = readR s := by
  rw [← readQ_eq]
  unfold readQ readP
  split
  · rfl
  · have h := docQ_like s (fun q => elQ s (s.size + 1) 60 q (-1)) (fun i h => elQ_lt s _ _ i _ h) (s.size + 1) 22
    cases hm : docL s (fun q => elQ s (s.size + 1) 60 q (-1)) (s.size + 1) 22 with
    | some l => rw [h.1 l hm]
    | none =>
      cases hq : docQ s (fun q => elQ s (s.size + 1) 60 q (-1)) (s.size + 1) 22 with
      | none => rfl
      | some l => simp only [docF_text l 0 0 (h.2 hm l hq)]; rfl
theorem docQ_size (s : ByteArray) (el : Nat → Option (ElB × Nat)) (hE : ElSz s el) : ∀ (f i : Nat) (r : List ElB), docQ s el f i = some r → i ≤ s.size → r.length + elsW r ≤ 5 * (s.size - i)
  | 0, _, _, h, _ => by cases h
  | f + 1, i, r, h, hi => by
    rw [docQ] at h
    split at h
    · cases h
      simp [elsW]
    · rename_i hlt
      cases hp : pieceQ s el i with
      | none => rw [hp] at h; cases h
      | some x =>
        obtain ⟨e, j⟩ := x
        rw [hp] at h
        simp only at h
        split at h
        · rename_i hnl
          have h1 := piece_size hE i e j (by omega) hp
          have h2 := stands_le hnl
          have u : nlS.size = 1 := rfl
          obtain ⟨r', hr, rfl⟩ := Option.map_eq_some_iff.1 h
          have h3 := docQ_size s el hE f (j + 1) r' hr (by omega)
          simp only [List.length_cons, elsW]
          omega
        · cases h

end Go.Proofs.YtbmmghkieolpkaaGreatDoor.Sg

namespace Go.Proofs.YtbmmghkieolpkaaGreatDoor.Sg

theorem xtext_stop (s : ByteArray) (e : List UInt8) : ∀ (d k : Nat) (r : List UInt8 × Nat), s.size - k ≤ d → k ≤ s.size → xtextR s e k = some r → ∀ h : r.2 < s.size, e.contains (s[r.2]'h) = true := by
  intro d
  induction d with
  | zero =>
    intro k r hd hk h
    rw [xtextR_end (by omega)] at h
    cases h
    intro h
    exact absurd h (by simp only; omega)
  | succ d ih =>
    intro k r hd hk h
    by_cases hlt : k < s.size
    · cases h1 : e.contains (s[k]'hlt)
      · by_cases h2 : (s[k]'hlt) = 38
        · cases h3 : xrefR s k with
          | none =>
            rw [xtextR_none hlt h1 h2 h3] at h
            cases h
          | some tj =>
            obtain ⟨t, j⟩ := tj
            rw [xtextR_ref hlt h1 h2 h3] at h
            have hl := xrefR_le h3
            cases hx : xtextR s e j with
            | none =>
              rw [hx] at h
              cases h
            | some q =>
              rw [hx] at h
              cases h
              exact ih j q (by omega) hl.2.1 hx
        · cases h3 : xsignB s k
          · rw [xtextR_bad hlt h1 h2 h3] at h
            cases h
          · rw [xtextR_sign hlt h1 h2 h3] at h
            have hm := getS_many s k hlt
            cases hx : xtextR s e (k + (getS s k).2) with
            | none =>
              rw [hx] at h
              cases h
            | some q =>
              rw [hx] at h
              cases h
              exact ih _ q (by omega) (by omega) hx
      · rw [xtextR_stop hlt h1] at h
        cases h
        exact fun _ => h1
    · rw [xtextR_end hlt] at h
      cases h
      intro h
      exact absurd h hlt
theorem val_one {b : UInt8} (h : List.contains [34, 9, 10] b = false) : List.contains [34] b = false ∧ b ≠ 9 ∧ b ≠ 10 := by
  simp only [List.contains_cons, List.contains_nil, Bool.or_false, Bool.or_eq_false_iff, beq_eq_false_iff_ne] at h ⊢
  exact ⟨h.1, h.2.1, h.2.2⟩
theorem val_two {b : UInt8} (h : List.contains [34] b = false) (h9 : b ≠ 9) (h10 : b ≠ 10) : List.contains [34, 9, 10] b = false := by
  simp only [List.contains_cons, List.contains_nil, Bool.or_false, Bool.or_eq_false_iff, beq_eq_false_iff_ne] at h ⊢
  exact ⟨h, h9, h10⟩
theorem inner_no {b : UInt8} (h : refByte b = true ∨ b = 59) : b ≠ 9 ∧ b ≠ 10 := by
  refine ⟨?_, ?_⟩
  · rintro rfl
    exact absurd h (by decide)
  · rintro rfl
    exact absurd h (by decide)
theorem high_no {b : UInt8} (h : 128 ≤ b.toNat) : b ≠ 9 ∧ b ≠ 10 := by
  refine ⟨?_, ?_⟩
  · rintro rfl
    exact absurd h (by decide)
  · rintro rfl
    exact absurd h (by decide)
theorem xsign_read {s : ByteArray} {k : Nat} (h : xsignB s k = true) : asRead s k = true := by
  rw [xsign_split] at h
  unfold psignB at h
  simp only [Bool.and_eq_true] at h
  exact h.1.2.2.2

theorem val_to (s : ByteArray) : ∀ (d k : Nat) (r : List UInt8 × Nat), s.size - k ≤ d → k ≤ s.size → xtextR s [34, 9, 10] k = some r → (∀ h : r.2 < s.size, s[r.2]'h = 34) → r.2 < s.size → xtextR s [34] k = some r ∧ ∀ j, k ≤ j → j < r.2 → s.get! j ≠ 9 ∧ s.get! j ≠ 10 := by
  intro d
  induction d with
  | zero =>
    intro k r hd hk h _ hq
    rw [xtextR_end (by omega)] at h
    cases h
    exact absurd hq (by simp only; omega)
  | succ d ih =>
    intro k r hd hk h h34 hq
    by_cases hlt : k < s.size
    · cases h1 : List.contains [34, 9, 10] (s[k]'hlt)
      · obtain ⟨h1', h9, h10⟩ := val_one h1
        by_cases h2 : (s[k]'hlt) = 38
        · cases h3 : xrefR s k with
          | none =>
            rw [xtextR_none hlt h1 h2 h3] at h
            cases h
          | some tj =>
            obtain ⟨t, j⟩ := tj
            rw [xtextR_ref hlt h1 h2 h3] at h
            have hl := xrefR_le h3
            cases hx : xtextR s [34, 9, 10] j with
            | none =>
              rw [hx] at h
              cases h
            | some q =>
              rw [hx] at h
              cases h
              have hi := ih j q (by omega) hl.2.1 hx h34 hq
              refine ⟨by rw [xtextR_ref hlt h1' h2 h3, hi.1]; rfl, fun p hp1 hp2 => ?_⟩
              by_cases hpk : p = k
              · subst hpk
                rw [get_bang hlt]
                exact ⟨h9, h10⟩
              · by_cases hpj : p < j
                · exact inner_no (xref_inner h3 hlt h2 (by omega) hpj)
                · exact hi.2 p (by omega) hp2
        · cases h3 : xsignB s k
          · rw [xtextR_bad hlt h1 h2 h3] at h
            cases h
          · rw [xtextR_sign hlt h1 h2 h3] at h
            have hm := getS_many s k hlt
            cases hx : xtextR s [34, 9, 10] (k + (getS s k).2) with
            | none =>
              rw [hx] at h
              cases h
            | some q =>
              rw [hx] at h
              cases h
              have hi := ih _ q (by omega) (by omega) hx h34 hq
              refine ⟨by rw [xtextR_sign hlt h1' h2 h3, hi.1]; rfl, fun p hp1 hp2 => ?_⟩
              by_cases hpk : p = k
              · subst hpk
                rw [get_bang hlt]
                exact ⟨h9, h10⟩
              · by_cases hpj : p < k + (getS s k).2
                · exact high_no (read_high hlt (xsign_read h3) (by omega) hpj)
                · exact hi.2 p (by omega) hp2
      · rw [xtextR_stop hlt h1] at h
        cases h
        refine ⟨xtextR_stop hlt ?_, fun j h1 h2 => ?_⟩
        · rw [h34 hlt]
          rfl
        · simp only at h2
          omega
    · rw [xtextR_end hlt] at h
      cases h
      exact absurd hq hlt
theorem val_from (s : ByteArray) : ∀ (d k : Nat) (r : List UInt8 × Nat), s.size - k ≤ d → k ≤ s.size → xtextR s [34] k = some r → (∀ j, k ≤ j → j < r.2 → s.get! j ≠ 9 ∧ s.get! j ≠ 10) → r.2 < s.size → xtextR s [34, 9, 10] k = some r := by
  intro d
  induction d with
  | zero =>
    intro k r hd hk h _ hq
    rw [xtextR_end (by omega)] at h
    cases h
    exact absurd hq (by simp only; omega)
  | succ d ih =>
    intro k r hd hk h hno hq
    by_cases hlt : k < s.size
    · have hle := xtextR_le s [34] s.size k r (by omega) hk h
      cases h1 : List.contains [34] (s[k]'hlt)
      · by_cases h2 : (s[k]'hlt) = 38
        · cases h3 : xrefR s k with
          | none =>
            rw [xtextR_none hlt h1 h2 h3] at h
            cases h
          | some tj =>
            obtain ⟨t, j⟩ := tj
            rw [xtextR_ref hlt h1 h2 h3] at h
            have hl := xrefR_le h3
            cases hx : xtextR s [34] j with
            | none =>
              rw [hx] at h
              cases h
            | some q =>
              rw [hx] at h
              cases h
              have hq2 := xtextR_le s [34] s.size j q (by omega) hl.2.1 hx
              have hk9 := hno k (Nat.le_refl _) (by simp only; omega)
              rw [get_bang hlt] at hk9
              have hi := ih j q (by omega) hl.2.1 hx (fun p h1 h2 => hno p (by omega) h2) hq
              rw [xtextR_ref hlt (val_two h1 hk9.1 hk9.2) h2 h3, hi]
              rfl
        · cases h3 : xsignB s k
          · rw [xtextR_bad hlt h1 h2 h3] at h
            cases h
          · rw [xtextR_sign hlt h1 h2 h3] at h
            have hm := getS_many s k hlt
            cases hx : xtextR s [34] (k + (getS s k).2) with
            | none =>
              rw [hx] at h
              cases h
            | some q =>
              rw [hx] at h
              cases h
              have hq2 := xtextR_le s [34] s.size _ q (by omega) (by omega) hx
              have hk9 := hno k (Nat.le_refl _) (by simp only; omega)
              rw [get_bang hlt] at hk9
              have hi := ih _ q (by omega) (by omega) hx (fun p h1 h2 => hno p (by omega) h2) hq
              rw [xtextR_sign hlt (val_two h1 hk9.1 hk9.2) h2 h3, hi]
              rfl
      · rw [xtextR_stop hlt h1] at h
        cases h
        refine xtextR_stop hlt ?_
        simp only [List.contains_cons, List.contains_nil, Bool.or_false] at h1 ⊢
        rw [h1]
        rfl
    · rw [xtextR_end hlt] at h
      cases h
      exact absurd hq hlt
theorem raw_no {s : ByteArray} {k m : Nat} (hm : m ≤ s.size) (b : UInt8) : (s.extract k m).data.toList.contains b = false ↔ ∀ j, k ≤ j → j < m → s.get! j ≠ b := by
  rw [Bool.eq_false_iff, ne_eq, List.contains_iff_mem, Lib.extract_data]
  constructor
  · intro h j h1 h2 e
    apply h
    have h3 := tail_of_bN (s := s) (k := k) (j := j - k) (by omega)
    rw [show k + (j - k) = j by omega, e] at h3
    have h4 : ((tailL s k).take (m - k))[j - k]? = some b := by rw [List.getElem?_take_of_lt (by omega)]; exact h3
    exact List.mem_of_getElem? h4
  · intro h hmem
    obtain ⟨i, hi, e⟩ := List.getElem_of_mem hmem
    rw [List.length_take, List.length_drop] at hi
    have hi2 : k + i < s.size := by
      have : s.data.toList.length = s.size := Array.length_toList
      omega
    have h3 := tail_of_bN (s := s) (k := k) (j := i) hi2
    have h4 : (tailL s k)[i]? = some b := by
      rw [← e, List.getElem_take]
      exact List.getElem?_eq_getElem _
    rw [h4] at h3
    exact h (k + i) (by omega) (by omega) (Option.some.inj h3).symm

/-- A value, and the place of the byte 34 behind it. -/
def valP (s : ByteArray) (k : Nat) : Option (List UInt8 × Nat) :=
  match xtextR s [34, 9, 10] k with
  | none => none
  | some r => if Lib.hasPrefix (tailL s r.2) [34] then some r else none
theorem quote_tail {s : ByteArray} {q : Nat} : Lib.hasPrefix (tailL s q) [34] = true ↔ ∃ h : q < s.size, s[q]'h = 34 := by
  unfold Lib.hasPrefix
  by_cases h : q < s.size
  · rw [tailL_step s q h]
    simp only [List.isPrefixOf, Bool.and_true, beq_iff_eq]
    exact ⟨fun e => ⟨h, e.symm⟩, fun ⟨_, e⟩ => e.symm⟩
  · rw [tailL_end s q h]
    simp [List.isPrefixOf, h]
theorem valP_eq {s : ByteArray} {k : Nat} (hk : k ≤ s.size) : (match xtextR s [34] k with
    | none => none
    | some r => if ¬ r.2 < s.size ∨ ((s.extract k r.2).data.toList.contains 9 || (s.extract k r.2).data.toList.contains 10) = true then none else some r) = valP s k := by
  unfold valP
  cases hx : xtextR s [34, 9, 10] k with
  | some r =>
    by_cases hp : Lib.hasPrefix (tailL s r.2) [34] = true
    · obtain ⟨h, e⟩ := quote_tail.1 hp
      have hv := val_to s s.size k r (by omega) hk hx (fun _ => e) h
      have hno9 := (raw_no (s := s) (k := k) (m := r.2) (by omega) 9).2 fun j h1 h2 => (hv.2 j h1 h2).1
      have hno10 := (raw_no (s := s) (k := k) (m := r.2) (by omega) 10).2 fun j h1 h2 => (hv.2 j h1 h2).2
      rw [hv.1]
      simp only
      rw [if_pos hp, if_neg]
      rintro (h2 | h2)
      · exact h2 h
      · rw [hno9, hno10] at h2
        cases h2
    · cases hy : xtextR s [34] k with
      | none =>
        simp only
        rw [if_neg hp]
      | some r2 =>
        simp only
        rw [if_neg hp]
        split
        · rfl
        · rename_i hc
          exfalso
          have hm : r2.2 < s.size := Classical.byContradiction fun h => hc (.inl h)
          have hb : ((s.extract k r2.2).data.toList.contains 9 || (s.extract k r2.2).data.toList.contains 10) = false := by
            cases h : ((s.extract k r2.2).data.toList.contains 9 || (s.extract k r2.2).data.toList.contains 10) with
            | false => rfl
            | true => exact absurd (.inr h) hc
          rw [Bool.or_eq_false_iff] at hb
          have h9 := (raw_no (s := s) (k := k) (m := r2.2) (by omega) 9).1 hb.1
          have h10 := (raw_no (s := s) (k := k) (m := r2.2) (by omega) 10).1 hb.2
          have hf := val_from s s.size k r2 (by omega) hk hy (fun j h1 h2 => ⟨h9 j h1 h2, h10 j h1 h2⟩) hm
          rw [hx] at hf
          cases hf
          have h34 := xtext_stop s [34] s.size k r (by omega) hk hy hm
          apply hp
          refine quote_tail.2 ⟨hm, ?_⟩
          simpa using h34
  | none =>
    cases hy : xtextR s [34] k with
    | none => rfl
    | some r2 =>
      simp only
      split
      · rfl
      · rename_i hc
        exfalso
        have hm : r2.2 < s.size := Classical.byContradiction fun h => hc (.inl h)
        have hb : ((s.extract k r2.2).data.toList.contains 9 || (s.extract k r2.2).data.toList.contains 10) = false := by
          cases h : ((s.extract k r2.2).data.toList.contains 9 || (s.extract k r2.2).data.toList.contains 10) with
          | false => rfl
          | true => exact absurd (.inr h) hc
        rw [Bool.or_eq_false_iff] at hb
        have h9 := (raw_no (s := s) (k := k) (m := r2.2) (by omega) 9).1 hb.1
        have h10 := (raw_no (s := s) (k := k) (m := r2.2) (by omega) 10).1 hb.2
        have hf := val_from s s.size k r2 (by omega) hk hy (fun j h1 h2 => ⟨h9 j h1 h2, h10 j h1 h2⟩) hm
        rw [hx] at hf
        cases hf
/-- An attribute, in the program's words. -/
theorem xattr_prog {s : ByteArray} {k : Nat} (hk : k ≤ s.size) : xattrR s k = if xnameE s true k = k ∨ standsB s (xnameE s true k) eqB = false then none else (valP s (xnameE s true k + 2)).map fun r => (xnameE s true k, r.1, r.2) := by
  have hle := xnameE_le s s.size k true (by omega) hk
  unfold xattrR
  simp only
  generalize xnameE s true k = n at *
  by_cases h : n = k ∨ standsB s n eqB = false
  · rw [if_pos h, if_pos h]
  · rw [if_neg h, if_neg h]
    have hst : standsB s n eqB = true := by
      cases hc : standsB s n eqB with
      | true => rfl
      | false => exact absurd (.inr hc) h
    have h2 : n + 2 ≤ s.size := stands_le hst
    rw [← valP_eq h2]
    cases xtextR s [34] (n + 2) with
    | none => rfl
    | some r =>
      obtain ⟨v, m⟩ := r
      simp only
      split <;> rfl

end Go.Proofs.YtbmmghkieolpkaaGreatDoor.Sg

namespace Go.Proofs.YtbmmghkieolpkaaGreatDoor.Sg
open Go.ChangeShapes Go.WideShapes Go.ChangeAt Go.RowKit

def endB : ByteArray := ⟨#[34, 9, 10]⟩
theorem end_ok : EndOk endB.data.toList := by
  intro b hb
  have h : b ∈ ([34, 9, 10] : List UInt8) := hb
  simp only [List.mem_cons, List.not_mem_nil, or_false] at h
  rcases h with rfl | rfl | rfl <;> simp
/-- The value and the place behind its last quote. -/
def valO (s : ByteArray) (k : Nat) : Option (ByteArray × Nat) := (valP s k).map fun r => (strB r.1, r.2 + 1)

set_option maxHeartbeats 4000000 in
theorem implValueAt (s : ByteArray) (k : Nat) (a : Addr) (w : World) (hk : k ≤ s.size) (hs : s.size ≤ 1073741824) (hX : PcX a w) :
    Calls Tryz.prog 119 #[.string s, .int .i64 (k : Int)] w fun e w' => (∃ j, e = .returned (prefV a j (valO s k))) ∧ Below w.heap.size w w' := by
  have HX : Hid (PcX a w) := hX
  clear hX
  have HT := textAt_in s k endB a w hk hs HX.out
  rw [← textP_eq end_ok hk, show endB.data.toList = [34, 9, 10] from rfl] at HT
  have Ho : Hid (valP s k = match xtextR s [34, 9, 10] k with
    | none => none
    | some r => if Lib.hasPrefix (tailL s r.2) [34] then some r else none) := rfl
  have hle := fun r h => xtextR_le s [34, 9, 10] s.size k r (by omega) hk h
  have HV : Hid (valO s k = (valP s k).map fun r => (strB r.1, r.2 + 1)) := rfl
  unfold endB at HT
  cases hx : xtextR s [34, 9, 10] k with
  | none =>
    have Hn : Hid (valO s k = none) := by show _ = _; rw [HV.out, Ho.out, hx]; rfl
    rw [hx] at HT
    clear Ho HV hle hx
    go_enter Tryz.func119, Tryz.ntmps119
    go_wp2_with fail
    refine HT.mono ?_
    rintro e w1 ⟨⟨j, rfl⟩, b1⟩
    clear HT
    have hv1 : w1.cell? ⟨0, 0, none⟩ = some (errV a) := HX.out.1.2.below b1
    rw [show prefV a j (strO none) = .tuple #[.string ⟨#[]⟩, .int .i64 j, errV a] from rfl]
    go_wp2_with fail
    go_quiet (fail)
    have bf := drew_kd b1 nq
    go_wp2_with fail
    go_ret3
    exact ⟨⟨_, ret_pref0 Hn.out⟩, bf⟩
  | some r =>
    obtain ⟨v, q⟩ := r
    have hq := hle _ hx
    simp only at hq
    have HP : ∀ W, Calls Tryz.prog 55 #[.string (s.extract q s.size), .string ⟨#[34]⟩] W fun e w' => e = .returned (.bool (Lib.hasPrefix (tailL s q) [34])) ∧ w' = W := fun W => by
      have := Tryz.strings_HasPrefix (s.extract q s.size) ⟨#[34]⟩ W
      rw [tail_bytes] at this
      exact this
    rw [hx] at HT
    have q1 : (q : Int) ≤ (s.size : Int) := by omega
    have q2 : IntKind.i64.wrap ((q : Int) + 1) = (q : Int) + 1 := IntWalk.i64_in _ (by omega)
    cases hp : Lib.hasPrefix (tailL s q) [34]
    · have Hn : Hid (valO s k = none) := by
        show _ = _
        rw [HV.out, Ho.out, hx]
        simp only
        rw [hp]
        rfl
      rw [hp] at HP
      clear Ho HV hle hx hp
      go_enter Tryz.func119, Tryz.ntmps119
      go_wp2_with fail
      refine HT.mono ?_
      rintro e w1 ⟨⟨j, rfl⟩, b1⟩
      clear HT
      have hv1 : w1.cell? ⟨0, 0, none⟩ = some (errV a) := HX.out.1.2.below b1
      rw [show prefV a j (strO (some (v, q))) = .tuple #[.string (strB v), .int .i64 (q : Int), .nilIface] from rfl]
      generalize strB v = V at *
      go_wp2_with fail
      refine (HP _).mono ?_
      rintro e w2 ⟨rfl, rfl⟩
      clear HP
      go_wp2_with fail
      go_quiet (fail)
      have bf := drew_kd b1 nq
      go_wp2_with fail
      go_ret3
      exact ⟨⟨_, ret_pref0 Hn.out⟩, bf⟩
    · have Hn : Hid (valO s k = some (strB v, q + 1)) := by
        show _ = _
        rw [HV.out, Ho.out, hx]
        simp only
        rw [hp]
        rfl
      rw [hp] at HP
      clear Ho HV hle hx hp
      go_enter Tryz.func119, Tryz.ntmps119
      go_wp2_with fail
      refine HT.mono ?_
      rintro e w1 ⟨⟨j, rfl⟩, b1⟩
      clear HT
      rw [show prefV a j (strO (some (v, q))) = .tuple #[.string (strB v), .int .i64 (q : Int), .nilIface] from rfl]
      generalize strB v = V at *
      go_wp2_with fail
      refine (HP _).mono ?_
      rintro e w2 ⟨rfl, rfl⟩
      clear HP
      go_wp2_with fail
      go_ret3
      exact ⟨⟨0, ret_pref Hn.out (by rfl)⟩, b1⟩
end Go.Proofs.YtbmmghkieolpkaaGreatDoor.Sg

namespace Go.Proofs.YtbmmghkieolpkaaGreatDoor.Sg
open Go.ChangeShapes Go.WideShapes Go.ChangeAt Go.RowKit

/-- What strictAttrAt tells. -/
def pattrV (a : Addr) (x y : ByteArray) (j : Int) : Option (ByteArray × ByteArray × Nat) → Value
  | some r => .tuple #[.agg #[.string r.1, .string r.2.1], .int .i64 (r.2.2 : Int), .nilIface]
  | none => .tuple #[.agg #[.string x, .string y], .int .i64 j, errV a]
def attrO (s : ByteArray) (k : Nat) : Option (ByteArray × ByteArray × Nat) := (xattrR s k).map fun r => (s.extract k r.1, strB r.2.1, r.2.2 + 1)
theorem ret_pattr {a : Addr} {x y : ByteArray} {j : Int} {o : Option (ByteArray × ByteArray × Nat)} {n v : ByteArray} {m : Nat} {V : Value} (h : o = some (n, v, m)) (hv : V = .tuple #[.agg #[.string n, .string v], .int .i64 (m : Int), .nilIface]) : Ending.returned V = .returned (pattrV a x y j o) := by rw [h, hv]; rfl
theorem ret_pattr0 {a : Addr} {x y : ByteArray} {j : Int} {o : Option (ByteArray × ByteArray × Nat)} (h : o = none) : Ending.returned (.tuple #[.agg #[.string x, .string y], .int .i64 j, errV a]) = .returned (pattrV a x y j o) := by rw [h]; rfl
theorem eq_tail {s : ByteArray} {p : Nat} (h : p ≤ s.size) : standsB s p eqB = Lib.hasPrefix (tailL s p) [61, 34] := by
  obtain ⟨e, hl⟩ := ptail_all s p h
  have h1 := stands_pre (s.data.toList.take p) (tailL s p) [61, 34]
  rw [hl, ← e] at h1
  exact h1

set_option maxHeartbeats 4000000 in
theorem strictAttr_out (s : ByteArray) (i : Int) (a : Addr) (w : World) (h : i < 0 ∨ (s.size : Int) < i) (hX : PcX a w) :
    Calls Tryz.prog 100 #[.string s, .int .i64 i] w fun e w' => (∃ x y j, e = .returned (pattrV a x y j none)) ∧ Below w.heap.size w w' := by
  have HX : Hid (PcX a w) := hX
  have HX1 : Hid (PcX a (w.alloc (.cells #[.string ⟨#[]⟩, .string ⟨#[]⟩] 73))) := hX.below ((Below.refl _ _).alloc (Nat.le_refl _) _)
  have HN := xmlName_out s i a _ (by omega) HX1.out.1
  clear h hX
  go_enter Tryz.func100, Tryz.ntmps100
  go_wp2_with fail
  refine HN.mono ?_
  rintro e w1 ⟨rfl, b1⟩
  have X : Hid (Box2 _ w.heap.size) := Box2.of b1
  have B : Hid (Below w.heap.size w _) := below_box b1
  have hv1 : w1.cell? ⟨0, 0, none⟩ = some (errV a) := HX.out.1.2.below B.out
  clear b1 HN
  go_wp2_with fail
  have hg : 0 < w.heap.size := Classical.byContradiction fun h => by
    have h1 := HX.out.1.2
    unfold ErrA at h1
    simp [World.cell?, show w.heap[0]? = none from Array.getElem?_eq_none (by omega)] at h1
  obtain ⟨hx, hy, hf, hg', hs0, hs1⟩ := X.out
  go_region
  go_wp2_with fail
  refine bodyPost_ret (v := .tuple #[.agg #[.string ⟨#[]⟩, .string ⟨#[]⟩], .int .i64 i, errV a]) ?_ rfl ⟨⟨_, _, _, rfl⟩, ((B.out.setCell (Nat.le_refl _) _).setCell (Nat.le_refl _) _).drew⟩
  have t0 := hs0 (.string ⟨#[]⟩) (.string ⟨#[]⟩)
  have t1 := hs1 (.string ⟨#[]⟩) (.string ⟨#[]⟩)
  simp [results, Tryz.results100, go_sem, t0, t1]
theorem err_place {a : Addr} {w : World} (h : ErrA a w) : 0 < w.heap.size := Classical.byContradiction fun hn => by
  unfold ErrA at h
  simp [World.cell?, show w.heap[0]? = none from Array.getElem?_eq_none (by omega)] at h

set_option maxRecDepth 20000 in
set_option maxHeartbeats 8000000 in
theorem strictAttr_in (s : ByteArray) (k : Nat) (a : Addr) (w : World) (hk : k ≤ s.size) (hs : s.size ≤ 1073741824) (hX : PcX a w) :
    Calls Tryz.prog 100 #[.string s, .int .i64 (k : Int)] w fun e w' => (∃ x y j, e = .returned (pattrV a x y j (attrO s k))) ∧ Below w.heap.size w w' := by
  have HX : Hid (PcX a w) := hX
  have HX1 : Hid (PcX a (w.alloc (.cells #[.string ⟨#[]⟩, .string ⟨#[]⟩] 73))) := hX.below ((Below.refl _ _).alloc (Nat.le_refl _) _)
  have HN := xmlName_in s k a _ hk hs HX1.out.1
  have hle := xnameE_le s s.size k true (by omega) hk
  have HA : Hid (attrO s k = (xattrR s k).map fun r => (s.extract k r.1, strB r.2.1, r.2.2 + 1)) := rfl
  have HP := xattr_prog hk
  have hg := err_place hX.1.2
  clear hX
  generalize xnameE s true k = n at *
  by_cases hnk : n = k
  · have Hn : Hid (attrO s k = none) := by show _ = _; rw [HA.out, HP, if_pos (.inl hnk)]; rfl
    subst hnk
    rw [extract_none] at HN
    clear HA HP
    go_enter Tryz.func100, Tryz.ntmps100
    go_wp2_with fail
    refine HN.mono ?_
    rintro e w1 ⟨rfl, b1⟩
    have X : Hid (Box2 _ w.heap.size) := Box2.of b1
    have B : Hid (Below w.heap.size w _) := below_box b1
    have hv1 : w1.cell? ⟨0, 0, none⟩ = some (errV a) := HX.out.1.2.below B.out
    clear b1 HN
    go_wp2_with fail
    obtain ⟨hx, hy, hf, hg', hs0, hs1⟩ := X.out
    go_region
    go_wp2_with fail
    refine bodyPost_ret (v := .tuple #[.agg #[.string ⟨#[]⟩, .string ⟨#[]⟩], .int .i64 (n : Int), errV a]) ?_ rfl ⟨⟨_, _, _, ret_pattr0 Hn.out⟩, ((B.out.setCell (Nat.le_refl _) _).setCell (Nat.le_refl _) _).drew⟩
    have t0 := hs0 (.string ⟨#[]⟩) (.string ⟨#[]⟩)
    have t1 := hs1 (.string ⟨#[]⟩) (.string ⟨#[]⟩)
    simp [results, Tryz.results100, go_sem, t0, t1]
  · have hnm : ((s.extract k n).toList == []) = false := by
      rw [beq_eq_false_iff_ne, ByteArray.toList_eq]
      intro h
      have h2 := congrArg List.length h
      rw [Array.length_toList] at h2
      have h3 : (s.extract k n).size = 0 := h2
      rw [ByteArray.size_extract] at h3
      omega
    have HH : ∀ W, Calls Tryz.prog 55 #[.string (s.extract n s.size), .string ⟨#[61, 34]⟩] W fun e w' => e = .returned (.bool (standsB s n eqB)) ∧ w' = W := fun W => by
      have h := Tryz.strings_HasPrefix (s.extract n s.size) ⟨#[61, 34]⟩ W
      rw [tail_bytes] at h
      rw [eq_tail hle.2]
      exact h
    have q1 : (n : Int) ≤ (s.size : Int) := by omega
    cases hst : standsB s n eqB
    · have Hn : Hid (attrO s k = none) := by show _ = _; rw [HA.out, HP, if_pos (.inr hst)]; rfl
      rw [hst] at HH
      clear HA HP hst
      generalize s.extract k n = nm at *
      go_enter Tryz.func100, Tryz.ntmps100
      go_wp2_with fail
      refine HN.mono ?_
      rintro e w1 ⟨rfl, b1⟩
      have X : Hid (Box2 _ w.heap.size) := Box2.of b1
      have B : Hid (Below w.heap.size w _) := below_box b1
      have hv1 : w1.cell? ⟨0, 0, none⟩ = some (errV a) := HX.out.1.2.below B.out
      clear b1 HN
      go_wp2_with fail
      refine (HH _).mono ?_
      rintro e w2 ⟨rfl, rfl⟩
      clear HH
      go_wp2_with fail
      obtain ⟨hx, hy, hf, hg', hs0, hs1⟩ := X.out
      go_region
      go_wp2_with fail
      refine bodyPost_ret (v := .tuple #[.agg #[.string ⟨#[]⟩, .string ⟨#[]⟩], .int .i64 (k : Int), errV a]) ?_ rfl ⟨⟨_, _, _, ret_pattr0 Hn.out⟩, ((B.out.setCell (Nat.le_refl _) _).setCell (Nat.le_refl _) _).drew⟩
      have t0 := hs0 (.string ⟨#[]⟩) (.string ⟨#[]⟩)
      have t1 := hs1 (.string ⟨#[]⟩) (.string ⟨#[]⟩)
      simp [results, Tryz.results100, go_sem, t0, t1]
    · have h2 : n + 2 ≤ s.size := stands_le hst
      have Hd : Hid (attrO s k = (valP s (n + 2)).map fun r => (s.extract k n, strB r.1, r.2 + 1)) := by
        show _ = _
        rw [HA.out, HP, if_neg (fun h => h.elim hnk (fun h => by rw [hst] at h; cases h)), Option.map_map]
        rfl
      have HV := fun W h => implValueAt s (n + 2) a W h2 hs h
      rw [show ((n + 2 : Nat) : Int) = (n : Int) + 2 by omega] at HV
      have HVo : Hid (valO s (n + 2) = (valP s (n + 2)).map fun r => (strB r.1, r.2 + 1)) := rfl
      have q2 : IntKind.i64.wrap ((n : Int) + 2) = (n : Int) + 2 := IntWalk.i64_in _ (by omega)
      rw [hst] at HH
      clear HA HP hst
      generalize s.extract k n = nm at *
      cases ho : valP s (n + 2) with
      | none =>
        have Hn : Hid (attrO s k = none) := by show _ = _; rw [Hd.out, ho]; rfl
        rw [HVo.out, ho] at HV
        clear Hd HVo ho
        go_enter Tryz.func100, Tryz.ntmps100
        go_wp2_with fail
        refine HN.mono ?_
        rintro e w1 ⟨rfl, b1⟩
        have B0 := below_box b1
        go_wp2_with fail
        refine (HH _).mono ?_
        rintro e w2 ⟨rfl, rfl⟩
        clear HH
        go_wp2_with fail
        refine (HV _ (HX.out.below B0)).mono ?_
        rintro e w3 ⟨⟨j, rfl⟩, b3⟩
        have b4 := b1.trans (b3.mono b1.size)
        have X : Hid (Box2 _ w.heap.size) := Box2.of b4
        have B : Hid (Below w.heap.size w _) := below_box b4
        clear b1 b3 b4 B0 HN HV
        rw [show prefV a j (none.map fun r : List UInt8 × Nat => (strB r.1, r.2 + 1)) = .tuple #[.string ⟨#[]⟩, .int .i64 j, errV a] from rfl]
        obtain ⟨hx, hy, hf, hg', hs0, hs1⟩ := X.out
        go_wp2_with fail
        refine bodyPost_ret (v := .tuple #[.agg #[.string nm, .string ⟨#[]⟩], .int .i64 j, errV a]) ?_ rfl ⟨⟨_, _, _, ret_pattr0 Hn.out⟩, (B.out.setCell (Nat.le_refl _) _).setCell (Nat.le_refl _) _⟩
        have t0 := hs0 (.string nm) (.string ⟨#[]⟩)
        have t1 := hs1 (.string nm) (.string ⟨#[]⟩)
        simp [results, Tryz.results100, go_sem, t0, t1]
      | some r =>
        obtain ⟨v, q⟩ := r
        have Hn : Hid (attrO s k = some (nm, strB v, q + 1)) := by show _ = _; rw [Hd.out, ho]; rfl
        rw [HVo.out, ho] at HV
        clear Hd HVo ho
        go_enter Tryz.func100, Tryz.ntmps100
        go_wp2_with fail
        refine HN.mono ?_
        rintro e w1 ⟨rfl, b1⟩
        have B0 := below_box b1
        go_wp2_with fail
        refine (HH _).mono ?_
        rintro e w2 ⟨rfl, rfl⟩
        clear HH
        go_wp2_with fail
        refine (HV _ (HX.out.below B0)).mono ?_
        rintro e w3 ⟨⟨j, rfl⟩, b3⟩
        have b4 := b1.trans (b3.mono b1.size)
        have X : Hid (Box2 _ w.heap.size) := Box2.of b4
        have B : Hid (Below w.heap.size w _) := below_box b4
        clear b1 b3 b4 B0 HN HV
        rw [show prefV a j ((some (v, q)).map fun r : List UInt8 × Nat => (strB r.1, r.2 + 1)) = .tuple #[.string (strB v), .int .i64 ((q + 1 : Nat) : Int), .nilIface] from rfl]
        generalize strB v = V at *
        obtain ⟨hx, hy, hf, hg', hs0, hs1⟩ := X.out
        go_wp2_with fail
        refine bodyPost_ret (v := .tuple #[.agg #[.string nm, .string V], .int .i64 ((q + 1 : Nat) : Int), .nilIface]) ?_ rfl ⟨⟨nm, V, 0, ret_pattr Hn.out rfl⟩, (B.out.setCell (Nat.le_refl _) _).setCell (Nat.le_refl _) _⟩
        have t0 := hs0 (.string nm) (.string V)
        have t1 := hs1 (.string nm) (.string V)
        simp [results, Tryz.results100, go_sem, t0, t1]

end Go.Proofs.YtbmmghkieolpkaaGreatDoor.Sg
