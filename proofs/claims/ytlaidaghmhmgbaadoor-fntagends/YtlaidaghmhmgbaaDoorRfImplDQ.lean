/- Contract of the program's Refs. -/
import Derived.Test.YtlaidaghmhmgbaaDoorRfImplCQ
import Derived.Test.YtlaidaghmhmgbaaDoorRfRefsQ
import Derived.Test.YtlaidaghmhmgbaaDoorSgBuild
namespace Go.Proofs.YtlaidaghmhmgbaaDoor.Sg
open Go.ChangeShapes Go.WideShapes Go.ChangeAt Go.RowKit

theorem ownsF_below {w w' : World} {base : Nat} {e : TypeId} {size : Nat} {v : Value} {n : Nat} {xs : List Value} (h : w.ownsRowF base e size v n xs) (hb : Below w.heap.size w w') : w'.ownsRowF base e size v n xs := by
  obtain ⟨h1, h2⟩ := h
  refine ⟨h1, ?_⟩
  rcases h2 with h2 | ⟨g, cap, cur, fz, h2, h3, h4, h5⟩
  · exact .inl h2
  · have hg : g < w.heap.size := (Array.getElem?_eq_some_iff.1 h4).1
    exact .inr ⟨g, cap, cur, fz, h2, h3, (hb.block g hg).trans h4, h5⟩
theorem at_below {T e : TypeId} {B b : Nat} {p : Value} {bs : List Value} {w w' : World} (h : Lib.BuilderAtF T e B b p bs w) (hb : Below w.heap.size w w') : Lib.BuilderAtF T e B b p bs w' := by
  obtain ⟨hB, v, hk, ho, hn⟩ := h
  exact ⟨hB, v, (hb.block b (Array.getElem?_eq_some_iff.1 hk).1).trans hk, ownsF_below ho hb, hn⟩
theorem isb_below {T e : TypeId} {B b : Nat} {bs : List Value} {w w' : World} (h : Lib.IsBuilderF T e B b bs w) (hb : Below w.heap.size w w') : Lib.IsBuilderF T e B b bs w' := by
  rcases h with h | h
  · exact .inl (at_below h hb)
  · exact .inr (at_below h hb)

set_option maxHeartbeats 2000000 in
theorem implRefs (s : ByteArray) (value : Bool) (w : World) (hs : s.size ≤ 1099511627776) (hT : Mid w) :
    Calls Tryd.prog 24 #[.string s, .bool value] w fun e w' => e = .returned (.string (strB (refsL value s.data.toList))) ∧ Below w.heap.size w w' := by
  have HT : Hid (Mid w) := hT
  have HR : Hid (∀ (k : Nat) (w' : World), Mid w' → Calls Tryd.prog 22 #[.string s, .int .i64 (k : Int), .bool value] w' fun e w2 => e = .returned (refV (refO s (k : Int) value)) ∧ Below w'.heap.size w' w2) := fun k w' h => implRef s k value w' (by omega) h
  clear hT
  go_enter Tryd.func24, Tryd.ntmps24
  go_wp2
  go_loopw [6] (fun i wr => ∃ (k : Nat) (acc : List UInt8), k ≤ s.size ∧ acc.length ≤ 4 * k ∧ i = .int .i64 k ∧ Lib.IsBuilderF 74 5 w.heap.size w.heap.size (Lib.byteCells acc) wr ∧ Below w.heap.size w wr ∧ Hid (acc ++ refsL value (tailL s k) = refsL value s.data.toList)) (fun i _ => s.size - (intOf i).toNat)
  case atStart => exact ⟨0, [], Nat.zero_le _, Nat.zero_le _, rfl, Lib.IsBuilderF.of (Lib.fresh_isBuilder 74 5 w), (Below.refl _ _).alloc (Nat.le_refl _) _, rfl⟩
  case round =>
    obtain ⟨k, acc, hk, hal, rfl, hI, hbel, Hacc⟩ := hrel
    have hT1 : Mid wr := HT.out.below (Nat.le_refl _) hbel
    by_cases hlt : k < s.size
    · have Hc := HR.out k wr hT1
      clear hT1
      cases hr : refO s (k : Int) value with
      | none =>
        have hst := refsL_none hlt hr
        rw [hr] at Hc
        have Hst : Hid ((acc ++ [s[k]'hlt]) ++ refsL value (tailL s (k + 1)) = refsL value s.data.toList) := by
          show _ = _
          rw [← Hacc.out, hst]
          simp
        clear hst Hacc hr
        go_wp2_with fail
        refine Hc.mono ?_
        rintro e w1 ⟨rfl, hb1⟩
        simp only [refV]
        have hI1 : Lib.IsBuilderF 74 5 w.heap.size w.heap.size (Lib.byteCells acc) w1 := isb_below hI hb1
        have hbel1 : Below w.heap.size w w1 := hbel.trans (hb1.mono hbel.size)
        clear hb1 hI hbel Hc
        go_wp2_with fail
        refine (writeByte w.heap.size w.heap.size (Lib.byteCells acc) _ _ hI1 ?_ hbel1.size).mono ?_
        · rw [Lib.byteCells_length]
          omega
        rintro e w2 ⟨rfl, hI2, hb2⟩
        have hI3 : Lib.IsBuilderF 74 5 w.heap.size w.heap.size (Lib.byteCells (acc ++ [s[k]'hlt])) w2 := by
          rw [byteCells_more]
          exact .inr hI2
        have hbel2 := hbel1.trans hb2
        clear hI1 hI2 hb2 hbel1
        go_wp2
        go_roundw
        case rel => exact ⟨k + 1, acc ++ [s[k]'hlt], by omega, by simp; omega, by go_num, hI3, hbel2, Hst⟩
        case measure => simp [intOf]; omega
      | some q =>
        obtain ⟨z, m⟩ := q
        obtain ⟨hst, hm1, hm2⟩ := refsL_some hlt hr
        rw [hr] at Hc
        have Hst : Hid ((acc ++ (putS z).data.toList) ++ refsL value (tailL s (k + (m + 1))) = refsL value s.data.toList) := by
          show _ = _
          rw [← Hacc.out, hst, List.append_assoc]
        have hps := putS_size z
        have hpl : (putS z).data.toList.length = (putS z).size := Array.length_toList
        have g0 : (((m : Int) + 1) == 0) = false := by simp; omega
        clear hst Hacc hr
        go_wp2_with fail
        refine Hc.mono ?_
        rintro e w1 ⟨rfl, hb1⟩
        simp only [refV]
        have hI1 : Lib.IsBuilderF 74 5 w.heap.size w.heap.size (Lib.byteCells acc) w1 := isb_below hI hb1
        have hbel1 : Below w.heap.size w w1 := hbel.trans (hb1.mono hbel.size)
        clear hb1 hI hbel Hc
        go_wp2_with fail
        refine (writeString w.heap.size w.heap.size (Lib.byteCells acc) (putS z) _ hI1 ?_ hbel1.size).mono ?_
        · rw [Lib.byteCells_length]
          omega
        rintro e w2 ⟨rfl, hI2, hb2, _⟩
        have hI3 : Lib.IsBuilderF 74 5 w.heap.size w.heap.size (Lib.byteCells (acc ++ (putS z).data.toList)) w2 := by
          have e2 : Lib.byteCells (acc ++ (putS z).data.toList) = Lib.byteCells acc ++ Lib.strCells (putS z) := by simp [Lib.byteCells, Lib.strCells]
          rw [e2]
          exact .inr hI2
        have hbel2 := hbel1.trans hb2
        clear hI1 hI2 hb2 hbel1
        go_wp2
        go_roundw
        case rel => exact ⟨k + (m + 1), acc ++ (putS z).data.toList, hm2, by rw [List.length_append, hpl]; omega, by go_num, hI3, hbel2, Hst⟩
        case measure => simp [intOf]; omega
    · have he : acc = refsL value s.data.toList := by
        have h := Hacc.out
        rw [refsL_end hlt, List.append_nil] at h
        exact h
      have Hbk : Hid (strB acc = strB (refsL value s.data.toList)) := congrArg strB he
      have hdl : decide ((k : Int) < (s.size : Int)) = false := decide_eq_false (by omega)
      clear he Hacc hT1
      go_wp2_with fail
      refine (Tryd.Builder_String_any_k w.heap.size w.heap.size acc _ hI hbel.size).mono ?_
      rintro e w2 ⟨rfl, _, hb2, _⟩
      have b2 := hbel.trans hb2
      clear hI hbel hb2
      go_wp2
      go_ret
      exact ⟨ret_txt Hbk.out, b2⟩

end Go.Proofs.YtlaidaghmhmgbaaDoor.Sg
