/- Contracts of the model's Named, NameSign and l3Longest. -/
import Derived.Test.YtlaidaghmhmgbaaDoorM01
import Derived.Test.YtlaidaghmhmgbaaDoorRfNumQ
import Derived.Test.YtlaidaghmhmgbaaDoorKdModelQ
import Derived.BigQuiet
import Derived.Deep.QuietTactic
namespace Go.Proofs.YtlaidaghmhmgbaaDoor.Sg
open Go.ChangeShapes Go.WideShapes Go.ChangeAt Go.RowKit

/-- A text of some bytes. -/
def strB (l : List UInt8) : ByteArray := ⟨l.toArray⟩
theorem strB_size (l : List UInt8) : (strB l).size = l.length := by simp [strB, ByteArray.size]
theorem strB_inj {l m : List UInt8} (h : strB l = strB m) : l = m := by
  have := congrArg (fun s : ByteArray => s.data.toList) h
  simpa [strB] using this
theorem strB_of (s : ByteArray) : strB s.data.toList = s := by simp [strB]

theorem str_eq {y : List UInt8} {s : ByteArray} (h : y = s.data.toList) : ((strB y).toList == s.toList) = true := by
  rw [ByteArray.toList_eq, ByteArray.toList_eq, ← h]
  simp [strB]
theorem str_ne {y : List UInt8} {s : ByteArray} (h : y ≠ s.data.toList) : ((strB y).toList == s.toList) = false := by
  rw [ByteArray.toList_eq, ByteArray.toList_eq]
  simpa [strB] using h

/-- Texts lie one behind the other from a block's beginning. -/
def Texts (w : World) (b : Nat) (ls : List (List UInt8)) : Prop :=
  b < w.heap.size ∧ ∀ k, k < ls.length → w.cell? ⟨b, k, none⟩ = some (.string (strB (ls.getD k [])))

theorem Texts.laid (w : World) (ls : List (List UInt8)) (C : Array Value) (t : TypeId) (hC : C = (ls.map fun l => Value.string (strB l)).toArray) : Texts (w.alloc (.cells C t)) w.heap.size ls := by
  subst hC
  refine ⟨by simp, fun k hk => ?_⟩
  rw [World.cell?_alloc_new, List.getElem?_toArray, List.getElem?_map]
  simp [List.getD, hk]

theorem Texts.below {w w' : World} {b : Nat} {ls : List (List UInt8)} (h : Texts w b ls) {B : Nat} (hB : b < B) (hb : Below B w w') : Texts w' b ls :=
  ⟨Nat.lt_of_lt_of_le h.1 hb.size, fun k hk => (hb.cell hB).trans (h.2 k hk)⟩

set_option maxHeartbeats 1000000 in
theorem specNamed (w : World) :
    Calls Tryd.prog 74 #[] w fun e w' => e = .returned (.slice (some ⟨w.heap.size, 0, none⟩) 14 14) ∧ Texts w' w.heap.size nameL ∧ Below w.heap.size w w' := by
  go_enter Tryd.func74, Tryd.ntmps74
  go_wp2
  go_ret
  exact ⟨rfl, Texts.laid w nameL _ _ rfl, (Below.refl _ _).alloc (Nat.le_refl _) _⟩

theorem signG_drop (T : List (List UInt8 × Int)) (x : List UInt8) (k : Nat) (h : k < T.length) : signG (T.drop k) x = if ((T.map (·.1)).getD k []) = x then (T.map (·.2)).getD k 0 else signG (T.drop (k + 1)) x := by
  rw [List.drop_eq_getElem_cons h]
  simp [signG, List.getD, h]

theorem sign_cell (w : World) (C : Array Value) (t : TypeId) (hC : C = (signL.map (Value.int .i64)).toArray) (k : Nat) (hk : k < 14) :
    (w.alloc (.cells C t)).cell? ⟨w.heap.size, k, none⟩ = some (.int .i64 (signL.getD k 0)) := by
  subst hC
  rw [World.cell?_alloc_new, List.getElem?_toArray, List.getElem?_map]
  have hl : k < signL.length := hk
  simp [List.getD, hl]

set_option maxHeartbeats 1000000 in
theorem specNameSign (s : ByteArray) (w : World) :
    Calls Tryd.prog 55 #[.string s] w fun e w' => e = .returned (.int .i64 (signG nameT s.data.toList)) ∧ Below w.heap.size w w' := by
  go_enter Tryd.func55, Tryd.ntmps55
  go_wp2_with fail
  refine (specNamed _).mono ?_
  rintro e w1 ⟨rfl, ht, hb1⟩
  have Hc : Hid (∀ k, k < 14 → w1.cell? ⟨w.heap.size, k, none⟩ = some (.int .i64 (signL.getD k 0))) := fun k hk => (hb1.cell (by simp)).trans (sign_cell w _ _ rfl k hk)
  have Ht : Hid (∀ k, k < 14 → w1.cell? ⟨w.heap.size + 1, k, none⟩ = some (.string (strB (nameL.getD k [])))) := fun k hk => by
    have h := ht.2 k hk
    simpa using h
  have hz : w.heap.size + 1 < w1.heap.size := by simpa using ht.1
  have b1 : Below w.heap.size w w1 := ((Below.refl _ _).alloc (Nat.le_refl _) _).trans (hb1.mono (by simp))
  clear ht hb1
  go_wp2
  go_loopw [5] (fun i wr => ∃ k : Nat, k ≤ 14 ∧ i = .int .i64 k ∧ Hid (signG nameT s.data.toList = signG (nameT.drop k) s.data.toList) ∧ Below w1.heap.size w1 wr) (fun i _ => 14 - (intOf i).toNat)
  case atStart => exact ⟨0, Nat.zero_le _, rfl, rfl, Below.refl _ _⟩
  case round =>
    obtain ⟨k, hk, rfl, Hsp, hbel⟩ := hrel
    by_cases hlk : k < 14
    · have hd : signG (nameT.drop k) s.data.toList = if nameL.getD k [] = s.data.toList then signL.getD k 0 else signG (nameT.drop (k + 1)) s.data.toList := signG_drop nameT _ k hlk
      have hc1 : wr.cell? ⟨w.heap.size + 1, k, none⟩ = some (.string (strB (nameL.getD k []))) := (hbel.cell (by simpa using hz)).trans (Ht.out k hlk)
      have hc2 : wr.cell? ⟨w.heap.size, k, none⟩ = some (.int .i64 (signL.getD k 0)) := (hbel.cell (by simp; omega)).trans (Hc.out k hlk)
      by_cases he : nameL.getD k [] = s.data.toList
      · have g : ((strB (nameL.getD k [])).toList == s.toList) = true := str_eq he
        have Hn : Hid (signG nameT s.data.toList = signL.getD k 0) := by
          show _ = _
          rw [Hsp.out, hd, if_pos he]
        clear he hd
        generalize strB (nameL.getD k []) = y at *
        generalize signL.getD k 0 = z at *
        go_wp2
        go_ret
        exact ⟨ret_i64 Hn.out.symm, b1.trans (hbel.mono b1.size)⟩
      · have g : ((strB (nameL.getD k [])).toList == s.toList) = false := str_ne he
        have Hn : Hid (signG nameT s.data.toList = signG (nameT.drop (k + 1)) s.data.toList) := by
          show _ = _
          rw [Hsp.out, hd, if_neg he]
        clear he hd
        generalize strB (nameL.getD k []) = y at *
        go_wp2
        go_roundw
        case rel => exact ⟨k + 1, by omega, by go_num, Hn, hbel⟩
        case measure => simp [intOf]; omega
    · have Hn : Hid (signG nameT s.data.toList = -1) := by
        show _ = _
        rw [Hsp.out, List.drop_eq_nil_of_le (show nameT.length ≤ k by show 14 ≤ k; omega)]
        rfl
      go_wp2
      go_ret
      exact ⟨ret_i64 Hn.out.symm, b1.trans (hbel.mono b1.size)⟩

end Go.Proofs.YtlaidaghmhmgbaaDoor.Sg
