/- Contract of the program's attrNamed. -/
import Derived.Test.YtbmmghkieolpkaaGreatDoorMW207
import Derived.Test.YtbmmghkieolpkaaGreatDoorMW211
import Derived.ArgAppend
namespace Go.Proofs.YtbmmghkieolpkaaGreatDoor.Sg
open Go.ChangeShapes Go.WideShapes Go.ChangeAt Go.RowKit

/-- The attribute of that name; the empty one where there is none. -/
def findA : List AttrB → ByteArray → AttrB
  | [], _ => (⟨#[]⟩, ⟨#[]⟩)
  | p :: l, x => if p.1.toList == x.toList then p else findA l x
theorem findA_drop (l : List AttrB) (x : ByteArray) (k : Nat) (h : k < l.length) : findA (l.drop k) x = if (l.getD k (ByteArray.empty, ByteArray.empty)).1.toList == x.toList then l.getD k (ByteArray.empty, ByteArray.empty) else findA (l.drop (k + 1)) x := by
  have e : l.getD k (ByteArray.empty, ByteArray.empty) = l[k]'h := by simp [List.getD, h]
  rw [List.drop_eq_getElem_cons h, findA, e]
theorem findA_none (l : List AttrB) (x : ByteArray) (h : hasA l x = false) : findA l x = (⟨#[]⟩, ⟨#[]⟩) := by
  induction l with
  | nil => rfl
  | cons p l ih =>
    unfold hasA at h
    rw [List.any_cons] at h
    have h1 : (p.1.toList == x.toList) = false := by
      cases hh : p.1.toList == x.toList
      · rfl
      · rw [hh] at h; cases h
    rw [h1] at h
    rw [findA, h1]
    exact ih h
theorem findA_some (l : List AttrB) (x : ByteArray) (h : hasA l x = true) : (findA l x).1.toList = x.toList := by
  induction l with
  | nil => cases h
  | cons p l ih =>
    rw [findA]
    cases hh : p.1.toList == x.toList
    · unfold hasA at h
      rw [List.any_cons, hh] at h
      exact ih h
    · exact beq_iff_eq.1 hh

set_option maxHeartbeats 2000000 in
theorem implAttrNamed (l : List AttrB) (x : ByteArray) (a : Option Addr) (n cap : Nat) (w : World) (ha : AttrsAt w a l) (hl : l.length = n) (hn : n ≤ 17592186044416) (y z : ByteArray) (Hy : Hid (findA l x = (y, z))) :
    Calls Tryz.prog 77 #[.slice a n cap, .string x] w fun e w' => e = .returned (.agg #[.string y, .string z]) ∧ Below w.heap.size w w' := by
  have Hl : Hid (l.length = n) := hl
  have Ha : Hid (AttrsAt w a l) := ha
  clear hl ha
  go_enter Tryz.func77, Tryz.ntmps77
  go_wp2
  go_loopw [9] (fun v wr => ∃ k : Nat, k ≤ n ∧ v = .int .i64 (k : Int) ∧ Hid (findA (l.drop k) x = (y, z)) ∧ Below w.heap.size w wr ∧ Hid (Two wr w.heap.size (.string ⟨#[]⟩) (.string ⟨#[]⟩))) (fun v _ => n - (intOf v).toNat)
  case atStart => exact ⟨0, Nat.zero_le _, rfl, Hy, (Below.refl _ _).alloc (Nat.le_refl _) _, Two.new _ _ _ _⟩
  case round =>
    obtain ⟨k, hk, rfl, Hsp, hbel, HT⟩ := hrel
    obtain ⟨z0, t0, t1, f0, f1⟩ := HT.out
    by_cases hlt : k < n
    · have hkl : k < l.length := by rw [Hl.out]; exact hlt
      rcases Ha.out with h | ⟨b, rfl, hb, hc⟩
      · rw [h] at hkl
        exact absurd hkl (Nat.not_lt_zero _)
      have hd := findA_drop l x k hkl
      obtain ⟨c1, c2⟩ := hc k hkl
      clear hc hkl
      have c1' := (hbel.cell (p := ⟨b, k * 2, none⟩) hb).trans c1
      have c2' := (hbel.cell (p := ⟨b, k * 2 + 1, none⟩) hb).trans c2
      clear c1 c2
      generalize l.getD k (ByteArray.empty, ByteArray.empty) = p at *
      obtain ⟨p1, p2⟩ := p
      have k0 : (0 : Int) ≤ (k : Int) := by omega
      have k1 : (k : Int) < (n : Int) := by omega
      cases hq : p1.toList == x.toList
      · have Hn : Hid (findA (l.drop (k + 1)) x = (y, z)) := by
          show _ = _
          rw [← Hsp.out, hd]
          simp only [hq]
          rfl
        clear hd Hsp
        go_wp2_with fail
        go_roundw
        case rel => exact ⟨k + 1, by omega, by go_num, Hn, hbel.alloc hbel.size _, HT.out.alloc _⟩
        case measure => simp [intOf]; omega
      · have Hn : Hid ((p1, p2) = (y, z)) := by
          show _ = _
          rw [← Hsp.out, hd]
          simp only [hq]
          rfl
        have T := HT.out.set (.string p1) (.string p2)
        clear hd Hsp
        go_wp2_with fail
        have T2 := T.alloc (.cells #[.string p1, .string p2] 73)
        refine bodyPost_ret (v := .agg #[.string p1, .string p2]) ?_ rfl ⟨congrArg (fun q : AttrB => Ending.returned (.agg #[.string q.1, .string q.2])) Hn.out, ?_⟩
        · simp [results, Tryz.results77, go_sem, T2.2.1, T2.2.2.1]
        · exact ((hbel.setCell (Nat.le_refl _) _).setCell (Nat.le_refl _) _).alloc (by simp; omega) _
    · have Hn : Hid ((⟨#[]⟩, ⟨#[]⟩) = (y, z)) := by
        show _ = _
        rw [← Hsp.out, List.drop_eq_nil_of_le (by have := Hl.out; omega)]
        rfl
      have g0 : decide ((k : Int) < (n : Int)) = false := decide_eq_false (by omega)
      have T := HT.out.set (.string ⟨#[]⟩) (.string ⟨#[]⟩)
      clear Hsp
      go_wp2_with fail
      refine bodyPost_ret (v := .agg #[.string ⟨#[]⟩, .string ⟨#[]⟩]) ?_ rfl ⟨congrArg (fun q : AttrB => Ending.returned (.agg #[.string q.1, .string q.2])) Hn.out, ?_⟩
      · simp [results, Tryz.results77, go_sem, T.2.1, T.2.2.1]
      · exact (hbel.setCell (Nat.le_refl _) _).setCell (Nat.le_refl _) _

theorem eq_zero_yes (w : World) : (Op.equalIn 10000 73 (.agg #[.string ⟨#[]⟩, .string ⟨#[]⟩]) (.agg #[.string ⟨#[]⟩, .string ⟨#[]⟩])).run Tryz.prog w = .ok true w := by
  rw [eq_attr]
  simp
theorem eq_zero_no (y z : ByteArray) (h : y.toList ≠ []) (w : World) : (Op.equalIn 10000 73 (.agg #[.string y, .string z]) (.agg #[.string ⟨#[]⟩, .string ⟨#[]⟩])).run Tryz.prog w = .ok false w := by
  have e : (y.toList == (⟨#[]⟩ : ByteArray).toList) = false := by
    apply Bool.eq_false_iff.2
    intro h2
    apply h
    rw [beq_iff_eq.1 h2]
    exact ByteArray.toList_mk _
  rw [eq_attr, e]
  rfl

end Go.Proofs.YtbmmghkieolpkaaGreatDoor.Sg
