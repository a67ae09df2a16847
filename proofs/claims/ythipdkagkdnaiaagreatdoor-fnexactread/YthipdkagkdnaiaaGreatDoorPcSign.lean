/- Contract of the program's signAt. -/
import Derived.Test.YthipdkagkdnaiaaGreatDoorMRD06
import Derived.Test.YthipdkagkdnaiaaGreatDoorPcRead
import Derived.Test.YthipdkagkdnaiaaGreatDoorMRD08
namespace Go.Proofs.YthipdkagkdnaiaaGreatDoor.Sg
open Go.ChangeShapes Go.WideShapes Go.ChangeAt Go.RowKit

/-- What is read of the world: the library's tables, and the error. -/
def PcT (a : Addr) (w : World) : Prop := Lib.Utf8Tabs 2 3 w ∧ ErrA a w
theorem PcT.below {a : Addr} {w w' : World} (h : PcT a w) (hb : Below w.heap.size w w') : PcT a w' := ⟨Utf8Tabs_below h.1 hb, h.2.below hb⟩

set_option maxHeartbeats 2000000 in
theorem signAt_out (s : ByteArray) (i : Int) (a : Addr) (w : World) (h : i < 0 ∨ (s.size : Int) ≤ i) (hE : ErrA a w) :
    Calls Tryz.prog 97 #[.string s, .int .i64 i] w fun e w' => e = .returned (.tuple #[.int .i64 0, .int .i64 i, errV a]) ∧ Below w.heap.size w w' := by
  have hv : w.cell? ⟨0, 0, none⟩ = some (errV a) := hE
  have HG := implGet_out s i w h
  clear hE h
  go_enter Tryz.func97, Tryz.ntmps97
  go_wp2_with fail
  refine HG.mono ?_
  rintro e w1 ⟨rfl, rfl⟩
  clear HG
  go_wp2_with fail
  go_quiet (fail)
  have bf := drew_kd (Below.refl w1.heap.size w1) nq
  have hv1 := keep_cell bf hv
  generalize w1.drewN nq = w2 at *
  go_wp2_with fail
  go_quiet (fail)
  have bg := drew_kd bf nq
  go_wp2_with fail
  go_ret3
  exact ⟨rfl, bg⟩
set_option maxHeartbeats 2000000 in
theorem signAt_yes (s : ByteArray) (k : Nat) (a : Addr) (w : World) (hk : k < s.size) (hs : s.size ≤ 17592186044416) (hT : PcT a w) (hr : asRead s k = true) :
    Calls Tryz.prog 97 #[.string s, .int .i64 (k : Int)] w fun e w' => e = .returned (.tuple #[.int .i64 ((getS s k).1 : Int), .int .i64 ((k + (getS s k).2 : Nat) : Int), .nilIface]) ∧ Below w.heap.size w w' := by
  have hm := getS_many s k hk
  have HG := implGet_in s k w hk (by omega) hT.1
  have Hr : Hid (((putS ((getS s k).1 : Int)).toList == (s.extract k (k + (getS s k).2)).toList) = true) := hr
  clear hr hT
  generalize (getS s k).1 = n at *
  generalize (getS s k).2 = m at *
  have q0 : ((m : Int) == 0) = false := by rw [beq_eq_false_iff_ne]; omega
  have q1 : IntKind.i64.wrap ((k : Int) + (m : Int)) = (k : Int) + (m : Int) := IntWalk.i64_in _ (by omega)
  have q2 : ((k : Int) + (m : Int)).toNat = k + m := by omega
  have q3 : (k : Int) ≤ (k : Int) + (m : Int) := by omega
  have q4 : (k : Int) + (m : Int) ≤ (s.size : Int) := by omega
  by_cases hb : n = 65533
  · subst hb
    have q5 : ((s.extract k (k + m)).toList == (putS 65533).toList) = true := by
      have := Hr.out
      rw [beq_iff_eq] at this ⊢
      exact this.symm
    have HP := implPutSign 65533
    generalize putS 65533 = P at *
    go_enter Tryz.func97, Tryz.ntmps97
    go_wp2_with fail
    refine HG.mono ?_
    rintro e w1 ⟨rfl, b1⟩
    clear HG
    go_wp2_with fail
    go_quiet ((go_at_call 114; exact Calls.quiet_of_same (HP _)))
    have bf := drew_kd b1 nq
    go_wp2_with fail
    go_ret3
    exact ⟨by rw [Int.natCast_add]; rfl, bf⟩
  · have q5 : ((n : Int) == 65533) = false := by rw [beq_eq_false_iff_ne]; omega
    go_enter Tryz.func97, Tryz.ntmps97
    go_wp2_with fail
    refine HG.mono ?_
    rintro e w1 ⟨rfl, b1⟩
    clear HG
    go_wp2_with fail
    go_quiet (fail)
    have bf := drew_kd b1 nq
    go_wp2_with fail
    go_ret3
    exact ⟨by rw [Int.natCast_add]; rfl, bf⟩
set_option maxHeartbeats 2000000 in
theorem signAt_no (s : ByteArray) (k : Nat) (a : Addr) (w : World) (hk : k < s.size) (hs : s.size ≤ 17592186044416) (hT : PcT a w) (hr : asRead s k = false) :
    Calls Tryz.prog 97 #[.string s, .int .i64 (k : Int)] w fun e w' => e = .returned (.tuple #[.int .i64 65533, .int .i64 (k : Int), errV a]) ∧ Below w.heap.size w w' := by
  have hm := getS_many s k hk
  have HG := implGet_in s k w hk (by omega) hT.1
  have hb := asRead_bad hk hr
  have Hr : Hid (((putS ((getS s k).1 : Int)).toList == (s.extract k (k + (getS s k).2)).toList) = false) := hr
  have HE : Hid (ErrA a w) := hT.2
  clear hr hT
  rw [hb] at HG Hr
  clear hb
  generalize (getS s k).2 = m at *
  have q0 : ((m : Int) == 0) = false := by rw [beq_eq_false_iff_ne]; omega
  have q1 : IntKind.i64.wrap ((k : Int) + (m : Int)) = (k : Int) + (m : Int) := IntWalk.i64_in _ (by omega)
  have q2 : ((k : Int) + (m : Int)).toNat = k + m := by omega
  have q3 : (k : Int) ≤ (k : Int) + (m : Int) := by omega
  have q4 : (k : Int) + (m : Int) ≤ (s.size : Int) := by omega
  have q5 : ((s.extract k (k + m)).toList == (putS 65533).toList) = false := by
    have h := Hr.out
    rw [beq_eq_false_iff_ne] at h ⊢
    exact fun e => h e.symm
  have HP := implPutSign 65533
  clear Hr
  generalize putS 65533 = P at *
  go_enter Tryz.func97, Tryz.ntmps97
  go_wp2_with fail
  refine HG.mono ?_
  rintro e w1 ⟨rfl, b1⟩
  clear HG
  go_wp2_with fail
  go_quiet ((go_at_call 114; exact Calls.quiet_of_same (HP _)))
  have bf := drew_kd b1 nq
  generalize w1.drewN nq = w2 at *
  have hv := HE.out.below bf
  unfold ErrA at hv
  go_wp2_with fail
  go_quiet (fail)
  have bg := drew_kd bf nq
  go_wp2_with fail
  go_ret3
  exact ⟨rfl, bg⟩

end Go.Proofs.YthipdkagkdnaiaaGreatDoor.Sg
