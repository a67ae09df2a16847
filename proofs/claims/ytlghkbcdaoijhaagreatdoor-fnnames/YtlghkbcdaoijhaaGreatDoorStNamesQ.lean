/- The law FnNames, out of the program's contracts. Written by mk_stlaw.py. -/
import Derived.Test.YtlghkbcdaoijhaaGreatDoorStName
import Derived.Test.YtlghkbcdaoijhaaGreatDoorStDrawsQ
import Derived.Test.YtlghkbcdaoijhaaGreatDoorStKeep
import Derived.Test.YtlghkbcdaoijhaaGreatDoorGLawQ
namespace Go.Proofs.YtlghkbcdaoijhaaGreatDoor.Sg
open Go.ChangeShapes Go.WideShapes Go.ChangeAt Go.RowKit

set_option maxHeartbeats 8000000 in
set_option maxRecDepth 100000 in
theorem lawNames (T : World → Prop) (keep : ∀ W W', T W → Below W.heap.size W W' → T W') (hNameOk : ∀ (s : ByteArray) (W : World), s.size ≤ 1048576 → T W → Calls Tryz.prog 9 #[.string s] W fun e w' => e = .returned (.bool (stNameB s)) ∧ Below W.heap.size W w') (hNameOf : ∀ (s : ByteArray) (W : World), s.size ≤ 1048576 → T W → Calls Tryz.prog 6 #[.string s] W fun e w' => e = .returned (.string (stNameS s)) ∧ Below W.heap.size W w') (w : World) (n : Nat) (a : Option Addr) (cap : Nat) (hcode : Code w.heap.size w a n) (_hm : n ≤ 9223372036854775807) (hT : T w) :
    Calls Tryz.prog 3 #[.slice a n cap] w fun e w' => e = .returned (.bool true) ∧ Below w.heap.size w w' := by
  have Hk : Hid (∀ W W', T W → Below W.heap.size W W' → T W') := keep
  have HNameOk : Hid (∀ (s : ByteArray) (W : World), s.size ≤ 1048576 → T W → Calls Tryz.prog 9 #[.string s] W fun e w' => e = .returned (.bool (stNameB s)) ∧ Below W.heap.size W w') := hNameOk
  have HNameOf : Hid (∀ (s : ByteArray) (W : World), s.size ≤ 1048576 → T W → Calls Tryz.prog 6 #[.string s] W fun e w' => e = .returned (.string (stNameS s)) ∧ Below W.heap.size W w') := hNameOf
  clear keep hNameOk hNameOf
  have K0 : SKeep T w a n w := ⟨Below.refl _ _, hcode, hT⟩
  clear hcode hT
  by_cases hbig : (1048576 : Int) < (n : Int)
  · have Hd : Hid (decide ((1048576 : Int) < (n : Int)) = true) := by show _ = _; simpa using hbig
    go_enter Tryz.func3, Tryz.ntmps3
    go_wp2_with fail
    refine (big_any a n cap _).mono ?_
    rintro e w1 ⟨rfl, rfl⟩
    rw [Hd.out]
    go_wp2_with fail
    go_ret
    exact ⟨rfl, Below.refl _ _⟩
  have hn : n ≤ 1048576 := by omega
  have Hd : Hid (decide ((1048576 : Int) < (n : Int)) = false) := by show _ = _; simpa using hbig
  clear hbig
  go_enter Tryz.func3, Tryz.ntmps3
  go_wp2_with fail
  refine (big_any a n cap _).mono ?_
  rintro e w0 ⟨rfl, hw0⟩
  have K : SKeep T w a n w0 := hw0 ▸ K0
  clear hw0 K0
  rw [Hd.out]
  clear Hd
  go_wp2_with fail
  refine (drawNameOf a n cap _ K.2.1 hn).mono ?_
  rintro e w1 ⟨s, hs, rfl, b1⟩
  have K1 := K.step Hk.out b1
  clear b1
  clear K
  rename SKeep _ _ _ _ _ => K
  have hsz := st_name_size s
  have Hmade : Hid (stNameB (stNameS s) = true) := nameOk_made s
  have Hstay : Hid (stNameB s = true → stNameS s = s) := fun h => name_stays h
  go_wp2_with fail
  refine (HNameOf.out s _ (by omega) K.2.2).mono ?_
  rintro e w1 ⟨rfl, b1⟩
  have K1 := K.step Hk.out b1
  clear b1
  clear K
  rename SKeep _ _ _ _ _ => K
  go_wp2_with fail
  refine (drawNameOk a n cap _ K.2.1 hn).mono ?_
  rintro e w1 ⟨t, ht, rfl, b1⟩
  have K1 := K.step Hk.out b1
  clear b1
  clear K
  rename SKeep _ _ _ _ _ => K
  have q1 : ((stNameS s).toList == (stNameS s).toList) = true := by simp
  have q2 : (stNameB t != stNameB t) = false := by simp
  go_wp2_with fail
  refine (specNameOf s _ (by omega)).mono ?_
  rintro e w1 ⟨rfl, b1⟩
  have K1 := K.step Hk.out b1
  clear b1
  clear K
  rename SKeep _ _ _ _ _ => K
  go_wp2_with fail
  refine (HNameOk.out t _ (by omega) K.2.2).mono ?_
  rintro e w1 ⟨rfl, b1⟩
  have K1 := K.step Hk.out b1
  clear b1
  clear K
  rename SKeep _ _ _ _ _ => K
  go_wp2_with fail
  refine (specNameOk t _ (by omega)).mono ?_
  rintro e w1 ⟨rfl, b1⟩
  have K1 := K.step Hk.out b1
  clear b1
  clear K
  rename SKeep _ _ _ _ _ => K
  go_wp2_with fail
  refine (HNameOk.out (stNameS s) _ (by omega) K.2.2).mono ?_
  rintro e w1 ⟨rfl, b1⟩
  have K1 := K.step Hk.out b1
  clear b1
  clear K
  rename SKeep _ _ _ _ _ => K
  rw [Hmade.out]
  clear q1 q2
  go_wp2_with fail
  refine (HNameOk.out s _ (by omega) K.2.2).mono ?_
  rintro e w1 ⟨rfl, b1⟩
  have K1 := K.step Hk.out b1
  clear b1
  clear K
  rename SKeep _ _ _ _ _ => K
  cases hb : stNameB s
  · clear hb Hstay
    go_wp2_with fail
    go_ret
    exact ⟨rfl, K.1⟩
  · have Hs : Hid (stNameS s = s) := Hstay.out hb
    clear hb Hstay
    rw [Hs.out]
    have q3 : (s.toList == s.toList) = true := by simp
    go_wp2_with fail
    go_ret
    exact ⟨rfl, K.1⟩

end Go.Proofs.YtlghkbcdaoijhaaGreatDoor.Sg
