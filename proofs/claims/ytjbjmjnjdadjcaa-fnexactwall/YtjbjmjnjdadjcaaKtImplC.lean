/- Contracts of the program's Void, OfHead, Format, Block, Part, Wall, Head: whether a name is on the chapter's list. -/
import Derived.Test.YtjbjmjnjdadjcaaKtImplB
namespace Go.Proofs.Ytjbjmjnjdadjcaa.Sg
open Go.ChangeShapes Go.WideShapes Go.ChangeAt Go.RowKit Go.Maps

set_option maxHeartbeats 4000000 in
theorem implVoid (s : ByteArray) (w : World) : Calls Try.prog 19 #[.string s] w fun e w' => e = .returned (.bool (isIn s voidL)) ∧ Below w.heap.size w w' := by
  obtain ⟨R, HD⟩ : ∃ R, Hid (isIn s voidL = R) := ⟨_, rfl⟩
  rw [HD.out]
  have HS := has_setL s voidL
  rw [HD.out] at HS
  generalize hD : setL voidL = D at HS
  go_enter Try.func19, Try.ntmps19
  go_wp2_with fail
  refine (impl_voidTags w).mono ?_
  rintro e w1 ⟨rfl, K⟩
  rw [hD] at K
  have C := implHas s w.heap.size 9 D w1 K.1 (by decide)
  rw [HS] at C
  have HK : Hid (Below w.heap.size w w1 ∧ w.heap.size ≤ w1.heap.size) := K.2
  clear K hD HS HD
  go_wp2_with fail
  refine C.mono ?_
  rintro e w2 ⟨rfl, b2⟩
  clear C
  go_wp2_with fail
  go_ret
  exact ⟨rfl, HK.out.1.trans (b2.mono HK.out.2)⟩
set_option maxHeartbeats 4000000 in
theorem implOfHead (s : ByteArray) (w : World) : Calls Try.prog 21 #[.string s] w fun e w' => e = .returned (.bool (isIn s ofHeadL)) ∧ Below w.heap.size w w' := by
  obtain ⟨R, HD⟩ : ∃ R, Hid (isIn s ofHeadL = R) := ⟨_, rfl⟩
  rw [HD.out]
  have HS := has_setL s ofHeadL
  rw [HD.out] at HS
  generalize hD : setL ofHeadL = D at HS
  go_enter Try.func21, Try.ntmps21
  go_wp2_with fail
  refine (impl_headTags w).mono ?_
  rintro e w1 ⟨rfl, K⟩
  rw [hD] at K
  have C := implHas s w.heap.size 6 D w1 K.1 (by decide)
  rw [HS] at C
  have HK : Hid (Below w.heap.size w w1 ∧ w.heap.size ≤ w1.heap.size) := K.2
  clear K hD HS HD
  go_wp2_with fail
  refine C.mono ?_
  rintro e w2 ⟨rfl, b2⟩
  clear C
  go_wp2_with fail
  go_ret
  exact ⟨rfl, HK.out.1.trans (b2.mono HK.out.2)⟩
set_option maxHeartbeats 4000000 in
theorem implFormat (s : ByteArray) (w : World) : Calls Try.prog 23 #[.string s] w fun e w' => e = .returned (.bool (isIn s formatL)) ∧ Below w.heap.size w w' := by
  obtain ⟨R, HD⟩ : ∃ R, Hid (isIn s formatL = R) := ⟨_, rfl⟩
  rw [HD.out]
  have HS := has_setL s formatL
  rw [HD.out] at HS
  generalize hD : setL formatL = D at HS
  go_enter Try.func23, Try.ntmps23
  go_wp2_with fail
  refine (impl_formatTags w).mono ?_
  rintro e w1 ⟨rfl, K⟩
  rw [hD] at K
  have C := implHas s w.heap.size 8 D w1 K.1 (by decide)
  rw [HS] at C
  have HK : Hid (Below w.heap.size w w1 ∧ w.heap.size ≤ w1.heap.size) := K.2
  clear K hD HS HD
  go_wp2_with fail
  refine C.mono ?_
  rintro e w2 ⟨rfl, b2⟩
  clear C
  go_wp2_with fail
  go_ret
  exact ⟨rfl, HK.out.1.trans (b2.mono HK.out.2)⟩
set_option maxHeartbeats 4000000 in
theorem implBlock (s : ByteArray) (w : World) : Calls Try.prog 25 #[.string s] w fun e w' => e = .returned (.bool (isIn s blockL)) ∧ Below w.heap.size w w' := by
  obtain ⟨R, HD⟩ : ∃ R, Hid (isIn s blockL = R) := ⟨_, rfl⟩
  rw [HD.out]
  have HS := has_setL s blockL
  rw [HD.out] at HS
  generalize hD : setL blockL = D at HS
  go_enter Try.func25, Try.ntmps25
  go_wp2_with fail
  refine (impl_blockTags w).mono ?_
  rintro e w1 ⟨rfl, K⟩
  rw [hD] at K
  have C := implHas s w.heap.size 13 D w1 K.1 (by decide)
  rw [HS] at C
  have HK : Hid (Below w.heap.size w w1 ∧ w.heap.size ≤ w1.heap.size) := K.2
  clear K hD HS HD
  go_wp2_with fail
  refine C.mono ?_
  rintro e w2 ⟨rfl, b2⟩
  clear C
  go_wp2_with fail
  go_ret
  exact ⟨rfl, HK.out.1.trans (b2.mono HK.out.2)⟩
set_option maxHeartbeats 4000000 in
theorem implPart (s : ByteArray) (w : World) : Calls Try.prog 27 #[.string s] w fun e w' => e = .returned (.bool (isIn s partL)) ∧ Below w.heap.size w w' := by
  obtain ⟨R, HD⟩ : ∃ R, Hid (isIn s partL = R) := ⟨_, rfl⟩
  rw [HD.out]
  have HS := has_setL s partL
  rw [HD.out] at HS
  generalize hD : setL partL = D at HS
  go_enter Try.func27, Try.ntmps27
  go_wp2_with fail
  refine (impl_partTags w).mono ?_
  rintro e w1 ⟨rfl, K⟩
  rw [hD] at K
  have C := implHas s w.heap.size 4 D w1 K.1 (by decide)
  rw [HS] at C
  have HK : Hid (Below w.heap.size w w1 ∧ w.heap.size ≤ w1.heap.size) := K.2
  clear K hD HS HD
  go_wp2_with fail
  refine C.mono ?_
  rintro e w2 ⟨rfl, b2⟩
  clear C
  go_wp2_with fail
  go_ret
  exact ⟨rfl, HK.out.1.trans (b2.mono HK.out.2)⟩
set_option maxHeartbeats 4000000 in
theorem implWall (s : ByteArray) (w : World) : Calls Try.prog 29 #[.string s] w fun e w' => e = .returned (.bool (isIn s wallL)) ∧ Below w.heap.size w w' := by
  obtain ⟨R, HD⟩ : ∃ R, Hid (isIn s wallL = R) := ⟨_, rfl⟩
  rw [HD.out]
  have HS := has_setL s wallL
  rw [HD.out] at HS
  generalize hD : setL wallL = D at HS
  go_enter Try.func29, Try.ntmps29
  go_wp2_with fail
  refine (impl_wallTags w).mono ?_
  rintro e w1 ⟨rfl, K⟩
  rw [hD] at K
  have C := implHas s w.heap.size 4 D w1 K.1 (by decide)
  rw [HS] at C
  have HK : Hid (Below w.heap.size w w1 ∧ w.heap.size ≤ w1.heap.size) := K.2
  clear K hD HS HD
  go_wp2_with fail
  refine C.mono ?_
  rintro e w2 ⟨rfl, b2⟩
  clear C
  go_wp2_with fail
  go_ret
  exact ⟨rfl, HK.out.1.trans (b2.mono HK.out.2)⟩
set_option maxHeartbeats 4000000 in
theorem implHead (s : ByteArray) (w : World) : Calls Try.prog 31 #[.string s] w fun e w' => e = .returned (.bool (isIn s headL)) ∧ Below w.heap.size w w' := by
  obtain ⟨R, HD⟩ : ∃ R, Hid (isIn s headL = R) := ⟨_, rfl⟩
  rw [HD.out]
  have HS := has_setL s headL
  rw [HD.out] at HS
  generalize hD : setL headL = D at HS
  go_enter Try.func31, Try.ntmps31
  go_wp2_with fail
  refine (impl_headingTags w).mono ?_
  rintro e w1 ⟨rfl, K⟩
  rw [hD] at K
  have C := implHas s w.heap.size 3 D w1 K.1 (by decide)
  rw [HS] at C
  have HK : Hid (Below w.heap.size w w1 ∧ w.heap.size ≤ w1.heap.size) := K.2
  clear K hD HS HD
  go_wp2_with fail
  refine C.mono ?_
  rintro e w2 ⟨rfl, b2⟩
  clear C
  go_wp2_with fail
  go_ret
  exact ⟨rfl, HK.out.1.trans (b2.mono HK.out.2)⟩

end Go.Proofs.Ytjbjmjnjdadjcaa.Sg
