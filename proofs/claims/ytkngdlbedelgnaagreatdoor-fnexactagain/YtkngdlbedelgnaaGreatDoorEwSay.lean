/- The program's writer: the space that turns; what a place is further in; plain: an element said as a row of bytes. -/
import Derived.Test.YtkngdlbedelgnaaGreatDoorEwPut
import Derived.Test.YtkngdlbedelgnaaGreatDoorMAG12
import Derived.Test.YtkngdlbedelgnaaGreatDoorMAG16
import Derived.Test.YtkngdlbedelgnaaGreatDoorQbMem
import Derived.Deep.RegionWith
namespace Go.Proofs.YtkngdlbedelgnaaGreatDoor.Sg
open Go.ChangeShapes Go.WideShapes Go.ChangeAt Go.RowKit

abbrev bL (s : ByteArray) : List UInt8 := s.data.toList
theorem bL_app (a b : ByteArray) : bL (a ++ b) = bL a ++ bL b := by simp [bL, ByteArray.data_append]
theorem bL_len (s : ByteArray) : (bL s).length = s.size := by simp [bL]
/-- The space of a tag, told where it turns. -/
def turnL (sp about : Int) : List UInt8 := if sp = about then [] else bL ⟨#[32, 120, 109, 108, 110, 115, 61, 34]⟩ ++ bL (spaceS sp) ++ bL ⟨#[34]⟩
theorem headE_L (sp about : Int) (nm : ByteArray) : bL (headE sp about nm) = bL ⟨#[60]⟩ ++ bL nm ++ turnL sp about := by
  unfold headE turnL
  split
  · rw [bL_app, List.append_nil]
  · simp only [bL_app, List.append_assoc]
def sayL (p : AttrB) : List UInt8 := bL ⟨#[32]⟩ ++ bL p.1 ++ bL ⟨#[61, 34]⟩ ++ bL (escS p.2 true) ++ bL ⟨#[34]⟩
theorem sayA_L (o : ByteArray) (p : AttrB) : bL (sayA o p) = bL o ++ sayL p := by
  unfold sayA sayL
  simp only [bL_app, List.append_assoc]
theorem foldA_L : ∀ (l : List AttrB) (o : ByteArray), bL (l.foldl sayA o) = bL o ++ l.flatMap sayL
  | [], o => by simp
  | p :: l, o => by rw [List.foldl_cons, foldA_L l, sayA_L, List.flatMap_cons, List.append_assoc]
theorem saidEs_L (sp : Int) : ∀ (es : List ElB) (o : ByteArray), bL (saidEs sp o es) = bL o ++ es.flatMap fun e => bL (saidE e sp)
  | [], o => by simp [saidEs]
  | e :: es, o => by rw [saidEs, saidEs_L sp es, bL_app, List.flatMap_cons, List.append_assoc]
theorem linesE_L : ∀ (es : List ElB) (o : ByteArray), bL (linesE o es) = bL o ++ es.flatMap fun e => bL (saidE e (-1)) ++ bL ⟨#[10]⟩
  | [], o => by simp [linesE]
  | e :: es, o => by rw [linesE, linesE_L es, bL_app, bL_app, List.flatMap_cons]; simp only [List.append_assoc]
/-- A tag said. -/
def tagL (sp about : Int) (nm : ByteArray) (ats : List AttrB) (ks : List ElB) : List UInt8 :=
  (bL ⟨#[60]⟩ ++ bL nm) ++ turnL sp about ++ ats.flatMap sayL ++ (if ks.length = 0 then bL ⟨#[47, 62]⟩ else bL ⟨#[62]⟩ ++ (ks.flatMap fun e => bL (saidE e sp)) ++ (bL ⟨#[60, 47]⟩ ++ bL nm ++ bL ⟨#[62]⟩))
theorem saidE_tag (sp about : Int) (nm : ByteArray) (ats : List AttrB) (tx : ByteArray) (ks : List ElB) : bL (saidE (.mk 1 sp nm ats tx ks) about) = tagL sp about nm ats ks := by
  rw [saidE, if_neg (by decide), if_neg (by decide)]
  unfold tagL
  split
  · rw [bL_app, foldA_L, headE_L]
  · rw [bL_app, bL_app, bL_app, saidEs_L, bL_app, foldA_L, headE_L]
    simp only [List.append_assoc]
theorem news_obj (W : World) (o : Array Value) (t : TypeId) : (W.alloc (.cells o t)).heap[W.heap.size]? = some (.cells o t (0, 0)) := by
  show (W.heap.push _)[W.heap.size]? = _
  simp

set_option maxHeartbeats 2000000 in
theorem implPutTurn (B b : Nat) (acc : List UInt8) (about sp : Int) (w : World) (hb : Bl B b acc w) (hB : B ≤ w.heap.size) (hsz : acc.length ≤ 1099511627000) :
    Calls Tryz.prog 76 #[.agg #[.pointer (some ⟨b, 0, none⟩), .int .i64 about], .int .i64 sp] w fun e w' => e = .returned (.tuple #[]) ∧ Bl B b (acc ++ turnL sp about) w' ∧ Kp B b w w' := by
  have bA := (Below.refl w.heap.size w).alloc (Nat.le_refl _) (.cells #[.pointer (some ⟨b, 0, none⟩), .int .i64 about] 53)
  have HB1 : Hid (Bl B b acc (w.alloc (.cells #[.pointer (some ⟨b, 0, none⟩), .int .i64 about] 53))) := hb.below bA
  have HK1 : Hid (Kp B b w (w.alloc (.cells #[.pointer (some ⟨b, 0, none⟩), .int .i64 about] 53))) := Kp.of bA hB
  have c0 : (w.alloc (.cells #[.pointer (some ⟨b, 0, none⟩), .int .i64 about] 53)).cell? ⟨w.heap.size, 0, none⟩ = some (.pointer (some ⟨b, 0, none⟩)) := by simp
  have c1 : (w.alloc (.cells #[.pointer (some ⟨b, 0, none⟩), .int .i64 about] 53)).cell? ⟨w.heap.size, 1, none⟩ = some (.int .i64 about) := by simp
  clear bA hb
  by_cases hs : sp = about
  · have g0 : (sp != about) = false := by simp [hs]
    have e0 : acc ++ turnL sp about = acc := by unfold turnL; rw [if_pos hs, List.append_nil]
    rw [e0]
    go_enter Tryz.func76, Tryz.ntmps76
    go_upto_region 1 with fail
    generalize w.alloc (.cells #[.pointer (some ⟨b, 0, none⟩), .int .i64 about] 53) = w1 at *
    go_wp2_with fail
    exact bodyPost_end (results_none rfl _ _ _) rfl ⟨rfl, HB1.out, HK1.out⟩
  · have g0 : (sp != about) = true := by simp [hs]
    have Hcat : Hid (catB [⟨#[32, 120, 109, 108, 110, 115, 61, 34]⟩, spaceS sp, ⟨#[34]⟩] = turnL sp about) := by
      show _ = _
      unfold catB turnL
      rw [if_neg hs]
      simp [bL]
    have hl : (turnL sp about).length ≤ 100 := by
      unfold turnL
      rw [if_neg hs]
      simp only [List.length_append, bL_len]
      have h1 : (spaceS sp).size ≤ 40 := by
        unfold spaceS
        split
        · decide
        · split
          · decide
          · split <;> decide
      have h2 : (⟨#[32, 120, 109, 108, 110, 115, 61, 34]⟩ : ByteArray).size = 8 := rfl
      have h3 : (⟨#[34]⟩ : ByteArray).size = 1 := rfl
      omega
    have HS := fun W => implSpaceName sp W
    generalize spaceS sp = z at *
    go_enter Tryz.func76, Tryz.ntmps76
    go_upto_region 1 with fail
    generalize w.alloc (.cells #[.pointer (some ⟨b, 0, none⟩), .int .i64 about] 53) = w1 at *
    have hs1 := HK1.out.size
    have bD : Below w1.heap.size w1 ((w1.alloc (.cells #[.string ⟨#[32, 120, 109, 108, 110, 115, 61, 34]⟩, .string z, .string ⟨#[34]⟩] 9)).drew) := ((Below.refl _ _).alloc (Nat.le_refl _) _).drew
    have HB2 : Hid (Bl B b acc _) := HB1.out.below bD
    have HK2 : Hid (Kp B b w _) := HK1.out.trans (Kp.of bD (by omega))
    have hs2 := HK2.out.size
    have HP := implPut B b w1.heap.size 3 acc [⟨#[32, 120, 109, 108, 110, 115, 61, 34]⟩, z, ⟨#[34]⟩] about _ HB2.out (by omega) (news_obj w1 _ _) (by rw [Hcat.out]; omega) (by simp)
    have d0 := keep_cell ((Below.refl w1.heap.size w1).alloc (Nat.le_refl _) (.cells #[.string ⟨#[32, 120, 109, 108, 110, 115, 61, 34]⟩, .string z, .string ⟨#[34]⟩] 9)) c0
    have d1 := keep_cell ((Below.refl w1.heap.size w1).alloc (Nat.le_refl _) (.cells #[.string ⟨#[32, 120, 109, 108, 110, 115, 61, 34]⟩, .string z, .string ⟨#[34]⟩] 9)) c1
    clear bD HB1 HB2 HK1
    go_upto_region 2 with fail
    go_region_with (first
      | (go_at_call 98; refine (HS _).mono ?_; rintro e w2 ⟨rfl, rfl⟩)
      | (go_at_call 22; refine HP.mono ?_; rintro e w3 ⟨rfl, hb3, hk3⟩))
    all_goals
      go_wp2_with fail
      exact bodyPost_end (results_none rfl _ _ _) rfl ⟨rfl, by rw [← Hcat.out]; exact hb3, HK2.out.trans hk3⟩

set_option maxHeartbeats 1000000 in
theorem implWithin (b : Nat) (about sp : Int) (w : World) :
    Calls Tryz.prog 77 #[.agg #[.pointer (some ⟨b, 0, none⟩), .int .i64 about], .int .i64 sp] w fun e w' => e = .returned (.agg #[.pointer (some ⟨b, 0, none⟩), .int .i64 sp]) ∧ Below w.heap.size w w' := by
  have bB := ((Below.refl w.heap.size w).alloc (Nat.le_refl _) (.cells #[.pointer (some ⟨b, 0, none⟩), .int .i64 about] 53)).alloc (by simp) (.cells #[.pointer (some ⟨b, 0, none⟩), .int .i64 sp] 53)
  have HB : Hid (Below w.heap.size w _) := bB
  clear bB
  go_enter Tryz.func77, Tryz.ntmps77
  go_wp2_with fail
  refine bodyPost_ret (v := .agg #[.pointer (some ⟨b, 0, none⟩), .int .i64 sp]) ?_ rfl ⟨rfl, HB.out⟩
  simp [results, Tryz.results77, go_sem]

end Go.Proofs.YtkngdlbedelgnaaGreatDoor.Sg
