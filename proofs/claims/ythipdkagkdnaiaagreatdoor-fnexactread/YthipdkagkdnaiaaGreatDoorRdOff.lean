/- The model's l19Kids where all is refused already; six cells that are written anew. -/
import Derived.Test.YthipdkagkdnaiaaGreatDoorRdKids
import Derived.Test.YthipdkagkdnaiaaGreatDoorMRD01
namespace Go.Proofs.YthipdkagkdnaiaaGreatDoor.Sg
open Go.ChangeShapes Go.WideShapes Go.ChangeAt Go.RowKit

set_option maxRecDepth 20000 in
set_option maxHeartbeats 4000000 in
theorem kids_off (s : ByteArray) (p : Nat) (sp deep i : Int) (w : World) (h : RdAt w p s i false) :
    Calls Tryz.prog 39 #[.pointer (some ⟨p, 0, none⟩), .int .i64 sp, .int .i64 deep] w fun r w' => ∃ v, r = .returned v ∧ RowL w' w.heap.size v [] ∧ RdAt w' p s i false ∧ Fr p w w' := by
  have bA := (Below.refl w.heap.size w).alloc (Nat.le_refl _) (.cells #[] 25)
  have HO : Hid (RowL (w.alloc (.cells #[] 25)) w.heap.size (.slice (some ⟨w.heap.size, 0, none⟩) 0 0) []) := RowL.empty w w.heap.size (Nat.le_refl _)
  have HD : Hid (RdAt (w.alloc (.cells #[] 25)) p s i false) := h.keep bA
  have HF : Hid (Fr p w (w.alloc (.cells #[] 25))) := Fr.of_below bA
  have c0 := HD.out.c0
  have c1 := HD.out.c1
  have c2 := HD.out.c2
  clear bA h
  go_enter Tryz.func39, Tryz.ntmps39
  go_wp2_with fail
  refine wp_loop_rounds 1 ?_
  rw [rounds_succ]
  go_upto_region 2 with fail
  go_quiet (fail)
  have bn := drew_kd (Below.refl (w.alloc (.cells #[] 25)).heap.size (w.alloc (.cells #[] 25))) nq
  have HO1 : Hid (RowL ((w.alloc (.cells #[] 25)).drewN nq) w.heap.size (.slice (some ⟨w.heap.size, 0, none⟩) 0 0) []) := HO.out.keep bn
  have HF1 : Hid (Fr p w ((w.alloc (.cells #[] 25)).drewN nq)) := HF.out.trans (Fr.of_below bn)
  have HD1 : Hid (RdAt ((w.alloc (.cells #[] 25)).drewN nq) p s i false) := HD.out.keep bn
  clear bn c0 c1 c2 HO HF HD
  generalize (w.alloc (.cells #[] 25)).drewN nq = w1 at *
  go_wp2_with fail
  go_ret
  exact ⟨_, rfl, HO1.out, HD1.out, HF1.out⟩

/-- Six cells are written anew. -/
theorem Many.all6 {w : World} {c : Nat} {f : Nat → Value} (h : Many 6 w c f) (v0 v1 v2 v3 v4 v5 : Value) : Many 6 ((((((w.setCell ⟨c, 0, none⟩ v0).setCell ⟨c, 1, none⟩ v1).setCell ⟨c, 2, none⟩ v2).setCell ⟨c, 3, none⟩ v3).setCell ⟨c, 4, none⟩ v4).setCell ⟨c, 5, none⟩ v5) c (fun i => [v0, v1, v2, v3, v4, v5].getD i undef) := by
  have h1 := ((((((h.set (i := 0) v0).set (i := 1) v1).set (i := 2) v2).set (i := 3) v3).set (i := 4) v4).set (i := 5) v5)
  refine ⟨h1.1, fun i hi => ⟨(h1.2 i hi).1.trans ?_, (h1.2 i hi).2⟩⟩
  match i, hi with
  | 0, _ => rfl
  | 1, _ => rfl
  | 2, _ => rfl
  | 3, _ => rfl
  | 4, _ => rfl
  | 5, _ => rfl
theorem agr_all6 {lo c : Nat} (w : World) (h : c < lo) (v0 v1 v2 v3 v4 v5 : Value) : Agr lo w ((((((w.setCell ⟨c, 0, none⟩ v0).setCell ⟨c, 1, none⟩ v1).setCell ⟨c, 2, none⟩ v2).setCell ⟨c, 3, none⟩ v3).setCell ⟨c, 4, none⟩ v4).setCell ⟨c, 5, none⟩ v5) :=
  (((((Agr.set w 0 v0 h).trans (Agr.set _ 1 v1 h)).trans (Agr.set _ 2 v2 h)).trans (Agr.set _ 3 v3 h)).trans (Agr.set _ 4 v4 h)).trans (Agr.set _ 5 v5 h)

end Go.Proofs.YthipdkagkdnaiaaGreatDoor.Sg
