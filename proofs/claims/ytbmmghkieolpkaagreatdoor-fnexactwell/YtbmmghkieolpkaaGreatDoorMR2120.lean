/- Contracts of the program's isNoStrictAttr, and of slices.ContainsFunc with it over attributes. Contract of the program's elementOf: an element as what its kind says. Written by mk_emof.py. Contracts of the program's methods 'strict', and of their calls through the interface. Plain: rows of elements, one taken from behind, the kids of its elements put behind. Plain: elements are strict just where each row in them is so, none of them too deep. A range over a function that keeps lists of its own in memory: what it writes lies where nothing lay when its call began. -/
import Derived.Test.YtbmmghkieolpkaaGreatDoorMR2109
import Derived.Test.YtbmmghkieolpkaaGreatDoorMR2115
import Derived.Test.YtbmmghkieolpkaaGreatDoorStImN
import Derived.Test.YtbmmghkieolpkaaGreatDoorMR2116
import Derived.Test.YtbmmghkieolpkaaGreatDoorMR2124
import Derived.RangeFuncNested
import Derived.RangeFuncBound
import Derived.RangeFuncCalls
import Derived.RangeFuncLeaves
import Derived.Shelf.Abstract
import Derived.Shelf.RegionOpen
import Derived.WalkKit
import Derived.OwnWalkIn
import Derived.Maps.OwnIn
import Derived.TacticsInMore
import Derived.LoopNIn
import Derived.LoopIn
import Derived.Test.YtbmmghkieolpkaaGreatDoorMR2102
namespace Go.Proofs.YtbmmghkieolpkaaGreatDoor.Sg
open Go.ChangeShapes Go.WideShapes Go.ChangeAt Go.RowKit

set_option maxHeartbeats 2000000 in
theorem implNoStrictAttr (p1 p2 : ByteArray) (w : World) (h1 : p1.size ≤ 16777216) (h2 : p2.size ≤ 16777216) (hT : StLib w) :
    Calls Tryz.prog 201 #[.agg #[.string p1, .string p2]] w fun e w' => e = .returned (.bool (!attrOk (p1, p2))) ∧ Below w.heap.size w w' := by
  have hb0 : Below w.heap.size w (w.alloc (.cells #[.string p1, .string p2] 73)) := (Below.refl w.heap.size w).alloc (Nat.le_refl _) _
  have HN := implNameOk p1 _ (by omega) (hT.below hb0).1
  have HX : Hid (∀ W, StLib W → Calls Tryz.prog 124 #[.string p2] W fun e w' => e = .returned (.bool (stTextB p2)) ∧ Below W.heap.size W w') := fun W h => implTextOk p2 W (by omega) h.1
  have x0 : (w.alloc (.cells #[.string p1, .string p2] 73)).cell? ⟨w.heap.size, 0, none⟩ = some (.string p1) := by simp
  have x1 : (w.alloc (.cells #[.string p1, .string p2] 73)).cell? ⟨w.heap.size, 1, none⟩ = some (.string p2) := by simp
  have Hd : Hid (attrOk (p1, p2) = (stNameB p1 && (!(p1.toList == [120, 109, 108, 110, 115]) && stTextB p2))) := by
    show _ = _
    unfold attrOk
    rw [show xmlnsB.toList = [120, 109, 108, 110, 115] from ByteArray.toList_mk _]
  generalize attrOk (p1, p2) = R at *
  have HT : Hid (StLib w) := hT
  have HB0 : Hid (Below w.heap.size w (w.alloc (.cells #[.string p1, .string p2] 73))) := hb0
  have hz : w.heap.size < (w.alloc (.cells #[.string p1, .string p2] 73)).heap.size := by simp
  clear hT hb0
  cases hn : stNameB p1
  · rw [hn] at HN
    have Hf : Hid ((!R) = true) := by show _ = _; rw [Hd.out, hn]; rfl
    clear Hd HX hn
    go_enter Tryz.func201, Tryz.ntmps201
    go_wp2_with fail
    refine HN.mono ?_
    rintro e w1 ⟨rfl, b1⟩
    have B1 : Hid (Below w.heap.size w w1) := HB0.out.trans (b1.mono HB0.out.size)
    clear HN b1 HB0
    go_wp2_with fail
    go_ret
    exact ⟨ret_bool Hf.out.symm, B1.out⟩
  rw [hn] at HN
  cases hx : (p1.toList == [120, 109, 108, 110, 115])
  · have Hf : Hid ((!R) = !stTextB p2) := by show _ = _; rw [Hd.out, hn, hx]; rfl
    clear Hd hn
    go_enter Tryz.func201, Tryz.ntmps201
    go_wp2_with fail
    refine HN.mono ?_
    rintro e w1 ⟨rfl, b1⟩
    have y0 := keep_cell b1 x0
    have y1 := keep_cell b1 x1
    have B1 : Hid (Below w.heap.size w w1) := HB0.out.trans (b1.mono HB0.out.size)
    have HX1 := HX.out w1 (HT.out.below B1.out)
    clear HN b1 HB0 HX x0 x1
    go_wp2_with fail
    refine HX1.mono ?_
    rintro e w2 ⟨rfl, b2⟩
    have B2 : Hid (Below w.heap.size w w2) := B1.out.trans (b2.mono B1.out.size)
    clear HX1 b2 B1 y0 y1
    go_wp2_with fail
    go_ret
    exact ⟨ret_bool Hf.out.symm, B2.out⟩
  · have Hf : Hid ((!R) = true) := by show _ = _; rw [Hd.out, hn, hx]; rfl
    clear Hd HX hn
    go_enter Tryz.func201, Tryz.ntmps201
    go_wp2_with fail
    refine HN.mono ?_
    rintro e w1 ⟨rfl, b1⟩
    have y0 := keep_cell b1 x0
    have B1 : Hid (Below w.heap.size w w1) := HB0.out.trans (b1.mono HB0.out.size)
    clear HN b1 HB0 x0 x1
    go_wp2_with fail
    go_ret
    exact ⟨ret_bool Hf.out.symm, B1.out⟩

/-- The first that is not so, from a place on; -1. -/
def noAt (l : List AttrB) (k : Nat) : Bool := (l.drop k).all attrOk
theorem noAt_step (l : List AttrB) (k : Nat) (h : k < l.length) : noAt l k = (attrOk (l[k]'h) && noAt l (k + 1)) := by
  unfold noAt
  rw [List.drop_eq_getElem_cons h, List.all_cons]
theorem noAt_end (l : List AttrB) : noAt l l.length = true := by
  unfold noAt
  rw [List.drop_length]
  rfl

set_option maxRecDepth 20000 in
set_option maxHeartbeats 4000000 in
theorem implNoIndex (l : List AttrB) (a : Option Addr) (cap : Nat) (w : World) (ha : AttrsAt w a l) (hn : l.length ≤ 16777216) (hsz : ∀ p ∈ l, p.1.size ≤ 16777216 ∧ p.2.size ≤ 16777216) (hT : StLib w) :
    Calls Tryz.prog 203 #[.slice a l.length cap, .func (.func 201) #[] #[]] w fun e w' => (∃ z : Int, e = .returned (.int .i64 z) ∧ decide (0 ≤ z) = !l.all attrOk) ∧ Below w.heap.size w w' := by
  have HA : Hid (AttrsAt w a l) := ha
  have HW : Hid (∀ p ∈ l, p.1.size ≤ 16777216 ∧ p.2.size ≤ 16777216) := hsz
  have HT : Hid (StLib w) := hT
  obtain ⟨R, HR⟩ : ∃ R, Hid (noAt l 0 = R) := ⟨_, rfl⟩
  have HR0 : l.all attrOk = R := by
    have := HR.out
    unfold noAt at this
    rw [List.drop_zero] at this
    exact this
  rw [HR0]
  clear ha hsz hT HR0
  go_enter Tryz.func203, Tryz.ntmps203
  go_wp2_with fail
  go_loopw [5, 8] (fun _ iv wr => ∃ k : Nat, k ≤ l.length ∧ iv = .int .i64 (k : Int) ∧ Hid (noAt l k = R) ∧ Hid (Below w.heap.size w wr)) (fun _ iv _ => l.length - (intOf iv).toNat)
  case atStart => exact ⟨0, Nat.zero_le _, rfl, HR, Below.refl _ _⟩
  case round =>
    clear HR
    obtain ⟨k, hk, rfl, HR, HB⟩ := hrel
    have k0 : (0 : Int) ≤ (k : Int) := by omega
    by_cases hlt : k < l.length
    · have k1 : (k : Int) < (l.length : Int) := by omega
      obtain ⟨b, rfl, c0, c1⟩ := attrs_one (HA.out.below HB.out) k hlt
      have hp := HW.out _ (List.getElem_mem hlt)
      have Hs := noAt_step l k hlt
      rw [HR.out] at Hs
      generalize l[k]'hlt = p at *
      obtain ⟨p1, p2⟩ := p
      simp only at c0 c1 hp
      have HI := implNoStrictAttr p1 p2 wr hp.1 hp.2 (HT.out.below HB.out)
      cases ho : attrOk (p1, p2)
      · rw [ho] at HI Hs
        have Hf : Hid (R = false) := by show _ = _; rw [Hs]; rfl
        clear Hs HR ho
        go_wp2_with fail
        refine HI.mono ?_
        rintro e w1 ⟨rfl, b1⟩
        have B1 : Hid (Below w.heap.size w w1) := HB.out.trans (b1.mono HB.out.size)
        clear HI b1 HB c0 c1
        go_wp2_with fail
        go_ret
        exact ⟨⟨_, rfl, by rw [Hf.out]; simp⟩, B1.out⟩
      · rw [ho] at HI Hs
        have HR2 : Hid (noAt l (k + 1) = R) := by show _ = _; rw [Hs]; rfl
        clear Hs HR ho
        go_wp2_with fail
        refine HI.mono ?_
        rintro e w1 ⟨rfl, b1⟩
        have B1 : Hid (Below w.heap.size w w1) := HB.out.trans (b1.mono HB.out.size)
        clear HI b1 HB c0 c1
        go_wp2_with fail
        go_roundw
        case rel => exact ⟨k + 1, by omega, by go_num, HR2, B1⟩
        case measure => simp [intOf]; omega
    · have hkl : k = l.length := by omega
      subst hkl
      have g1 : decide ((l.length : Int) < (l.length : Int)) = false := by simp
      have Hf : Hid (R = true) := by show _ = _; rw [← HR.out]; exact noAt_end l
      clear HR
      go_wp2_with fail
      go_ret
      exact ⟨⟨_, rfl, by rw [Hf.out]; simp⟩, HB.out⟩

set_option maxHeartbeats 1000000 in
theorem implNoContains (l : List AttrB) (a : Option Addr) (cap : Nat) (w : World) (ha : AttrsAt w a l) (hn : l.length ≤ 16777216) (hsz : ∀ p ∈ l, p.1.size ≤ 16777216 ∧ p.2.size ≤ 16777216) (hT : StLib w) :
    Calls Tryz.prog 200 #[.slice a l.length cap, .func (.func 201) #[] #[]] w fun e w' => e = .returned (.bool (!l.all attrOk)) ∧ Below w.heap.size w w' := by
  have HI := implNoIndex l a cap w ha hn hsz hT
  generalize (!l.all attrOk) = R at *
  clear ha hsz hT
  go_enter Tryz.func200, Tryz.ntmps200
  go_wp2_with fail
  refine HI.mono ?_
  rintro e w1 ⟨⟨z, rfl, hz⟩, b1⟩
  clear HI
  go_wp2_with fail
  go_ret
  exact ⟨rfl, b1⟩

end Go.Proofs.YtbmmghkieolpkaaGreatDoor.Sg

namespace Go.Proofs.YtbmmghkieolpkaaGreatDoor.Sg
open Go.ChangeShapes Go.WideShapes Go.ChangeAt Go.RowKit

/-- What it is behind the interface. -/
def elI (kd sp : Int) (nm : ByteArray) (xa : Option Addr) (an xc : Nat) (tx : ByteArray) (kn : Nat) : Value :=
  if kd = 1 ∧ tx.size = 0 then .iface 105 (.agg #[.int .i64 sp, .string nm, .slice xa an xc])
  else if kd = 2 ∧ (sp = 0 ∧ nm.size = 0 ∧ an = 0 ∧ kn = 0) then .iface 98 (.agg #[.string tx])
  else if kd = 3 ∧ (sp = 0 ∧ nm.size = 0 ∧ an = 0 ∧ kn = 0) then .iface 106 (.agg #[.string tx])
  else .iface 123 (.agg #[])

set_option maxRecDepth 20000 in
set_option maxHeartbeats 8000000 in
theorem implElementOf (kd sp : Int) (nm : ByteArray) (xa : Option Addr) (an xc : Nat) (tx : ByteArray) (ka : Option Addr) (kn kc : Nat) (w : World) :
    Calls Tryz.prog 80 #[.agg #[.int .i64 kd, .int .i64 sp, .string nm, .slice xa an xc, .string tx, .slice ka kn kc]] w fun e w' => e = .returned (elI kd sp nm xa an xc tx kn) ∧ Below w.heap.size w w' := by
  have hb0 : Hid (Below w.heap.size w (w.alloc (.cells #[.int .i64 kd, .int .i64 sp, .string nm, .slice xa an xc, .string tx, .slice ka kn kc] 25))) := (Below.refl w.heap.size w).alloc (Nat.le_refl _) _
  by_cases h1 : sp = 0
  rotate_left
  · have gs : (sp == 0) = false := beq_false_of_ne h1
    by_cases k1 : kd = 1
    · subst k1
      by_cases t0 : tx.size = 0
      · have e0 := empty_of t0
        subst e0
        have HV : Hid (elI 1 sp nm xa an xc ⟨#[]⟩ kn = .iface 105 (.agg #[.int .i64 sp, .string nm, .slice xa an xc])) := by show _ = _; unfold elI; rw [if_pos ⟨rfl, rfl⟩]
        rw [HV.out]
        clear HV h1 t0
        go_enter Tryz.func80, Tryz.ntmps80
        go_wp2_with fail
        go_ret
        exact ⟨rfl, hb0.out⟩
      · have gt : (tx.toList == []) = false := not_empty t0
        have HV : Hid (elI 1 sp nm xa an xc tx kn = .iface 123 (.agg #[])) := by show _ = _; unfold elI; rw [if_neg (fun h => t0 h.2), if_neg (fun h => absurd h.1 (by decide)), if_neg (fun h => absurd h.1 (by decide))]
        rw [HV.out]
        clear HV h1 t0
        go_enter Tryz.func80, Tryz.ntmps80
        go_wp2_with fail
        go_ret
        exact ⟨rfl, hb0.out⟩
    have g1 : (kd == 1) = false := beq_false_of_ne k1
    by_cases k2 : kd = 2
    · subst k2
      have HV : Hid (elI 2 sp nm xa an xc tx kn = .iface 123 (.agg #[])) := by show _ = _; unfold elI; rw [if_neg (fun h => absurd h.1 (by decide)), if_neg (fun h => h1 h.2.1), if_neg (fun h => absurd h.1 (by decide))]
      rw [HV.out]
      clear HV h1 k1
      go_enter Tryz.func80, Tryz.ntmps80
      go_wp2_with fail
      go_ret
      exact ⟨rfl, hb0.out⟩
    have g2 : (kd == 2) = false := beq_false_of_ne k2
    by_cases k3 : kd = 3
    · subst k3
      have HV : Hid (elI 3 sp nm xa an xc tx kn = .iface 123 (.agg #[])) := by show _ = _; unfold elI; rw [if_neg (fun h => absurd h.1 (by decide)), if_neg (fun h => absurd h.1 (by decide)), if_neg (fun h => h1 h.2.1)]
      rw [HV.out]
      clear HV h1 k1 k2
      go_enter Tryz.func80, Tryz.ntmps80
      go_wp2_with fail
      go_ret
      exact ⟨rfl, hb0.out⟩
    have g3 : (kd == 3) = false := beq_false_of_ne k3
    have HV : Hid (elI kd sp nm xa an xc tx kn = .iface 123 (.agg #[])) := by show _ = _; unfold elI; rw [if_neg (fun h => k1 h.1), if_neg (fun h => k2 h.1), if_neg (fun h => k3 h.1)]
    rw [HV.out]
    clear HV h1 k1 k2 k3
    go_enter Tryz.func80, Tryz.ntmps80
    go_wp2_with fail
    go_ret
    exact ⟨rfl, hb0.out⟩
  subst h1
  by_cases h2 : nm.size = 0
  rotate_left
  · have gn : (nm.toList == []) = false := not_empty h2
    by_cases k1 : kd = 1
    · subst k1
      by_cases t0 : tx.size = 0
      · have e0 := empty_of t0
        subst e0
        have HV : Hid (elI 1 0 nm xa an xc ⟨#[]⟩ kn = .iface 105 (.agg #[.int .i64 0, .string nm, .slice xa an xc])) := by show _ = _; unfold elI; rw [if_pos ⟨rfl, rfl⟩]
        rw [HV.out]
        clear HV h2 t0
        go_enter Tryz.func80, Tryz.ntmps80
        go_wp2_with fail
        go_ret
        exact ⟨rfl, hb0.out⟩
      · have gt : (tx.toList == []) = false := not_empty t0
        have HV : Hid (elI 1 0 nm xa an xc tx kn = .iface 123 (.agg #[])) := by show _ = _; unfold elI; rw [if_neg (fun h => t0 h.2), if_neg (fun h => absurd h.1 (by decide)), if_neg (fun h => absurd h.1 (by decide))]
        rw [HV.out]
        clear HV h2 t0
        go_enter Tryz.func80, Tryz.ntmps80
        go_wp2_with fail
        go_ret
        exact ⟨rfl, hb0.out⟩
    have g1 : (kd == 1) = false := beq_false_of_ne k1
    by_cases k2 : kd = 2
    · subst k2
      have HV : Hid (elI 2 0 nm xa an xc tx kn = .iface 123 (.agg #[])) := by show _ = _; unfold elI; rw [if_neg (fun h => absurd h.1 (by decide)), if_neg (fun h => h2 h.2.2.1), if_neg (fun h => absurd h.1 (by decide))]
      rw [HV.out]
      clear HV h2 k1
      go_enter Tryz.func80, Tryz.ntmps80
      go_wp2_with fail
      go_ret
      exact ⟨rfl, hb0.out⟩
    have g2 : (kd == 2) = false := beq_false_of_ne k2
    by_cases k3 : kd = 3
    · subst k3
      have HV : Hid (elI 3 0 nm xa an xc tx kn = .iface 123 (.agg #[])) := by show _ = _; unfold elI; rw [if_neg (fun h => absurd h.1 (by decide)), if_neg (fun h => absurd h.1 (by decide)), if_neg (fun h => h2 h.2.2.1)]
      rw [HV.out]
      clear HV h2 k1 k2
      go_enter Tryz.func80, Tryz.ntmps80
      go_wp2_with fail
      go_ret
      exact ⟨rfl, hb0.out⟩
    have g3 : (kd == 3) = false := beq_false_of_ne k3
    have HV : Hid (elI kd 0 nm xa an xc tx kn = .iface 123 (.agg #[])) := by show _ = _; unfold elI; rw [if_neg (fun h => k1 h.1), if_neg (fun h => k2 h.1), if_neg (fun h => k3 h.1)]
    rw [HV.out]
    clear HV h2 k1 k2 k3
    go_enter Tryz.func80, Tryz.ntmps80
    go_wp2_with fail
    go_ret
    exact ⟨rfl, hb0.out⟩
  have e2 := empty_of h2
  subst e2
  clear h2
  by_cases h3 : an = 0
  rotate_left
  · have ga : ((an : Int) == 0) = false := by rw [beq_eq_false_iff_ne]; omega
    by_cases k1 : kd = 1
    · subst k1
      by_cases t0 : tx.size = 0
      · have e0 := empty_of t0
        subst e0
        have HV : Hid (elI 1 0 ⟨#[]⟩ xa an xc ⟨#[]⟩ kn = .iface 105 (.agg #[.int .i64 0, .string ⟨#[]⟩, .slice xa an xc])) := by show _ = _; unfold elI; rw [if_pos ⟨rfl, rfl⟩]
        rw [HV.out]
        clear HV h3 t0
        go_enter Tryz.func80, Tryz.ntmps80
        go_wp2_with fail
        go_ret
        exact ⟨rfl, hb0.out⟩
      · have gt : (tx.toList == []) = false := not_empty t0
        have HV : Hid (elI 1 0 ⟨#[]⟩ xa an xc tx kn = .iface 123 (.agg #[])) := by show _ = _; unfold elI; rw [if_neg (fun h => t0 h.2), if_neg (fun h => absurd h.1 (by decide)), if_neg (fun h => absurd h.1 (by decide))]
        rw [HV.out]
        clear HV h3 t0
        go_enter Tryz.func80, Tryz.ntmps80
        go_wp2_with fail
        go_ret
        exact ⟨rfl, hb0.out⟩
    have g1 : (kd == 1) = false := beq_false_of_ne k1
    by_cases k2 : kd = 2
    · subst k2
      have HV : Hid (elI 2 0 ⟨#[]⟩ xa an xc tx kn = .iface 123 (.agg #[])) := by show _ = _; unfold elI; rw [if_neg (fun h => absurd h.1 (by decide)), if_neg (fun h => h3 h.2.2.2.1), if_neg (fun h => absurd h.1 (by decide))]
      rw [HV.out]
      clear HV h3 k1
      go_enter Tryz.func80, Tryz.ntmps80
      go_wp2_with fail
      go_ret
      exact ⟨rfl, hb0.out⟩
    have g2 : (kd == 2) = false := beq_false_of_ne k2
    by_cases k3 : kd = 3
    · subst k3
      have HV : Hid (elI 3 0 ⟨#[]⟩ xa an xc tx kn = .iface 123 (.agg #[])) := by show _ = _; unfold elI; rw [if_neg (fun h => absurd h.1 (by decide)), if_neg (fun h => absurd h.1 (by decide)), if_neg (fun h => h3 h.2.2.2.1)]
      rw [HV.out]
      clear HV h3 k1 k2
      go_enter Tryz.func80, Tryz.ntmps80
      go_wp2_with fail
      go_ret
      exact ⟨rfl, hb0.out⟩
    have g3 : (kd == 3) = false := beq_false_of_ne k3
    have HV : Hid (elI kd 0 ⟨#[]⟩ xa an xc tx kn = .iface 123 (.agg #[])) := by show _ = _; unfold elI; rw [if_neg (fun h => k1 h.1), if_neg (fun h => k2 h.1), if_neg (fun h => k3 h.1)]
    rw [HV.out]
    clear HV h3 k1 k2 k3
    go_enter Tryz.func80, Tryz.ntmps80
    go_wp2_with fail
    go_ret
    exact ⟨rfl, hb0.out⟩
  subst h3
  by_cases h4 : kn = 0
  rotate_left
  · have gk : ((kn : Int) == 0) = false := by rw [beq_eq_false_iff_ne]; omega
    by_cases k1 : kd = 1
    · subst k1
      by_cases t0 : tx.size = 0
      · have e0 := empty_of t0
        subst e0
        have HV : Hid (elI 1 0 ⟨#[]⟩ xa 0 xc ⟨#[]⟩ kn = .iface 105 (.agg #[.int .i64 0, .string ⟨#[]⟩, .slice xa 0 xc])) := by show _ = _; unfold elI; rw [if_pos ⟨rfl, rfl⟩]
        rw [HV.out]
        clear HV h4 t0
        go_enter Tryz.func80, Tryz.ntmps80
        go_wp2_with fail
        go_ret
        exact ⟨rfl, hb0.out⟩
      · have gt : (tx.toList == []) = false := not_empty t0
        have HV : Hid (elI 1 0 ⟨#[]⟩ xa 0 xc tx kn = .iface 123 (.agg #[])) := by show _ = _; unfold elI; rw [if_neg (fun h => t0 h.2), if_neg (fun h => absurd h.1 (by decide)), if_neg (fun h => absurd h.1 (by decide))]
        rw [HV.out]
        clear HV h4 t0
        go_enter Tryz.func80, Tryz.ntmps80
        go_wp2_with fail
        go_ret
        exact ⟨rfl, hb0.out⟩
    have g1 : (kd == 1) = false := beq_false_of_ne k1
    by_cases k2 : kd = 2
    · subst k2
      have HV : Hid (elI 2 0 ⟨#[]⟩ xa 0 xc tx kn = .iface 123 (.agg #[])) := by show _ = _; unfold elI; rw [if_neg (fun h => absurd h.1 (by decide)), if_neg (fun h => h4 h.2.2.2.2), if_neg (fun h => absurd h.1 (by decide))]
      rw [HV.out]
      clear HV h4 k1
      go_enter Tryz.func80, Tryz.ntmps80
      go_wp2_with fail
      go_ret
      exact ⟨rfl, hb0.out⟩
    have g2 : (kd == 2) = false := beq_false_of_ne k2
    by_cases k3 : kd = 3
    · subst k3
      have HV : Hid (elI 3 0 ⟨#[]⟩ xa 0 xc tx kn = .iface 123 (.agg #[])) := by show _ = _; unfold elI; rw [if_neg (fun h => absurd h.1 (by decide)), if_neg (fun h => absurd h.1 (by decide)), if_neg (fun h => h4 h.2.2.2.2)]
      rw [HV.out]
      clear HV h4 k1 k2
      go_enter Tryz.func80, Tryz.ntmps80
      go_wp2_with fail
      go_ret
      exact ⟨rfl, hb0.out⟩
    have g3 : (kd == 3) = false := beq_false_of_ne k3
    have HV : Hid (elI kd 0 ⟨#[]⟩ xa 0 xc tx kn = .iface 123 (.agg #[])) := by show _ = _; unfold elI; rw [if_neg (fun h => k1 h.1), if_neg (fun h => k2 h.1), if_neg (fun h => k3 h.1)]
    rw [HV.out]
    clear HV h4 k1 k2 k3
    go_enter Tryz.func80, Tryz.ntmps80
    go_wp2_with fail
    go_ret
    exact ⟨rfl, hb0.out⟩
  subst h4
  by_cases k1 : kd = 1
  · subst k1
    by_cases t0 : tx.size = 0
    · have e0 := empty_of t0
      subst e0
      have HV : Hid (elI 1 0 ⟨#[]⟩ xa 0 xc ⟨#[]⟩ 0 = .iface 105 (.agg #[.int .i64 0, .string ⟨#[]⟩, .slice xa 0 xc])) := by show _ = _; unfold elI; rw [if_pos ⟨rfl, rfl⟩]
      rw [HV.out]
      clear HV t0
      go_enter Tryz.func80, Tryz.ntmps80
      go_wp2_with fail
      go_ret
      exact ⟨rfl, hb0.out⟩
    · have gt : (tx.toList == []) = false := not_empty t0
      have HV : Hid (elI 1 0 ⟨#[]⟩ xa 0 xc tx 0 = .iface 123 (.agg #[])) := by show _ = _; unfold elI; rw [if_neg (fun h => t0 h.2), if_neg (fun h => absurd h.1 (by decide)), if_neg (fun h => absurd h.1 (by decide))]
      rw [HV.out]
      clear HV t0
      go_enter Tryz.func80, Tryz.ntmps80
      go_wp2_with fail
      go_ret
      exact ⟨rfl, hb0.out⟩
  have g1 : (kd == 1) = false := beq_false_of_ne k1
  by_cases k2 : kd = 2
  · subst k2
    have HV : Hid (elI 2 0 ⟨#[]⟩ xa 0 xc tx 0 = .iface 98 (.agg #[.string tx])) := by show _ = _; unfold elI; rw [if_neg (fun h => absurd h.1 (by decide)), if_pos ⟨rfl, rfl, rfl, rfl, rfl⟩]
    rw [HV.out]
    clear HV k1
    go_enter Tryz.func80, Tryz.ntmps80
    go_wp2_with fail
    go_ret
    exact ⟨rfl, hb0.out⟩
  have g2 : (kd == 2) = false := beq_false_of_ne k2
  by_cases k3 : kd = 3
  · subst k3
    have HV : Hid (elI 3 0 ⟨#[]⟩ xa 0 xc tx 0 = .iface 106 (.agg #[.string tx])) := by show _ = _; unfold elI; rw [if_neg (fun h => absurd h.1 (by decide)), if_neg (fun h => absurd h.1 (by decide)), if_pos ⟨rfl, rfl, rfl, rfl, rfl⟩]
    rw [HV.out]
    clear HV k1 k2
    go_enter Tryz.func80, Tryz.ntmps80
    go_wp2_with fail
    go_ret
    exact ⟨rfl, hb0.out⟩
  have g3 : (kd == 3) = false := beq_false_of_ne k3
  have HV : Hid (elI kd 0 ⟨#[]⟩ xa 0 xc tx 0 = .iface 123 (.agg #[])) := by show _ = _; unfold elI; rw [if_neg (fun h => k1 h.1), if_neg (fun h => k2 h.1), if_neg (fun h => k3 h.1)]
  rw [HV.out]
  clear HV k1 k2 k3
  go_enter Tryz.func80, Tryz.ntmps80
  go_wp2_with fail
  go_ret
  exact ⟨rfl, hb0.out⟩

end Go.Proofs.YtbmmghkieolpkaaGreatDoor.Sg

namespace Go.Proofs.YtbmmghkieolpkaaGreatDoor.Sg
open Go.ChangeShapes Go.WideShapes Go.ChangeAt Go.RowKit

set_option maxHeartbeats 2000000 in
theorem implStrictNone (w : World) : Calls Tryz.prog 205 #[.agg #[]] w fun e w' => e = .returned (.bool false) ∧ Below w.heap.size w w' := by
  go_enter Tryz.func205, Tryz.ntmps205
  go_wp2_with fail
  go_ret
  exact ⟨rfl, (Below.refl w.heap.size w).alloc (Nat.le_refl _) _⟩
set_option maxHeartbeats 2000000 in
theorem implStrictNote (tx : ByteArray) (w : World) (hs : tx.size ≤ 16777216) (hT : StLib w) : Calls Tryz.prog 204 #[.agg #[.string tx]] w fun e w' => e = .returned (.bool (stNoteB tx)) ∧ Below w.heap.size w w' := by
  have hb0 : Below w.heap.size w (w.alloc (.cells #[.string tx] 106)) := (Below.refl w.heap.size w).alloc (Nat.le_refl _) _
  have HX := implNoteOk tx _ (by omega) (hT.below hb0)
  generalize stNoteB tx = R at *
  clear hT
  go_enter Tryz.func204, Tryz.ntmps204
  go_wp2_with fail
  refine HX.mono ?_
  rintro e w1 ⟨rfl, b1⟩
  have B1 : Hid (Below w.heap.size w w1) := hb0.trans (b1.mono hb0.size)
  clear HX b1 hb0
  go_wp2_with fail
  go_ret
  exact ⟨rfl, B1.out⟩
set_option maxHeartbeats 2000000 in
theorem implStrictText (tx : ByteArray) (w : World) (hs : tx.size ≤ 16777216) (hT : StLib w) : Calls Tryz.prog 197 #[.agg #[.string tx]] w fun e w' => e = .returned (.bool (decide (tx.size ≠ 0) && stTextB tx)) ∧ Below w.heap.size w w' := by
  have hb0 : Below w.heap.size w (w.alloc (.cells #[.string tx] 98)) := (Below.refl w.heap.size w).alloc (Nat.le_refl _) _
  have HX := implTextOk tx _ (by omega) (hT.below hb0).1
  clear hT
  by_cases h0 : tx.size = 0
  · have e0 := empty_of h0
    subst e0
    clear HX
    go_enter Tryz.func197, Tryz.ntmps197
    go_wp2_with fail
    go_ret
    exact ⟨rfl, hb0⟩
  · have g0 : (tx.toList == []) = false := not_empty h0
    have g0' : (tx.toList != []) = true := by rw [bne, g0]; rfl
    have Hd : Hid ((decide (tx.size ≠ 0) && stTextB tx) = stTextB tx) := by show _ = _; rw [decide_eq_true h0]; rfl
    rw [Hd.out]
    generalize stTextB tx = R at *
    clear Hd h0
    go_enter Tryz.func197, Tryz.ntmps197
    go_wp2_with fail
    refine HX.mono ?_
    rintro e w1 ⟨rfl, b1⟩
    have B1 : Hid (Below w.heap.size w w1) := hb0.trans (b1.mono hb0.size)
    clear HX b1 hb0
    go_wp2_with fail
    go_ret
    exact ⟨rfl, B1.out⟩
/-- What a tag is asked for by itself. -/
def tagSelf (sp : Int) (nm : ByteArray) (ats : List AttrB) : Bool := inP sp (0, 2) && (stNameB nm && (unlikeB ats && ats.all attrOk))

set_option maxRecDepth 20000 in
set_option maxHeartbeats 4000000 in
theorem implStrictTag (sp : Int) (nm : ByteArray) (ats : List AttrB) (ab : Option Addr) (ac : Nat) (w : World) (hA : AttrsAt w ab ats) (hnm : nm.size ≤ 16777216) (hal : ats.length ≤ 16777216) (hap : ∀ p ∈ ats, p.1.size ≤ 16777216 ∧ p.2.size ≤ 16777216) (hT : StLib w) :
    Calls Tryz.prog 198 #[.agg #[.int .i64 sp, .string nm, .slice ab ats.length ac]] w fun e w' => e = .returned (.bool (tagSelf sp nm ats)) ∧ Below w.heap.size w w' := by
  have hb0 : Below w.heap.size w (w.alloc (.cells #[.int .i64 sp, .string nm, .slice ab ats.length ac] 105)) := (Below.refl w.heap.size w).alloc (Nat.le_refl _) _
  have HN := implNameOk nm _ (by omega) (hT.below hb0).1
  have HU : Hid (∀ W, Below w.heap.size w W → Calls Tryz.prog 76 #[.slice ab ats.length ac] W fun r w' => r = .returned (.bool (unlikeB ats)) ∧ Below W.heap.size W w') := fun W hW => implUnlike ats ab _ ac W (hA.below hW) rfl hal
  have HC : Hid (∀ W, Below w.heap.size w W → Calls Tryz.prog 200 #[.slice ab ats.length ac, .func (.func 201) #[] #[]] W fun r w' => r = .returned (.bool (!ats.all attrOk)) ∧ Below W.heap.size W w') := fun W hW => implNoContains ats ab ac W (hA.below hW) hal hap (hT.below hW)
  have Hd : Hid (tagSelf sp nm ats = (inP sp (0, 2) && (stNameB nm && (unlikeB ats && ats.all attrOk)))) := rfl
  generalize tagSelf sp nm ats = R at *
  generalize ats.all attrOk = ak at *
  generalize unlikeB ats = uk at *
  generalize stNameB nm = nk at *
  have x2 : (w.alloc (.cells #[.int .i64 sp, .string nm, .slice ab ats.length ac] 105)).cell? ⟨w.heap.size, 2, none⟩ = some (.slice ab ats.length ac) := by simp
  have HB0 : Hid (Below w.heap.size w (w.alloc (.cells #[.int .i64 sp, .string nm, .slice ab ats.length ac] 105))) := hb0
  clear hT hb0 hap hA
  generalize ats.length = an at *
  by_cases h1 : sp < 0
  · have Hf : Hid (R = false) := by
      show _ = _
      rw [Hd.out, show inP sp (0, 2) = false from decide_eq_false (by simp only; omega)]
      rfl
    have g1 : decide ((0 : Int) ≤ sp) = false := decide_eq_false (by omega)
    clear Hd HN HU HC
    go_enter Tryz.func198, Tryz.ntmps198
    go_wp2_with fail
    go_ret
    exact ⟨ret_bool Hf.out.symm, HB0.out⟩
  have g1 : decide ((0 : Int) ≤ sp) = true := decide_eq_true (by omega)
  by_cases h2 : (2 : Int) < sp
  · have Hf : Hid (R = false) := by
      show _ = _
      rw [Hd.out, show inP sp (0, 2) = false from decide_eq_false (by simp only; omega)]
      rfl
    have g2 : decide (sp ≤ (2 : Int)) = false := decide_eq_false (by omega)
    clear Hd HN HU HC
    go_enter Tryz.func198, Tryz.ntmps198
    go_wp2_with fail
    go_ret
    exact ⟨ret_bool Hf.out.symm, HB0.out⟩
  have g2 : decide (sp ≤ (2 : Int)) = true := decide_eq_true (by omega)
  have Hd1 : Hid (R = (nk && (uk && ak))) := by
    show _ = _
    rw [Hd.out, show inP sp (0, 2) = true from decide_eq_true (by simp only; omega)]
    rfl
  clear Hd
  cases nk
  · have Hf : Hid (R = false) := Hd1.out
    clear Hd1 HU HC
    go_enter Tryz.func198, Tryz.ntmps198
    go_wp2_with fail
    refine HN.mono ?_
    rintro e w1 ⟨rfl, b1⟩
    have B1 : Hid (Below w.heap.size w w1) := HB0.out.trans (b1.mono HB0.out.size)
    clear HN b1 HB0
    go_wp2_with fail
    go_ret
    exact ⟨ret_bool Hf.out.symm, B1.out⟩
  cases uk
  · have Hf : Hid (R = false) := Hd1.out
    clear Hd1 HC
    go_enter Tryz.func198, Tryz.ntmps198
    go_wp2_with fail
    refine HN.mono ?_
    rintro e w1 ⟨rfl, b1⟩
    have y2 := keep_cell b1 x2
    have B1 : Hid (Below w.heap.size w w1) := HB0.out.trans (b1.mono HB0.out.size)
    have HU1 := HU.out w1 B1.out
    clear HN b1 HB0 HU x2
    go_wp2_with fail
    refine HU1.mono ?_
    rintro e w2 ⟨rfl, b2⟩
    have B2 : Hid (Below w.heap.size w w2) := B1.out.trans (b2.mono B1.out.size)
    clear HU1 b2 B1 y2
    go_wp2_with fail
    go_ret
    exact ⟨ret_bool Hf.out.symm, B2.out⟩
  have Hf : Hid (R = ak) := by show _ = _; rw [Hd1.out]; simp
  clear Hd1
  go_enter Tryz.func198, Tryz.ntmps198
  go_wp2_with fail
  refine HN.mono ?_
  rintro e w1 ⟨rfl, b1⟩
  have y2 := keep_cell b1 x2
  have B1 : Hid (Below w.heap.size w w1) := HB0.out.trans (b1.mono HB0.out.size)
  have HU1 := HU.out w1 B1.out
  clear HN b1 HB0 HU x2
  go_wp2_with fail
  refine HU1.mono ?_
  rintro e w2 ⟨rfl, b2⟩
  have z2 := keep_cell b2 y2
  have B2 : Hid (Below w.heap.size w w2) := B1.out.trans (b2.mono B1.out.size)
  have HC1 := HC.out w2 B2.out
  clear HU1 b2 B1 y2 HC
  go_wp2_with fail
  refine HC1.mono ?_
  rintro e w3 ⟨rfl, b3⟩
  have B3 : Hid (Below w.heap.size w w3) := B2.out.trans (b3.mono B2.out.size)
  clear HC1 b3 B2 z2
  go_wp2_with fail
  go_ret
  exact ⟨ret_bool Hf.out.symm, B3.out⟩

end Go.Proofs.YtbmmghkieolpkaaGreatDoor.Sg

namespace Go.Proofs.YtbmmghkieolpkaaGreatDoor.Sg

/-- The kids of an element. -/
def kidsE : ElB → List ElB
  | .mk _ _ _ _ _ ks => ks
theorem elN_kids (e : ElB) : elN e = elsN (kidsE e) + 1 := by obtain ⟨kd, sp, nm, ats, tx, ks⟩ := e; rw [elN, kidsE]
theorem elD_kids (e : ElB) : elD e = elsD (kidsE e) + 1 := by obtain ⟨kd, sp, nm, ats, tx, ks⟩ := e; rw [elD, kidsE]
/-- The rows that are put behind for these. -/
def pushP (d : Nat) : List ElB → List (List ElB × Nat)
  | [] => []
  | e :: es => if (kidsE e).length = 0 then pushP d es else (kidsE e, d) :: pushP d es
theorem pushP_append (d : Nat) : ∀ (a b : List ElB), pushP d (a ++ b) = pushP d a ++ pushP d b
  | [], b => rfl
  | e :: a, b => by
    rw [List.cons_append, pushP, pushP, pushP_append d a b]
    split <;> rfl
theorem pushP_step (d : Nat) (els : List ElB) (k : Nat) (h : k < els.length) : pushP d (els.take (k + 1)) = pushP d (els.take k) ++ if (kidsE (els[k]'h)).length = 0 then [] else [(kidsE (els[k]'h), d)] := by
  rw [List.take_succ_eq_append_getElem h, pushP_append]
  rfl
/-- Rows that wait, and those that come, in their order. -/
inductive Vis : List (List ElB × Nat) → List (List ElB × Nat) → Prop where
  | nil : Vis [] []
  | pop (st : List (List ElB × Nat)) (r : List ElB × Nat) (ys : List (List ElB × Nat)) : Vis (st ++ pushP (r.2 + 1) r.1) ys → Vis (st ++ [r]) (r :: ys)
/-- How many elements are in rows, how many rounds there are at most. -/
def wN (st : List (List ElB × Nat)) : Nat := (st.map fun r => elsN r.1).sum
def wM (st : List (List ElB × Nat)) : Nat := (st.map fun r => elsN r.1 + 1).sum
theorem wN_append (a b : List (List ElB × Nat)) : wN (a ++ b) = wN a + wN b := by simp [wN]
theorem wM_append (a b : List (List ElB × Nat)) : wM (a ++ b) = wM a + wM b := by simp [wM]
theorem wM_len : ∀ st : List (List ElB × Nat), st.length ≤ wM st
  | [] => Nat.zero_le _
  | r :: st => by
    have := wM_len st
    rw [show r :: st = [r] ++ st from rfl, wM_append]
    simp [wM] at *
    omega
theorem wN_push (d : Nat) : ∀ els : List ElB, wN (pushP d els) + els.length = elsN els
  | [] => rfl
  | e :: es => by
    have ih := wN_push d es
    have hn := elN_kids e
    rw [pushP, elsN, List.length_cons]
    split
    · rename_i h
      have h0 : elsN (kidsE e) = 0 := by rw [List.length_eq_zero_iff.1 h]; rfl
      omega
    · rw [show (kidsE e, d) :: pushP d es = [(kidsE e, d)] ++ pushP d es from rfl, wN_append]
      have h1 : wN [(kidsE e, d)] = elsN (kidsE e) := by simp [wN]
      omega
theorem wM_push (d : Nat) : ∀ els : List ElB, wM (pushP d els) ≤ elsN els
  | [] => Nat.le_refl _
  | e :: es => by
    have ih := wM_push d es
    have hn := elN_kids e
    rw [pushP, elsN]
    split
    · omega
    · rw [show (kidsE e, d) :: pushP d es = [(kidsE e, d)] ++ pushP d es from rfl, wM_append]
      have h1 : wM [(kidsE e, d)] = elsN (kidsE e) + 1 := by simp [wM]
      omega
theorem wM_pop (st : List (List ElB × Nat)) (r : List ElB × Nat) : wM (st ++ pushP (r.2 + 1) r.1) < wM (st ++ [r]) := by
  have := wM_push (r.2 + 1) r.1
  have h1 : wM [r] = elsN r.1 + 1 := by simp [wM]
  rw [wM_append, wM_append]
  omega
/-- All rows come. -/
theorem vis_any : ∀ (m : Nat) (st : List (List ElB × Nat)), wM st ≤ m → ∃ ys, Vis st ys
  | m, st, h => by
    rcases List.eq_nil_or_concat st with rfl | ⟨s, r, rfl⟩
    · exact ⟨[], .nil⟩
    · rw [List.concat_eq_append] at h ⊢
      have hp := wM_pop s r
      match m, h with
      | 0, h => omega
      | m + 1, h =>
        obtain ⟨ys, hy⟩ := vis_any m (s ++ pushP (r.2 + 1) r.1) (by omega)
        exact ⟨r :: ys, .pop s r ys hy⟩
theorem elsN_take : ∀ (es : List ElB) (k : Nat), elsN (es.take k) ≤ elsN es
  | [], k => by simp
  | e :: es, 0 => by simp [elsN]
  | e :: es, k + 1 => by
    have := elsN_take es k
    rw [List.take_succ_cons, elsN, elsN]
    omega
/-- How many come. -/
def lenR (ys : List (List ElB × Nat)) : Nat := (ys.map fun r => r.1.length).sum
theorem lenR_snoc (ys : List (List ElB × Nat)) (r : List ElB × Nat) : lenR (ys ++ [r]) = lenR ys + r.1.length := by simp [lenR]
theorem vis_len {st ys : List (List ElB × Nat)} (h : Vis st ys) : lenR ys = wN st := by
  induction h with
  | nil => rfl
  | pop st r ys _ ih =>
    rw [wN_append] at ih ⊢
    have := wN_push (r.2 + 1) r.1
    have h1 : wN [r] = elsN r.1 := by simp [wN]
    have h2 : lenR (r :: ys) = r.1.length + lenR ys := by simp [lenR]
    omega
/-- How deep they are. -/
def maxR : List (List ElB × Nat) → Nat
  | [] => 0
  | r :: ys => max r.2 (maxR ys)
theorem maxR_snoc : ∀ (ys : List (List ElB × Nat)) (r : List ElB × Nat), maxR (ys ++ [r]) = max (maxR ys) r.2
  | [], r => by simp [maxR]
  | y :: ys, r => by
    rw [List.cons_append, maxR, maxR, maxR_snoc ys r]
    omega
def mD : List (List ElB × Nat) → Nat
  | [] => 0
  | r :: st => max (r.2 - 1 + elsD r.1) (mD st)
theorem mD_append : ∀ a b : List (List ElB × Nat), mD (a ++ b) = max (mD a) (mD b)
  | [], b => by simp [mD]
  | r :: a, b => by
    rw [List.cons_append, mD, mD, mD_append a b]
    omega
theorem elsD_pos : ∀ es : List ElB, es ≠ [] → 1 ≤ elsD es
  | [], h => absurd rfl h
  | e :: es, _ => by
    have := elD_kids e
    rw [elsD]
    omega
theorem mD_push (d : Nat) : ∀ els : List ElB, max (d + 1) (mD (pushP (d + 2) els)) = max (d + 1) (d + elsD els)
  | [] => by simp [pushP, mD, elsD]
  | e :: es => by
    have ih := mD_push d es
    have hn := elD_kids e
    rw [pushP, elsD]
    split
    · rename_i h
      have h0 : elsD (kidsE e) = 0 := by rw [List.length_eq_zero_iff.1 h]; rfl
      omega
    · rw [mD]
      simp only
      omega
theorem pushP_kids (d : Nat) : ∀ (els : List ElB) (r : List ElB × Nat), r ∈ pushP d els → r.1 ≠ [] ∧ r.2 = d
  | [], r, h => nomatch h
  | e :: es, r, h => by
    rw [pushP] at h
    split at h
    · exact pushP_kids d es r h
    · rename_i hk
      rcases List.mem_cons.1 h with h | h
      · rw [h]
        exact ⟨fun h0 => hk (by rw [show kidsE e = [] from h0]; rfl), rfl⟩
      · exact pushP_kids d es r h
theorem pushP_deep (d : Nat) : ∀ (els : List ElB) (r : List ElB × Nat), r ∈ pushP d els → elsD r.1 + 1 ≤ elsD els
  | [], r, h => nomatch h
  | e :: es, r, h => by
    have he := elD_kids e
    rw [pushP] at h
    rw [elsD]
    split at h
    · have := pushP_deep d es r h
      omega
    · rcases List.mem_cons.1 h with h | h
      · rw [h]
        simp only
        omega
      · have := pushP_deep d es r h
        omega
theorem vis_deep {st ys : List (List ElB × Nat)} (h : Vis st ys) : (∀ r ∈ st, r.1 ≠ [] ∧ 1 ≤ r.2) → maxR ys = mD st := by
  induction h with
  | nil => intro; rfl
  | pop st r ys _ ih =>
    intro hr
    have hr1 := hr r (by simp)
    have hp := elsD_pos r.1 hr1.1
    have hm := mD_push (r.2 - 1) r.1
    rw [show r.2 - 1 + 1 = r.2 by omega, show r.2 - 1 + 2 = r.2 + 1 by omega] at hm
    have h1 := ih (fun q hq => by
      rcases List.mem_append.1 hq with hq | hq
      · exact hr q (by simp [hq])
      · have := pushP_kids _ _ q hq
        exact ⟨this.1, by omega⟩)
    rw [mD_append] at h1 ⊢
    have h2 : mD [r] = r.2 - 1 + elsD r.1 := by simp [mD]
    rw [maxR, h1, h2]
    omega

/-- A row as it lies. -/
structure RowX where
  a : Option Addr
  cap : Nat
  els : List ElB
  deep : Nat
def RowX.p (r : RowX) : List ElB × Nat := (r.els, r.deep)
def rowCs (st : List RowX) : List Value := st.flatMap fun r => [.slice r.a r.els.length r.cap, .int .i64 (r.deep : Int)]
theorem rowCs_append (a b : List RowX) : rowCs (a ++ b) = rowCs a ++ rowCs b := by simp [rowCs]
theorem rowCs_len : ∀ st : List RowX, (rowCs st).length = st.length * 2
  | [] => rfl
  | r :: st => by
    have := rowCs_len st
    rw [show r :: st = [r] ++ st from rfl, rowCs_append, List.length_append, this]
    simp [rowCs]
    omega
theorem rowCs_last (st : List RowX) (r : RowX) : (rowCs (st ++ [r]))[st.length * 2]? = some (.slice r.a r.els.length r.cap) ∧ (rowCs (st ++ [r]))[st.length * 2 + 1]? = some (.int .i64 (r.deep : Int)) := by
  have h := rowCs_len st
  rw [rowCs_append, List.getElem?_append_right (by omega), List.getElem?_append_right (by omega), h]
  have e1 : st.length * 2 - st.length * 2 = 0 := by omega
  have e2 : st.length * 2 + 1 - st.length * 2 = 1 := by omega
  rw [e1, e2]
  exact ⟨rfl, rfl⟩
theorem rowCs_cut (st : List RowX) (r : RowX) : (rowCs (st ++ [r])).take (st.length * 2) = rowCs st := by
  rw [rowCs_append, ← rowCs_len st, List.take_left]
/-- The beginning of a row that is owned. -/
theorem owns_cutn {w : World} {base g cap n m z : Nat} {e : TypeId} {xs : List Value} (h : w.ownsRow base e z (.slice (some ⟨g, 0, none⟩) n cap) n xs) (hm : m ≤ n) : w.ownsRow base e z (.slice (some ⟨g, 0, none⟩) m cap) m (xs.take (m * z)) := by
  have hmz : m * z ≤ n * z := Nat.mul_le_mul_right z hm
  obtain ⟨h1, h2⟩ := h
  rcases h2 with ⟨h2, _⟩ | ⟨g', cap', cur, hv, h3, h4, h5, h6, h7, h8⟩
  · cases h2
  · cases hv
    refine ⟨by rw [List.length_take, h1]; omega, .inr ⟨g, cap, cur, rfl, h3, h4, by omega, h6, h7, ?_⟩⟩
    rw [← h8, List.take_take]
    congr 1
    omega
theorem KidsIn.agree {Q : World → Value → List AttrB → Prop} {P : Nat → Prop} (hQ : LiesP Q P) {w w' : World} (hb : ∀ b, P b → w'.heap[b]? = w.heap[b]?) (hs : w.heap.size ≤ w'.heap.size) {ka : Option Addr} {ks : List ElB} (h : KidsIn Q P w ka ks) : KidsIn Q P w' ka ks := by
  rcases h with h | ⟨kb, ko, e, hp, h⟩
  · exact .inl h
  · exact .inr ⟨kb, ko, e, hp, ElsIn.agree hQ hb hs ks kb ko hp h⟩
theorem ElIn.parts2 {Q : World → Value → List AttrB → Prop} {P : Nat → Prop} (hs : ∀ {w v l}, Q w v l → ∃ a c, v = .slice a l.length c) {W : World} {e : ElB} {b o : Nat} (h : ElIn Q P W e b o) : ∃ kd sp nm xa n xc tx ka kc, W.cell? ⟨b, o, none⟩ = some (.int .i64 kd) ∧ W.cell? ⟨b, o + 1, none⟩ = some (.int .i64 sp) ∧ W.cell? ⟨b, o + 2, none⟩ = some (.string nm) ∧ W.cell? ⟨b, o + 3, none⟩ = some (.slice xa n xc) ∧ W.cell? ⟨b, o + 4, none⟩ = some (.string tx) ∧ W.cell? ⟨b, o + 5, none⟩ = some (.slice ka (kidsE e).length kc) ∧ KidsIn Q P W ka (kidsE e) := by
  obtain ⟨kd, sp, nm, ats, tx, ks⟩ := e
  unfold ElIn at h
  obtain ⟨c0, c1, c2, ⟨av, c3, hq⟩, c4, ka, kc, c5, hk⟩ := h
  obtain ⟨xa, xc, rfl⟩ := hs hq
  exact ⟨kd, sp, nm, xa, _, xc, tx, ka, kc, c0, c1, c2, c3, c4, c5, hk⟩

end Go.Proofs.YtbmmghkieolpkaaGreatDoor.Sg

namespace Go.Proofs.YtbmmghkieolpkaaGreatDoor.Sg

/-- Strict by itself. -/
def aloneK : ElB → Bool
  | .mk kd sp nm ats tx ks => okSelf kd sp nm ats tx ks.length
/-- A row is strict; the one ahead of it is a text, or not. -/
def rowOk : Bool → List ElB → Bool
  | _, [] => true
  | bt, e :: es => (aloneK e && !(decide (kindE e = 2) && bt)) && rowOk (decide (kindE e = 2)) es
theorem rowOk_drop (es : List ElB) (k : Nat) (h : k < es.length) (bt : Bool) : rowOk bt (es.drop k) = ((aloneK (es[k]'h) && !(decide (kindE (es[k]'h) = 2) && bt)) && rowOk (decide (kindE (es[k]'h) = 2)) (es.drop (k + 1))) := by
  rw [List.drop_eq_getElem_cons h, rowOk]
def goodR (r : List ElB × Nat) : Bool := decide (r.2 ≤ 60) && rowOk false r.1
mutual
/-- The rows within are good. -/
def dgE (d : Nat) : ElB → Bool
  | .mk _ _ _ _ _ ks => decide (ks.length = 0) || (goodR (ks, d) && dgEs (d + 1) ks)
def dgEs (d : Nat) : List ElB → Bool
  | [] => true
  | e :: es => dgE d e && dgEs d es
end
def dgR (r : List ElB × Nat) : Bool := goodR r && dgEs (r.2 + 1) r.1
theorem dgE_kids (d : Nat) (e : ElB) : dgE d e = (decide ((kidsE e).length = 0) || dgR (kidsE e, d)) := by
  obtain ⟨kd, sp, nm, ats, tx, ks⟩ := e
  rw [dgE, kidsE]
  rfl
theorem dg_push (d : Nat) : ∀ els : List ElB, (pushP d els).all dgR = dgEs d els
  | [] => by rw [pushP, dgEs]; rfl
  | e :: es => by
    rw [pushP, dgEs, ← dg_push d es, dgE_kids]
    split
    · rename_i h
      rw [decide_eq_true h]
      rfl
    · rename_i h
      rw [decide_eq_false h, List.all_cons]
      rfl
theorem vis_good {st ys : List (List ElB × Nat)} (h : Vis st ys) : ys.all goodR = st.all dgR := by
  induction h with
  | nil => rfl
  | pop st r ys _ ih =>
    rw [List.all_cons, ih, List.all_append, List.all_append, dg_push]
    show _ = (st.all dgR && (dgR r && true))
    unfold dgR
    generalize goodR r = a
    generalize st.all (fun r => goodR r && dgEs (r.2 + 1) r.1) = b
    generalize dgEs (r.2 + 1) r.1 = c
    cases a <;> cases b <;> cases c <;> rfl
theorem okE_alone (e : ElB) : okE e = (okEs 0 (kidsE e) && aloneK e) := by
  obtain ⟨kd, sp, nm, ats, tx, ks⟩ := e
  rw [okE, kidsE, aloneK]
theorem okEs_rows : ∀ (es : List ElB) (pk : Int), okEs pk es = true ↔ rowOk (decide (pk = 2)) es = true ∧ ∀ e ∈ es, okEs 0 (kidsE e) = true
  | [], pk => by simp [okEs, rowOk]
  | e :: es, pk => by
    rw [okEs, rowOk, Bool.and_eq_true, Bool.and_eq_true, Bool.and_eq_true, Bool.and_eq_true, okE_alone, Bool.and_eq_true, okEs_rows es (kindE e)]
    constructor
    · rintro ⟨⟨⟨h1, h2⟩, h3⟩, h4, h5⟩
      refine ⟨⟨⟨h2, h3⟩, h4⟩, fun x hx => ?_⟩
      rcases List.mem_cons.1 hx with rfl | hx
      · exact h1
      · exact h5 x hx
    · rintro ⟨⟨⟨h2, h3⟩, h4⟩, h5⟩
      exact ⟨⟨⟨h5 e List.mem_cons_self, h2⟩, h3⟩, h4, fun x hx => h5 x (List.mem_cons_of_mem _ hx)⟩
theorem elsD_at : ∀ (es : List ElB) (n : Nat), elsD es ≤ n ↔ ∀ e ∈ es, elD e ≤ n
  | [], n => by simp [elsD]
  | e :: es, n => by
    rw [elsD, Nat.max_le, elsD_at es n]
    constructor
    · rintro ⟨h1, h2⟩ x hx
      rcases List.mem_cons.1 hx with rfl | hx
      · exact h1
      · exact h2 x hx
    · intro h
      exact ⟨h e List.mem_cons_self, fun x hx => h x (List.mem_cons_of_mem _ hx)⟩
mutual
theorem dgE_iff : ∀ (e : ElB) (d : Nat), dgE d e = true ↔ (kidsE e = [] ∨ d + elsD (kidsE e) ≤ 61) ∧ okEs 0 (kidsE e) = true
  | .mk kd sp nm ats tx ks, d => by
    have ih := dgEs_iff ks (d + 1)
    rw [dgE, kidsE]
    by_cases h0 : ks = []
    · subst h0
      simp [okEs]
    · have hl : ks.length ≠ 0 := fun h => h0 (List.length_eq_zero_iff.1 h)
      rw [decide_eq_false hl, Bool.false_or, Bool.and_eq_true, ih, okEs_rows]
      unfold goodR
      rw [Bool.and_eq_true, decide_eq_true_iff]
      obtain ⟨x, xs, rfl⟩ := List.exists_cons_of_ne_nil h0
      have hd : ∀ n, elsD (x :: xs) ≤ n ↔ ∀ e ∈ x :: xs, elD e ≤ n := elsD_at (x :: xs)
      have h1 : 1 ≤ elsD (x :: xs) := by
        rw [elsD]
        have := elD_kids x
        omega
      constructor
      · rintro ⟨⟨a1, a2⟩, a3⟩
        refine ⟨.inr ?_, a2, fun e he => (a3 e he).2⟩
        have : elsD (x :: xs) ≤ 61 - d := (hd _).2 fun e he => by
          have := elD_kids e
          rcases (a3 e he).1 with h | h
          · rw [h, elsD] at this
            omega
          · omega
        omega
      · rintro ⟨a1, a2, a3⟩
        rcases a1 with a1 | a1
        · exact absurd a1 h0
        · refine ⟨⟨by omega, a2⟩, fun e he => ⟨.inr ?_, a3 e he⟩⟩
          have := (hd (61 - d)).1 (by omega) e he
          have := elD_kids e
          omega
theorem dgEs_iff : ∀ (es : List ElB) (d : Nat), dgEs d es = true ↔ ∀ e ∈ es, (kidsE e = [] ∨ d + elsD (kidsE e) ≤ 61) ∧ okEs 0 (kidsE e) = true
  | [], d => by simp [dgEs]
  | e :: es, d => by
    have h1 := dgE_iff e d
    have h2 := dgEs_iff es d
    rw [dgEs, Bool.and_eq_true, h1, h2]
    constructor
    · rintro ⟨a, b⟩ x hx
      rcases List.mem_cons.1 hx with rfl | hx
      · exact a
      · exact b x hx
    · intro h
      exact ⟨h e List.mem_cons_self, fun x hx => h x (List.mem_cons_of_mem _ hx)⟩
end
/-- One element is strict just where all rows that come of it are good. -/
theorem strict_rows {z : ElB} {ys : List (List ElB × Nat)} (h : Vis [([z], 1)] ys) : (decide (elD z ≤ 60) && okE z) = ys.all goodR := by
  rw [vis_good h, List.all_cons, List.all_nil, Bool.and_true]
  rw [Bool.eq_iff_iff, Bool.and_eq_true, decide_eq_true_iff]
  unfold dgR goodR
  rw [Bool.and_eq_true, Bool.and_eq_true, dgEs_iff, okE_alone, Bool.and_eq_true]
  have hk := elD_kids z
  have hr : rowOk false [z] = aloneK z := by
    rw [rowOk, rowOk]
    cases aloneK z <;> simp
  simp only [List.mem_singleton, forall_eq]
  rw [hr]
  constructor
  · rintro ⟨a, b, c⟩
    exact ⟨⟨rfl, c⟩, .inr (by omega), b⟩
  · rintro ⟨⟨_, c⟩, d, b⟩
    refine ⟨?_, b, c⟩
    rcases d with d | d
    · rw [d, elsD] at hk
      omega
    · omega

end Go.Proofs.YtbmmghkieolpkaaGreatDoor.Sg

namespace Go.Proofs.YtbmmghkieolpkaaGreatDoor.Sg
open Go.ChangeShapes Go.WideShapes Go.ChangeAt Go.RowKit Go.Shelf

/-- Of numbers of which one is so, one is the least. -/
theorem least_one {p : Nat → Prop} (h : ∃ m, p m) : ∃ m, p m ∧ ∀ k, p k → m ≤ k := by
  obtain ⟨m, hm⟩ := h
  induction m using Nat.strongRecOn with
  | ind m ih =>
    by_cases hl : ∃ k, k < m ∧ p k
    · obtain ⟨k, hk, hp⟩ := hl
      exact ih k hk hp
    · exact ⟨m, hm, fun k hk => Nat.le_of_not_lt fun hlt => hl ⟨k, hlt, hk⟩⟩
/-- A measure that is the least of what serves. -/
theorem least_of {σ : Type} (p : σ → Nat → Prop) : ∃ f : σ → Nat, ∀ s m, p s m → p s (f s) ∧ f s ≤ m := by
  classical
  refine ⟨fun s => if h : ∃ m, p s m then Classical.choose (least_one h) else 0, fun s m hm => ?_⟩
  have h : ∃ m, p s m := ⟨m, hm⟩
  simp only [dif_pos h]
  exact ⟨(Classical.choose_spec (least_one h)).1, (Classical.choose_spec (least_one h)).2 m hm⟩

/-- What such a function promises: whatever is kept while blocks from its beginning on turn (J), and is so again behind each round that goes on, is so behind all. -/
def SeqOwn {α : Type} (F : Fence) (n : Nat) (P : Program) (g : Nat) (lb : Array Value) (encs : α → Array Value) (Ok : List α → α → World → Prop) (Kp : World → World → Prop) (S Sp : List α → Prop) (w : World) : Prop :=
  ∀ (l : Nat) (J Jx : List α → World → Prop) (W : World), W.heap.size = w.heap.size + 2 → Below w.heap.size w W →
    (∀ s A B, J s A → Below W.heap.size A B → J s B) → (∀ s A B, Jx s A → Below W.heap.size A B → Jx s B) →
    (∀ pre x W1, J pre W1 → Ok pre x W1 → W.heap.size ≤ W1.heap.size → YieldAt F (n - 1) P l (encs x) W1 fun e W' =>
      (e = .returned (.bool true) ∧ J (pre ++ [x]) W' ∧ Kp W1 W') ∨ (e = .returned (.bool false) ∧ Jx (pre ++ [x]) W')) →
    J [] W →
    CallsIn F n P g (#[.func (.yield l) #[] #[]] ++ lb) W fun e W' => (∃ v, e = .returned v) ∧ ((∃ xs, S xs ∧ J xs W') ∨ (∃ pre, Sp pre ∧ Jx pre W'))

theorem below_put {B : Nat} {A W : World} {l : Nat} (o' : Obj) (h : Below B A W) (hl : B ≤ l) (hB : B ≤ W.heap.size) : Below B A (W.putObj l o') :=
  h.grown (grownBy_putObj' W l o') hB (fun k e => by cases e; exact hl)

/-- The range over it. I: what holds between two rounds, of blocks that lay when the range began. Ax: what the loop's variable is. -/
theorem range_own {F : Fence} {n : Nat} {P : Program} {α : Type} {g : Operand} {ps : Array Tmp} {assign body : Code} {Q : Exit → Act → World → Prop} {a : Act} {w : World}
    (hro : F.round = none) (h1 : 1 ≤ n) {gf : Nat} {lb : Array Value} (hg : a.eval g = .func (.func gf) #[] lb) (hFg : F.fn gf) (eg : ∀ args w, (callFunc gf args).run P w = .ok (.enter gf args) w)
    {encs : α → Array Value} {Ok : List α → α → World → Prop} {Kp : World → World → Prop} {S Sp : List α → Prop} (hseq : SeqOwn F (n - 1) P gf lb encs Ok Kp S Sp w)
    (hKt : ∀ {A B C : World}, Kp A B → Kp B C → Kp A C) (hKb : ∀ (W : World) (o' : Obj), Kp W (W.putObj (w.heap.size + 1) o'))
    (hps : ∀ x, (encs x).size = ps.size) (I : List α → World → Prop) (Ix : Code → List α → World → Prop)
    (hI : ∀ s A B, I s A → Below w.heap.size A B → I s B) (hIx : ∀ c s A B, Ix c s A → Below w.heap.size A B → Ix c s B) (h0 : I [] w)
    (Ax : List α → α → Act → World → Prop) (hAx : ∀ pre x a' W o', Ax pre x a' W → Ax pre x a' (W.putObj (w.heap.size + 1) o'))
    (hassign : ∀ (l : Nat) (pre : List α) (x : α) (W : World) (K : Act → World → Prop), I pre W → Ok pre x W → w.heap.size + 2 ≤ W.heap.size → (∀ a' W', KeepsFrom w.heap.size W W' → Kp W W' → I pre W' → Ax pre x a' W' → K a' W') →
      assign.wpIn (F.inRound l) (n - 1 - 1) P (Exit.then K (fun _ _ _ => False)) { tmps := (ps.zip (encs x)).foldl (fun t (p, v) => t.setIfInBounds p v) a.tmps, defers := [] } W)
    (hbody : ∀ (l : Nat) (pre : List α) (x : α) (a' : Act) (W : World), I pre W → Ax pre x a' W → w.heap.size + 2 ≤ W.heap.size → body.wpIn (F.inRound l) (n - 1 - 1) P (ownPostG w.heap.size Kp I Ix (pre ++ [x]) W) a' W)
    (hdone : ∀ (D : Nat) (xs : List α) (W : World), w.heap.size ≤ D → S xs → I xs W → W.heap[D]? = some (.deferred (some [])) → Q .normal { a with defers := { target := .collected D, args := #[] } :: a.defers } W)
    (hstop : ∀ (D : Nat) (c : Code) (pre : List α) (W : World), w.heap.size ≤ D → Sp pre → Ix c pre W → W.heap[D]? = some (.deferred (some [])) → c.wpIn F n P Q { a with defers := { target := .collected D, args := #[] } :: a.defers } W) :
    (Code.rangeFunc g ps assign body).wpIn F n P Q a w := by
  refine wpIn_rangeFunc ?_
  intro fn hfn
  rw [hro]
  obtain ⟨R, hR⟩ : ∃ R : LoopState → Option Code → Loop, R = fun st pe => { state := st, pending := pe, fn, tmps := a.tmps, params := ps, assign, body, defers := w.heap.size } := ⟨_, rfl⟩
  obtain ⟨W1, hW1⟩ : ∃ W1, (w.alloc (.deferred (some []))).alloc (.loop (R .ready none)) = W1 := ⟨_, rfl⟩
  have hs1 : W1.heap.size = w.heap.size + 2 := by rw [← hW1]; simp
  have hL1 : W1.heap[w.heap.size + 1]? = some (.loop (R .ready none)) := by
    have := World.alloc_heap_new (w.alloc (.deferred (some []))) (.loop (R .ready none))
    rw [World.size_alloc] at this
    rw [← hW1]
    exact this
  have hD1 : W1.heap[w.heap.size]? = some (.deferred (some [])) := by
    rw [← hW1]
    exact (Below.heap_alloc _ _ _ (by simp)).trans (World.alloc_heap_new w _)
  have hb1 : Below w.heap.size w W1 := by
    rw [← hW1]
    exact ((Below.refl _ w).alloc (Nat.le_refl _) _).alloc (by simp) _
  have up : ∀ {A B : World}, Below W1.heap.size A B → Below w.heap.size A B := fun h => h.mono (by omega)
  refine ⟨w.heap.size + 1, [{ target := .collected w.heap.size, args := #[] }], W1, { target := .fn (.func gf) lb, args := #[.func (.yield (w.heap.size + 1)) #[] #[]] }, W1, gf,
    #[.func (.yield (w.heap.size + 1)) #[] #[]] ++ lb, W1, ?_, ?_, ?_, ?_, fun _ => h1, ?_⟩
  · rw [← hW1, hR]
    exact run_enterLoop_outer _ _ _ _ _
  · simp only [resolve, hg]
    simp [go_sem]
  · intro f' hf'
    simp [Target.leads] at hf'
    subst hf'
    exact hFg
  · simp [invoke, go_sem, eg]
  refine (hseq (w.heap.size + 1)
    (fun pre W => I pre W ∧ W.heap[w.heap.size + 1]? = some (.loop (R .ready none)) ∧ W.heap[w.heap.size]? = some (.deferred (some [])))
    (fun pre W => ∃ c, Ix c pre W ∧ W.heap[w.heap.size + 1]? = some (.loop (R .done (some c))) ∧ W.heap[w.heap.size]? = some (.deferred (some [])))
    W1 hs1 hb1
    (fun s A B hs hAB => ⟨hI s A B hs.1 (up hAB), (hAB.block _ (by omega)).trans hs.2.1, (hAB.block _ (by omega)).trans hs.2.2⟩)
    (fun s A B hs hAB => by
      obtain ⟨c, hc, hl, hk⟩ := hs
      exact ⟨c, hIx c s A B hc (up hAB), (hAB.block _ (by omega)).trans hl, (hAB.block _ (by omega)).trans hk⟩)
    ?_ ⟨hI _ _ _ h0 hb1, hL1, hD1⟩).mono ?_
  · rintro pre x W ⟨hi, hl, hk⟩ hok hsz
    have hy := run_yield (P := P) (args := encs x) hl (by rw [hR]; exact hps x)
    rw [hR] at hy
    refine ⟨fn, _, assign, body, hy, roundIn_of_wpIn hfn (hassign _ pre x W _ hi hok (by omega) ?_)⟩
    clear hy
    intro a' V hkf hkp hi2 hax
    have hl2 := hkf.same _ _ (by omega) hl rfl
    have hk2 := hkf.same _ _ (Nat.le_refl _) hk rfl
    have hlt : w.heap.size + 1 < V.heap.size := (Array.getElem?_eq_some_iff.1 hl2).1
    refine ⟨_, run_beginRound hl2 (by rw [hR]), ?_⟩
    have hl3 : (V.putObj (w.heap.size + 1) (.loop { R .ready none with state := .busy })).heap[w.heap.size + 1]? = some (.loop { R .ready none with state := .busy }) := World.putObj_heap_same hlt
    have hk3 : (V.putObj (w.heap.size + 1) (.loop { R .ready none with state := .busy })).heap[w.heap.size]? = some (.deferred (some [])) := (World.putObj_heap_other (by omega)).trans hk2
    have keep : ∀ {U : World} (o' : Obj), w.heap.size + 1 < U.heap.size → Below w.heap.size U (U.putObj (w.heap.size + 1) o') := fun o' hU => below_put o' (Below.refl _ _) (by omega) (by omega)
    refine wpIn_mono (hbody _ pre x a' _ (hI _ _ _ hi2 (keep _ hlt)) (hAx _ _ _ _ _ hax) (by simp; omega)) ?_
    have fin : ∀ (jump : Option Code) (U : World), KeepsFrom w.heap.size (V.putObj (w.heap.size + 1) (.loop { R .ready none with state := .busy })) U →
        (Instr.endRound (w.heap.size + 1) jump).run P U = .ok (.bool jump.isNone) (U.putObj (w.heap.size + 1) (.loop (R (if jump.isNone then .ready else .done) jump))) ∧
        w.heap.size + 1 < U.heap.size ∧
        (U.putObj (w.heap.size + 1) (.loop (R (if jump.isNone then .ready else .done) jump))).heap[w.heap.size + 1]? = some (.loop (R (if jump.isNone then .ready else .done) jump)) ∧
        (U.putObj (w.heap.size + 1) (.loop (R (if jump.isNone then .ready else .done) jump))).heap[w.heap.size]? = some (.deferred (some [])) := fun jump U hU => by
      have h3 := hU.same _ _ (by omega) hl3 rfl
      have hr := run_endRound (P := P) jump h3
      have h4 := (Array.getElem?_eq_some_iff.1 h3).1
      rw [hR] at hr ⊢
      exact ⟨hr, h4, World.putObj_heap_same h4, (World.putObj_heap_other (by omega)).trans (hU.same _ _ (Nat.le_refl _) hk3 rfl)⟩
    rintro e a3 U hp
    cases e with
    | normal =>
      obtain ⟨p1, p2, p3⟩ := hp
      obtain ⟨q1, q2, q3, q4⟩ := fin none U p1
      exact ⟨_, _, q1, .inl ⟨rfl, ⟨hI _ _ _ p3 (keep _ q2), q3, q4⟩, hKt hkp (hKt (hKt (hKb _ _) p2) (hKb _ _))⟩⟩
    | ret =>
      obtain ⟨p1, p2⟩ := hp
      obtain ⟨q1, q2, q3, q4⟩ := fin (some .ret) U p1
      exact ⟨_, _, q1, .inr ⟨rfl, .ret, hIx _ _ _ _ p2 (keep _ q2), q3, q4⟩⟩
    | exit id =>
      obtain ⟨p1, p2⟩ := hp
      obtain ⟨q1, q2, q3, q4⟩ := fin (some (.exit id)) U p1
      exact ⟨_, _, q1, .inr ⟨rfl, .exit id, hIx _ _ _ _ p2 (keep _ q2), q3, q4⟩⟩
    | goto t =>
      obtain ⟨p1, p2⟩ := hp
      obtain ⟨q1, q2, q3, q4⟩ := fin (some (.goto t)) U p1
      exact ⟨_, _, q1, .inr ⟨rfl, .goto t, hIx _ _ _ _ p2 (keep _ q2), q3, q4⟩⟩
    | panic ch => exact hp.elim
    | outgrown => exact hp.elim
  · rintro e V ⟨⟨v, rfl⟩, (⟨xs, hS, hi, hl, hk⟩ | ⟨pre, hSp, c, hi, hl, hk⟩)⟩
    · have hlt : w.heap.size + 1 < V.heap.size := (Array.getElem?_eq_some_iff.1 hl).1
      have hr := run_endLoop (P := P) hl (by rw [hR]; simp)
      rw [hR] at hr
      exact ⟨none, _, hr, hdone _ xs _ (Nat.le_refl _) hS (hI _ _ _ hi (below_put _ (Below.refl _ _) (by omega) (by omega))) ((World.putObj_heap_other (by omega)).trans hk)⟩
    · have hlt : w.heap.size + 1 < V.heap.size := (Array.getElem?_eq_some_iff.1 hl).1
      have hr := run_endLoop (P := P) hl (by rw [hR]; simp)
      rw [hR] at hr
      exact ⟨some c, _, hr, hstop _ c pre _ (Nat.le_refl _) hSp (hIx _ _ _ _ hi (below_put _ (Below.refl _ _) (by omega) (by omega))) ((World.putObj_heap_other (by omega)).trans hk)⟩

end Go.Proofs.YtbmmghkieolpkaaGreatDoor.Sg
