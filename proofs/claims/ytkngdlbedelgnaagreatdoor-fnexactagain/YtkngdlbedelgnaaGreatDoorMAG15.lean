/- What the model's XmlNote hands back, at any place; its contract. Plain: an element is read. Contract of the model's l19Take. Contracts of the model's Escape and SpaceName. Contract of the model's l19Space. Contract of the model's l19Attrs. Contracts of the model's ElSize and ElDeep. Contract of the model's l19Kids, out of one of l19El. Written by mk_rdkids.py. The model's l19Kids where all is refused already; six cells that are written anew. -/
import Derived.Test.YtkngdlbedelgnaaGreatDoorXmNote
import Derived.Test.YtkngdlbedelgnaaGreatDoorMAG04
import Derived.Test.YtkngdlbedelgnaaGreatDoorMAG02
import Derived.Test.YtkngdlbedelgnaaGreatDoorRdWork
import Derived.Test.YtkngdlbedelgnaaGreatDoorMAG09
import Derived.BigQuiet
import Derived.Deep.QuietTactic
import Derived.Test.YtkngdlbedelgnaaGreatDoorMAG01
import Derived.Test.YtkngdlbedelgnaaGreatDoorMAG13
import Derived.Lib.QuietBelow
import Derived.Deep.RegionHeld3
import Derived.Deep.Cut
import Derived.Deep.CutRange
import Derived.Deep.DeepCutAuto
import Derived.Deep.RegionWith
import Derived.Test.YtkngdlbedelgnaaGreatDoorRdRow
namespace Go.Proofs.YtkngdlbedelgnaaGreatDoor.Sg
open Go.ChangeShapes Go.WideShapes Go.ChangeAt Go.RowKit

def xoO (s : ByteArray) (i : Int) : Option Nat := if 0 ≤ i ∧ i < s.size then xnoteR s i.toNat else none
def xoS (s : ByteArray) (i : Int) : ByteArray := ((xoO s i).map fun m => s.extract (i.toNat + 4) m).getD ⟨#[]⟩
def xoI (s : ByteArray) (i : Int) : Int := ((xoO s i).map fun m => ((m + 3 : Nat) : Int)).getD (-1)

theorem specXmlNote (s : ByteArray) (i : Int) (w : World) (hs : s.size ≤ 1073741824) :
    Calls Tryz.prog 12 #[.string s, .int .i64 i] w fun e w' => e = .returned (.tuple #[.string (xoS s i), .int .i64 (xoI s i)]) ∧ Below w.heap.size w w' := by
  by_cases h : 0 ≤ i ∧ i < s.size
  · unfold xoS xoI xoO
    rw [if_pos h]
    have C := specXmlNote_in s i.toNat w (by omega) (by omega)
    rw [show ((i.toNat : Nat) : Int) = i by omega] at C
    refine C.mono fun e w' h => ⟨h.1.trans ?_, h.2⟩
    cases xnoteR s i.toNat <;> rfl
  · unfold xoS xoI xoO
    rw [if_neg h]
    exact (specXmlNote_out s i w (by omega)).mono fun e w' h => ⟨h.1, h.2 ▸ Below.refl _ _⟩

end Go.Proofs.YtkngdlbedelgnaaGreatDoor.Sg

namespace Go.Proofs.YtkngdlbedelgnaaGreatDoor.Sg
open Go.ChangeShapes Go.WideShapes Go.ChangeAt Go.RowKit

def ltS : ByteArray := ⟨#[60]⟩
def gtS : ByteArray := ⟨#[62]⟩
def slashGt : ByteArray := ⟨#[47, 62]⟩
def ltSlash : ByteArray := ⟨#[60, 47]⟩

theorem xoI_le {s : ByteArray} {i : Nat} (h : ¬ xoI s (i : Int) < 0) : ∃ j : Nat, xoI s (i : Int) = (j : Int) ∧ i + 7 ≤ j ∧ j ≤ s.size ∧ (xoS s (i : Int)).size + 7 ≤ j - i := by
  unfold xoI xoS at *
  unfold xoO at *
  by_cases h1 : 0 ≤ (i : Int) ∧ (i : Int) < s.size
  · rw [if_pos h1] at h ⊢
    have e : ((i : Int)).toNat = i := by omega
    rw [e] at h ⊢
    cases hx : xnoteR s i with
    | none =>
      rw [hx] at h
      exact absurd (by decide) h
    | some m =>
      unfold xnoteR at hx
      split at hx
      · rename_i h2
        split at hx
        · cases hx
        · rename_i q hq
          split at hx
          · rename_i h3
            injection hx with hx
            subst hx
            have h4 := searchE_le s twoB (s.size + 1 - (i + 4)) (i + 4) q (Nat.le_refl _) hq
            simp only [Bool.and_eq_true] at h3
            have h5 := stands_le h3.1
            have h6 : shutNoteB.size = 3 := rfl
            refine ⟨q + 3, rfl, by omega, by omega, ?_⟩
            show (s.extract (i + 4) q).size + 7 ≤ _
            rw [ByteArray.size_extract]
            omega
          · cases hx
      · cases hx
  · rw [if_neg h1] at h
    exact absurd (by decide) h
theorem xtI_lt {s : ByteArray} {i : Nat} (hi : i < s.size) (h60 : s.data[i]? ≠ some 60) (h : ¬ xtI s (i : Int) ltS < 0) : ∃ j : Nat, xtI s (i : Int) ltS = (j : Int) ∧ i < j ∧ j ≤ s.size ∧ (xtS s (i : Int) ltS).size ≤ 4 * (j - i) := by
  unfold xtI xtS at *
  unfold xtO at *
  have h1 : 0 ≤ (i : Int) ∧ (i : Int) ≤ s.size := by omega
  rw [if_pos h1] at h ⊢
  have e : ((i : Int)).toNat = i := by omega
  rw [e] at h ⊢
  have eL : ltS.data.toList = [60] := rfl
  rw [eL] at h ⊢
  cases hx : xtextR s [60] i with
  | none =>
    rw [hx] at h
    exact absurd (by decide) h
  | some r =>
    have h2 := xtextR_le s [60] (s.size - i) i r (Nat.le_refl _) (by omega) hx
    have ed : s.data[i]? = some (s[i]'hi) := by
      show s.data[i]? = some (s.data[i]'hi)
      exact Array.getElem?_eq_getElem hi
    have hc : ([60] : List UInt8).contains (s[i]'hi) = false := by
      cases hcc : ([60] : List UInt8).contains (s[i]'hi)
      · rfl
      · exfalso
        apply h60
        rw [ed]
        have : s[i]'hi = 60 := by simpa using hcc
        rw [this]
    have h3 : i < r.2 := by
      by_cases h38 : s[i]'hi = 38
      · cases hr : xrefR s i with
        | none =>
          rw [xtextR_none hi hc h38 hr] at hx
          cases hx
        | some q =>
          obtain ⟨t, j⟩ := q
          rw [xtextR_ref hi hc h38 hr] at hx
          have hj := xrefR_le hr
          obtain ⟨r', hr', rfl⟩ := Option.map_eq_some_iff.1 hx
          have := xtextR_le s [60] (s.size - j) j r' (Nat.le_refl _) hj.2.1 hr'
          show i < r'.2
          omega
      · cases hs : xsignB s i
        · rw [xtextR_bad hi hc h38 hs] at hx
          cases hx
        · rw [xtextR_sign hi hc h38 hs] at hx
          have hm := getS_many s i hi
          obtain ⟨r', hr', rfl⟩ := Option.map_eq_some_iff.1 hx
          have := xtextR_le s [60] (s.size - (i + (getS s i).2)) (i + (getS s i).2) r' (Nat.le_refl _) hm.2 hr'
          show i < r'.2
          omega
    refine ⟨r.2, rfl, h3, h2.2.1, ?_⟩
    show (strB r.1).size ≤ _
    rw [strB_size]
    exact h2.2.2

/-- Kids from place i on, up to a closing tag, and where it is; el reads one; none: refused. -/
def kidsL (s : ByteArray) (el : Nat → Option (ElB × Nat)) : Nat → Nat → Option (List ElB × Nat)
  | 0, _ => none
  | f + 1, i =>
    if standsB s i ltSlash = true then some ([], i)
    else if ¬ i < s.size then none
    else if standsB s i openNoteB = true then
      if xoI s (i : Int) < 0 then none else (kidsL s el f (xoI s (i : Int)).toNat).map fun r => (.mk 3 0 ⟨#[]⟩ [] (xoS s (i : Int)) [] :: r.1, r.2)
    else if s.data[i]? = some 60 then
      match el i with
      | none => none
      | some x => (kidsL s el f x.2).map fun r => (x.1 :: r.1, r.2)
    else if xtI s (i : Int) ltS < 0 then none else (kidsL s el f (xtI s (i : Int) ltS).toNat).map fun r => (.mk 2 0 ⟨#[]⟩ [] (xtS s (i : Int) ltS) [] :: r.1, r.2)

/-- An element from place i on, so deep at most, and where it ends; none: refused. -/
def elM (s : ByteArray) : Nat → Nat → Nat → Int → Option (ElB × Nat)
  | 0, _, _, _ => none
  | m + 1, deep, i, about =>
    if standsB s i ltS = false ∨ deep = 0 then none
    else if (xnS s ((i + 1 : Nat) : Int)).size = 0 then none
    else match attrsR s about (s.size + 1) (xnI s ((i + 1 : Nat) : Int)).toNat [] about false with
      | none => none
      | some r =>
        if standsB s r.2.2 slashGt = true then some (.mk 1 r.2.1 (xnS s ((i + 1 : Nat) : Int)) r.1 ⟨#[]⟩ [], r.2.2 + 2)
        else if standsB s r.2.2 gtS = false then none
        else match kidsL s (fun q => elM s m (deep - 1) q r.2.1) (s.size + 1) (r.2.2 + 1) with
          | none => none
          | some k => if standsB s k.2 (ltSlash ++ xnS s ((i + 1 : Nat) : Int) ++ gtS) = true then some (.mk 1 r.2.1 (xnS s ((i + 1 : Nat) : Int)) r.1 ⟨#[]⟩ k.1, k.2 + (ltSlash ++ xnS s ((i + 1 : Nat) : Int) ++ gtS).size) else none

end Go.Proofs.YtkngdlbedelgnaaGreatDoor.Sg

namespace Go.Proofs.YtkngdlbedelgnaaGreatDoor.Sg
open Go.ChangeShapes Go.WideShapes Go.ChangeAt Go.RowKit

set_option maxRecDepth 20000 in
set_option maxHeartbeats 4000000 in
theorem take_off (s t : ByteArray) (i : Int) (p : Nat) (w : World) (h : RdAt w p s i false) :
    Calls Tryz.prog 10 #[.pointer (some ⟨p, 0, none⟩), .string t] w fun r w' => r = .returned (.tuple #[]) ∧ RdAt w' p s i false ∧ Fr p w w' := by
  have c2 := h.c2
  have z2 := h.fz 2
  have H : Hid (RdAt w p s i false) := h
  clear h
  go_enter Tryz.func10, Tryz.ntmps10
  go_wp2_with fail
  go_quiet (fail)
  have bn := drew_kd (Below.refl w.heap.size w) nq
  have HR : Hid (RdAt (w.drewN nq) p s i false) := H.out.keep bn
  have HF : Hid (Fr p w (w.drewN nq)) := Fr.of_below bn
  clear bn
  go_wp2_with fail
  refine bodyPost_ret (results_none rfl _ _ _) rfl ?_
  exact ⟨rfl, HR.out.set2 false, HF.out.trans (Fr.set _ _ _)⟩

set_option maxRecDepth 20000 in
set_option maxHeartbeats 4000000 in
theorem take_no (s t : ByteArray) (i : Nat) (p : Nat) (w : World) (h : RdAt w p s i true) (hs : s.size ≤ 17592186044416) (hi : i ≤ 17592186044416) (ht : t.size ≤ 17592186044416) (hst : standsB s i t = false) :
    Calls Tryz.prog 10 #[.pointer (some ⟨p, 0, none⟩), .string t] w fun r w' => r = .returned (.tuple #[]) ∧ RdAt w' p s i false ∧ Fr p w w' := by
  have c0 := h.c0
  have c1 := h.c1
  have c2 := h.c2
  have z2 := h.fz 2
  have H : Hid (RdAt w p s i true) := h
  have HS := fun W => specStands s i t W hs hi ht
  rw [hst] at HS
  clear h
  go_enter Tryz.func10, Tryz.ntmps10
  go_wp2_with fail
  go_quiet ((go_at_call 11; exact Calls.quiet_of_same (HS _)))
  have bn := drew_kd (Below.refl w.heap.size w) nq
  have HR : Hid (RdAt (w.drewN nq) p s i true) := H.out.keep bn
  have HF : Hid (Fr p w (w.drewN nq)) := Fr.of_below bn
  clear bn
  go_wp2_with fail
  refine bodyPost_ret (results_none rfl _ _ _) rfl ?_
  exact ⟨rfl, HR.out.set2 false, HF.out.trans (Fr.set _ _ _)⟩

set_option maxRecDepth 20000 in
set_option maxHeartbeats 4000000 in
theorem take_yes (s t : ByteArray) (i : Nat) (p : Nat) (w : World) (h : RdAt w p s i true) (hs : s.size ≤ 17592186044416) (hi : i ≤ 17592186044416) (ht : t.size ≤ 17592186044416) (hst : standsB s i t = true) :
    Calls Tryz.prog 10 #[.pointer (some ⟨p, 0, none⟩), .string t] w fun r w' => r = .returned (.tuple #[]) ∧ RdAt w' p s ((i + t.size : Nat) : Int) true ∧ Fr p w w' := by
  have c0 := h.c0
  have c1 := h.c1
  have c2 := h.c2
  have z1 := h.fz 1
  have H : Hid (RdAt w p s i true) := h
  have HS := fun W => specStands s i t W hs hi ht
  rw [hst] at HS
  have q1 : IntKind.i64.wrap ((i : Int) + (t.size : Int)) = (i : Int) + (t.size : Int) := IntWalk.i64_in _ (by omega)
  have q2 : Hid (((i + t.size : Nat) : Int) = (i : Int) + (t.size : Int)) := by show _ = _; omega
  clear h
  go_enter Tryz.func10, Tryz.ntmps10
  go_wp2_with fail
  go_quiet ((go_at_call 11; exact Calls.quiet_of_same (HS _)))
  have bn := drew_kd (Below.refl w.heap.size w) nq
  have HR : Hid (RdAt (w.drewN nq) p s i true) := H.out.keep bn
  have HF : Hid (Fr p w (w.drewN nq)) := Fr.of_below bn
  clear bn
  go_wp2_with fail
  go_end0
  rw [q2.out]
  exact ⟨rfl, HR.out.set1 _, HF.out.trans (Fr.set _ _ _)⟩

end Go.Proofs.YtkngdlbedelgnaaGreatDoor.Sg

namespace Go.Proofs.YtkngdlbedelgnaaGreatDoor.Sg
open Go.ChangeShapes Go.WideShapes Go.ChangeAt Go.RowKit

set_option maxHeartbeats 2000000 in
theorem specEscape (s : ByteArray) (v : Bool) (w : World) (hs : s.size ≤ 1099511627776) :
    Calls Tryz.prog 33 #[.string s, .bool v] w fun e w' => e = .returned (.string (escS s v)) ∧ Below w.heap.size w w' := by
  cases v
  · have HT := Texts.laid w (escT false) #[.string ⟨#[38, 97, 109, 112, 59]⟩, .string ⟨#[38, 108, 116, 59]⟩, .string ⟨#[38, 103, 116, 59]⟩, .string ⟨#[38, 35, 49, 51, 59]⟩] 9 rfl
    have C := specSwap s ⟨#[38, 60, 62, 13]⟩ (escT false) w.heap.size 4 4 _ hs (by decide) HT rfl rfl (by decide)
    go_enter Tryz.func33, Tryz.ntmps33
    go_wp2_with fail
    refine C.mono ?_
    rintro e w1 ⟨rfl, b1⟩
    go_wp2_with fail
    go_ret
    exact ⟨rfl, ((Below.refl _ _).alloc (Nat.le_refl _) _).trans (b1.mono (by simp))⟩
  · have HT := Texts.laid w (escT true) #[.string ⟨#[38, 97, 109, 112, 59]⟩, .string ⟨#[38, 108, 116, 59]⟩, .string ⟨#[38, 103, 116, 59]⟩, .string ⟨#[38, 35, 49, 51, 59]⟩, .string ⟨#[38, 113, 117, 111, 116, 59]⟩, .string ⟨#[38, 35, 57, 59]⟩, .string ⟨#[38, 35, 49, 48, 59]⟩] 9 rfl
    have C := specSwap s ⟨#[38, 60, 62, 13, 34, 9, 10]⟩ (escT true) w.heap.size 7 7 _ hs (by decide) HT rfl rfl (by decide)
    go_enter Tryz.func33, Tryz.ntmps33
    go_wp2_with fail
    refine C.mono ?_
    rintro e w1 ⟨rfl, b1⟩
    go_wp2_with fail
    go_ret
    exact ⟨rfl, ((Below.refl _ _).alloc (Nat.le_refl _) _).trans (b1.mono (by simp))⟩

set_option maxHeartbeats 1000000 in
theorem specSpaceName (n : Int) (w : World) :
    Calls Tryz.prog 34 #[.int .i64 n] w fun e w' => e = .returned (.string (spaceS n)) ∧ w' = w := by
  by_cases h0 : n = 0
  · subst h0
    go_enter Tryz.func34, Tryz.ntmps34
    go_wp2_with fail
    go_ret
    exact ⟨rfl, rfl⟩
  by_cases h1 : n = 1
  · subst h1
    go_enter Tryz.func34, Tryz.ntmps34
    go_wp2_with fail
    go_ret
    exact ⟨rfl, rfl⟩
  by_cases h2 : n = 2
  · subst h2
    go_enter Tryz.func34, Tryz.ntmps34
    go_wp2_with fail
    go_ret
    exact ⟨rfl, rfl⟩
  have g0 : (n == 0) = false := by rw [beq_eq_false_iff_ne]; exact h0
  have g1 : (n == 1) = false := by rw [beq_eq_false_iff_ne]; exact h1
  have g2 : (n == 2) = false := by rw [beq_eq_false_iff_ne]; exact h2
  have Hx : Hid (spaceS n = ⟨#[]⟩) := by
    show _ = _
    unfold spaceS
    rw [if_neg h0, if_neg h1, if_neg h2]
  clear h0 h1 h2
  go_enter Tryz.func34, Tryz.ntmps34
  go_wp2_with fail
  go_ret
  rw [Hx.out]
  exact ⟨rfl, rfl⟩

end Go.Proofs.YtkngdlbedelgnaaGreatDoor.Sg

namespace Go.Proofs.YtkngdlbedelgnaaGreatDoor.Sg
open Go.ChangeShapes Go.WideShapes Go.ChangeAt Go.RowKit

theorem ret_in {a b : Int} (h : a = b) : Ending.returned (.int .i64 a) = .returned (.int .i64 b) := by rw [h]

set_option maxRecDepth 20000 in
set_option maxHeartbeats 2000000 in
theorem specSpaceOf (v : ByteArray) (w : World) : Calls Tryz.prog 56 #[.string v] w fun r w' => r = .returned (.int .i64 (spaceI v)) ∧ w' = w := by
  obtain ⟨R, HR⟩ : ∃ R, Hid (spaceI v = R) := ⟨_, rfl⟩
  rw [HR.out]
  have HR0 : Hid (spaceG v 3 0 = R) := HR.out
  clear HR
  go_enter Tryz.func56, Tryz.ntmps56
  go_wp2_with fail
  go_loopw [3] (fun nv wr => ∃ k f : Nat, f + k = 3 ∧ nv = .int .i64 (k : Int) ∧ Hid (spaceG v f k = R) ∧ wr = w) (fun nv _ => 3 - (intOf nv).toNat)
  case atStart => exact ⟨0, 3, rfl, rfl, HR0, rfl⟩
  case round =>
    clear HR0
    obtain ⟨k, f, hk, rfl, HRk, rfl⟩ := hrel
    by_cases hle : k ≤ 2
    · obtain ⟨f', rfl⟩ : ∃ f', f = f' + 1 := ⟨f - 1, by omega⟩
      have g1 : (k : Int) ≤ 2 := by omega
      have hR := HRk.out
      rw [spaceG] at hR
      have HS := specSpaceName (k : Int) wr
      generalize spaceS (k : Int) = y at *
      cases he : (y.toList == v.toList)
      · rw [he, if_neg (by decide)] at hR
        have HR2 : Hid (spaceG v f' (k + 1) = R) := hR
        clear hR HRk
        go_wp2_with fail
        refine HS.mono ?_
        rintro r wr ⟨rfl, rfl⟩
        go_wp2_with fail
        go_roundw
        case rel => exact ⟨k + 1, f', by omega, by go_num, HR2, by first | trivial | rfl⟩
        case measure => simp [intOf]; omega
      · rw [he, if_pos rfl] at hR
        have HRe : Hid ((k : Int) = R) := hR
        clear HRk hR
        go_wp2_with fail
        refine HS.mono ?_
        rintro r wr ⟨rfl, rfl⟩
        clear HS
        go_wp2_with fail
        go_ret
        exact ⟨ret_in HRe.out, rfl⟩
    · have hf : f = 0 := by omega
      subst hf
      have g1 : ¬ (k : Int) ≤ 2 := by omega
      have g1' : decide ((k : Int) ≤ 2) = false := decide_eq_false g1
      have HRe : Hid ((-1 : Int) = R) := HRk.out
      clear HRk
      go_wp2_with fail
      go_ret
      exact ⟨ret_in HRe.out, rfl⟩

end Go.Proofs.YtkngdlbedelgnaaGreatDoor.Sg

namespace Go.Proofs.YtkngdlbedelgnaaGreatDoor.Sg
open Go.ChangeShapes Go.WideShapes Go.ChangeAt Go.RowKit

def okOf : Option Value → Bool
  | some (.bool b) => b
  | _ => false
/-- How far a reader can still go. -/
def rdLeft (s : ByteArray) (p : Nat) (w : World) : Nat := if okOf (w.cell? ⟨p, 2, none⟩) then s.size + 2 - (intOf ((w.cell? ⟨p, 1, none⟩).getD undef)).toNat else 0
theorem rdLeft_on {w : World} {p : Nat} {s : ByteArray} {k : Nat} (h : RdAt w p s (k : Int) true) : rdLeft s p w = s.size + 2 - k := by
  unfold rdLeft
  rw [h.c2, h.c1]
  show (if true = true then s.size + 2 - k else 0) = _
  rw [if_pos rfl]
theorem rdLeft_off {w : World} {p : Nat} {s : ByteArray} {k : Int} (h : RdAt w p s k false) : rdLeft s p w = 0 := by
  unfold rdLeft
  rw [h.c2]
  rfl

theorem info_pairR : (Tryz.prog.info? 68).map (fun i => (i.zero, i.size, i.bytes)) = some (some (.agg #[.string ⟨#[]⟩, .string ⟨#[]⟩]), 2, 32) := by kernel_rfl
theorem empty_attrs (w : World) (B : Nat) (h : B ≤ w.heap.size) (t : TypeId) : (w.alloc (.cells #[] t)).ownsRow B t 2 (.slice (some ⟨w.heap.size, 0, none⟩) 0 0) 0 (attrCells []) :=
  ⟨rfl, .inr ⟨w.heap.size, 0, #[], rfl, h, by show (w.heap.push _)[w.heap.size]? = _; simp, Nat.le_refl _, Nat.zero_le _, rfl, rfl⟩⟩

theorem cell_al {w : World} {b o : Nat} {v : Value} {x : Obj} (h : w.cell? ⟨b, o, none⟩ = some v) : (w.alloc x).cell? ⟨b, o, none⟩ = some v := keep_cell ((Below.refl w.heap.size w).alloc (Nat.le_refl _) _) h

theorem cell_set2 {w : World} {g p o : Nat} {x y v : Value} (hg : g ≠ p) (h : w.cell? ⟨p, o, none⟩ = some v) : ((w.setCell ⟨g, 0, none⟩ x).setCell ⟨g, 1, none⟩ y).cell? ⟨p, o, none⟩ = some v :=
  (World.cell?_setCell_other _ _ _ _ (fun e => hg (congrArg Addr.block e))).trans ((World.cell?_setCell_other _ _ _ _ (fun e => hg (congrArg Addr.block e))).trans h)
theorem below_set {B c i : Nat} {a b : World} {v : Value} (h : Below B a b) (hc : B ≤ c) : Below B a (b.setCell ⟨c, i, none⟩ v) :=
  ⟨h.os, h.tape, h.output, by simpa [World.setCell] using h.size, fun k hk => (Below.heap_setCell _ _ _ _ (by show k ≠ c; omega)).trans (h.block k hk)⟩
theorem pair_set {w : World} {g : Nat} {a b x y : Value} (h0 : w.cell? ⟨g, 0, none⟩ = some a) (h1 : w.cell? ⟨g, 1, none⟩ = some b) : ((w.setCell ⟨g, 0, none⟩ x).setCell ⟨g, 1, none⟩ y).cell? ⟨g, 0, none⟩ = some x ∧ ((w.setCell ⟨g, 0, none⟩ x).setCell ⟨g, 1, none⟩ y).cell? ⟨g, 1, none⟩ = some y := by
  have e1 : (w.setCell ⟨g, 0, none⟩ x).cell? ⟨g, 1, none⟩ = some b := (World.cell?_setCell_other _ _ _ _ (by intro e; cases e)).trans h1
  exact ⟨(World.cell?_setCell_other _ _ _ _ (by intro e; cases e)).trans (World.cell?_setCell_same _ _ _ h0), World.cell?_setCell_same _ _ _ e1⟩
theorem pair_new {w1 w' : World} {x y : Value} {t : TypeId} (hb : Below w1.drew.heap.size w1.drew w') : ∃ g : Nat, Value.pointer (some ⟨w'.heap.size, 0, none⟩) = .pointer (some ⟨g, 0, none⟩) ∧ (w'.alloc (.cells #[x, y] t)).cell? ⟨g, 0, none⟩ = some x ∧ (w'.alloc (.cells #[x, y] t)).cell? ⟨g, 1, none⟩ = some y ∧ w1.heap.size ≤ g ∧ Below w1.heap.size w1 (w'.alloc (.cells #[x, y] t)) := by
  have h1 : Below w1.heap.size w1 w' := ((Below.refl _ _).drew).trans hb
  exact ⟨w'.heap.size, rfl, by simp, by simp, h1.size, h1.alloc h1.size _⟩
theorem pair_old {w1 w' : World} {a b x y : Value} {t : TypeId} (hb : Below (w1.alloc (.cells #[a, b] t)).drew.heap.size (w1.alloc (.cells #[a, b] t)).drew w') (h0 : w'.cell? ⟨w1.heap.size, 0, none⟩ = some a) (h1 : w'.cell? ⟨w1.heap.size, 1, none⟩ = some b) : ∃ g : Nat, Value.pointer (some ⟨w1.heap.size, 0, none⟩) = .pointer (some ⟨g, 0, none⟩) ∧ ((w'.setCell ⟨w1.heap.size, 0, none⟩ x).setCell ⟨w1.heap.size, 1, none⟩ y).cell? ⟨g, 0, none⟩ = some x ∧ ((w'.setCell ⟨w1.heap.size, 0, none⟩ x).setCell ⟨w1.heap.size, 1, none⟩ y).cell? ⟨g, 1, none⟩ = some y ∧ w1.heap.size ≤ g ∧ Below w1.heap.size w1 ((w'.setCell ⟨w1.heap.size, 0, none⟩ x).setCell ⟨w1.heap.size, 1, none⟩ y) := by
  have h2 : Below w1.heap.size w1 w' := (((Below.refl w1.heap.size w1).alloc (Nat.le_refl _) _).drew).trans (hb.mono (by show w1.heap.size ≤ (w1.heap.push _).size; simp))
  obtain ⟨e0, e1⟩ := pair_set (x := x) (y := y) h0 h1
  exact ⟨w1.heap.size, rfl, e0, e1, Nat.le_refl _, below_set (below_set h2 (Nat.le_refl _)) (Nat.le_refl _)⟩
theorem inP_rd {x lo hi : Int} : inP x (lo, hi) = true ↔ lo ≤ x ∧ x ≤ hi := by
  unfold inP
  simp
theorem own_base {w : World} {B : Nat} {e : TypeId} {z : Nat} {v : Value} {n : Nat} {xs : List Value} (h : w.ownsRow B e z v n xs) {r : Nat} (hr : v.ownBlock = some r) : B ≤ r := by
  rcases h.2 with ⟨rfl, _⟩ | ⟨g, cap, cur, rfl, h3, _⟩
  · cases hr
  · injection hr with hr
    rw [← hr]
    exact h3
theorem Fr.grown {p : Nat} {w a b : World} {e : TypeId} {z : Nat} {v : Value} {n : Nat} {xs : List Value} (h : Fr p w a) (ho : a.ownsRow w.heap.size e z v n xs) (hg : a.grownBy b v.ownBlock) : Fr p w b :=
  ⟨hg.os.trans h.os, hg.tape.trans h.tape, hg.output.trans h.output, Nat.le_trans h.size hg.size, fun k hk hp => (hg.block k (Nat.lt_of_lt_of_le hk h.size) (fun e => absurd (own_base ho e.symm) (Nat.not_le_of_lt hk))).trans (h.block k hk hp)⟩
theorem RdAt.grown {p B : Nat} {a b : World} {s : ByteArray} {k : Int} {ok : Bool} {e : TypeId} {z : Nat} {v : Value} {n : Nat} {xs : List Value} (h : RdAt a p s k ok) (ho : a.ownsRow B e z v n xs) (hg : a.grownBy b v.ownBlock) (hp : p < B) : RdAt b p s k ok :=
  (hg.block p h.lt (fun e => absurd (own_base ho e.symm) (Nat.not_le_of_lt hp))).trans h
theorem pair_kept {X w' : World} {a b : Value} {t : TypeId} (hb : Below (X.alloc (.cells #[a, b] t)).heap.size (X.alloc (.cells #[a, b] t)) w') : w'.cell? ⟨X.heap.size, 0, none⟩ = some a ∧ w'.cell? ⟨X.heap.size, 1, none⟩ = some b ∧ w'.frozen? ⟨X.heap.size, 0, none⟩ = false ∧ w'.frozen? ⟨X.heap.size, 1, none⟩ = false := by
  have hl : X.heap.size < (X.alloc (.cells #[a, b] t)).heap.size := by simp
  refine ⟨keep_cell hb (by simp), keep_cell hb (by simp), ?_, ?_⟩
  · rw [hb.frozen hl]; simp
  · rw [hb.frozen hl]; simp
theorem pair_kept_drew {X w' : World} {a b : Value} {t : TypeId} (hb : Below (X.alloc (.cells #[a, b] t)).drew.heap.size (X.alloc (.cells #[a, b] t)).drew w') : w'.cell? ⟨X.heap.size, 0, none⟩ = some a ∧ w'.cell? ⟨X.heap.size, 1, none⟩ = some b ∧ w'.frozen? ⟨X.heap.size, 0, none⟩ = false ∧ w'.frozen? ⟨X.heap.size, 1, none⟩ = false :=
  pair_kept (((Below.refl _ _).drew).trans hb)

theorem two_cells (w : World) (x y : Value) (t : TypeId) (b : Nat) (hb : b = w.heap.size) : ∀ j u, ([x, y])[j]? = some u → (w.alloc (.cells #[x, y] t)).cell? ((⟨b, 0, none⟩ : Addr).add j) = some u := by
  subst hb
  intro j u hj
  match j, hj with
  | 0, hj => simp at hj; subst hj; simp [Addr.add]
  | 1, hj => simp at hj; subst hj; simp [Addr.add]
theorem two_one (x y : ByteArray) : ∀ u ∈ [Value.string x, .string y], u.oneCell' = true := by
  intro u hu
  rcases List.mem_cons.1 hu with rfl | hu
  · rfl
  · rcases List.mem_cons.1 hu with rfl | hu
    · rfl
    · cases hu

/-- What a reader of attributes leaves. -/
def AttrsLeft (p lo : Nat) (s : ByteArray) (R : Option (List AttrB × Int × Nat)) (w' : World) (v : Value) (sp : Int) : Prop :=
  ∃ l : List AttrB, w'.ownsRow lo 68 2 v l.length (attrCells l) ∧ l.length ≤ s.size ∧ v ≠ .slice none 0 0 ∧ ((∃ j : Nat, R = some (l, sp, j) ∧ j ≤ s.size ∧ RdAt w' p s (j : Int) true) ∨ (R = none ∧ ∃ k, RdAt w' p s k false))

set_option maxRecDepth 20000 in
set_option maxHeartbeats 8000000 in
theorem specRdAttrs (s : ByteArray) (p : Nat) (about : Int) (i : Nat) (w : World) (h : RdAt w p s (i : Int) true) (hs : s.size ≤ 1073741824) (hi : i ≤ s.size) :
    Calls Tryz.prog 28 #[.pointer (some ⟨p, 0, none⟩), .int .i64 about] w fun r w' => ∃ v sp, r = .returned (.tuple #[v, .int .i64 sp]) ∧ AttrsLeft p w.heap.size s (attrsR s about (s.size + 1) i [] about false) w' v sp ∧ Fr p w w' := by
  obtain ⟨i0, hi0, hz0, hz1, hz2⟩ := info_parts info_pairR
  have Hi : Hid (Tryz.prog.info? 68 = some i0) := hi0
  have Hz0 : Hid (i0.zero = some (.agg #[.string ⟨#[]⟩, .string ⟨#[]⟩])) := hz0
  have Hz1 : Hid (i0.size = 2) := hz1
  have Hz2 : Hid (i0.bytes = 32) := hz2
  have hp := h.lt
  obtain ⟨R, HR⟩ : ∃ R, Hid (attrsR s about (s.size + 1) i [] about false = R) := ⟨_, rfl⟩
  rw [HR.out]
  have ow0 := empty_attrs w w.heap.size (Nat.le_refl _) 68
  have bA := (Below.refl w.heap.size w).alloc (Nat.le_refl _) (.cells #[] 68)
  have HR0 : Hid (RdAt (w.alloc (.cells #[] 68)) p s (i : Int) true) := h.keep bA
  have HF0 : Hid (Fr p w (w.alloc (.cells #[] 68))) := Fr.of_below bA
  have hi' : Hid (i ≤ s.size) := hi
  clear hi0 hz0 hz1 hz2 h bA hi
  go_enter Tryz.func28, Tryz.ntmps28
  go_wp2_with fail
  go_loopw [6, 7, 8] (fun ov sv tv wr => ∃ (l : List AttrB) (sp : Int) (told : Bool), sv = .int .i64 sp ∧ tv = .bool told ∧ ov ≠ .slice none 0 0 ∧ l.length ≤ s.size ∧ Hid (wr.ownsRow w.heap.size 68 2 ov l.length (attrCells l)) ∧ Hid (Fr p w wr) ∧ ((∃ f k : Nat, k ≤ s.size ∧ s.size + 1 ≤ f + k ∧ l.length ≤ k ∧ Hid (attrsR s about f k l sp told = R) ∧ Hid (RdAt wr p s (k : Int) true)) ∨ (Hid (R = none) ∧ ∃ k, Hid (RdAt wr p s k false)))) (fun _ _ _ wr => rdLeft s p wr)
  case atStart => exact ⟨[], about, false, rfl, rfl, by first | trivial | (intro h; cases h), Nat.zero_le _, ow0, HF0, .inl ⟨s.size + 1, i, hi'.out, by omega, Nat.zero_le _, HR, HR0⟩⟩
  case round =>
    clear ow0 HR0 HF0 HR hi'
    obtain ⟨l, sp, told, rfl, rfl, hov, hll, HO, HF, hmode⟩ := hrel
    rcases hmode with ⟨f, k, hk, hf, hlk, HRk, HD⟩ | ⟨HN, k, HD⟩
    · have c0 := HD.out.c0
      have c1 := HD.out.c1
      have c2 := HD.out.c2
      have z1 := HD.out.fz 1
      have z2 := HD.out.fz 2
      have HM : Hid (rdLeft s p wr = s.size + 2 - k) := rdLeft_on HD.out
      obtain ⟨f', rfl⟩ : ∃ f', f = f' + 1 := ⟨f - 1, by omega⟩
      have hRk := HRk.out
      rw [attrsR] at hRk
      by_cases hlt : k < s.size
      · have g1 : (k : Int) < (s.size : Int) := by omega
        have g0 : (0 : Int) ≤ (k : Int) := by omega
        have ed : s.data[k]? = some (s[k]'hlt) := by
          show s.data[k]? = some (s.data[k]'hlt)
          exact Array.getElem?_eq_getElem hlt
        rw [ed] at hRk
        by_cases hsp : (s[k]'hlt) = 32
        · rw [hsp, if_pos rfl] at hRk
          have g32 : (((s[k]'hlt).toNat : Int) == 32) = true := by rw [hsp]; rfl
          have HX : Hid (∀ W, Calls Tryz.prog 54 #[.string s, .int .i64 ((k : Int) + 1)] W fun r w' => r = .returned (.tuple #[.agg #[.string (xaN s ((k : Int) + 1)), .string (xaV s ((k : Int) + 1))], .int .i64 (xaI s ((k : Int) + 1))]) ∧ Below W.heap.size W w') := fun W => specXmlAttr s _ W hs
          have hxa : ¬ xaI s ((k : Int) + 1) < 0 → _ := xaI_le (s := s) (i := k)
          generalize xaI s ((k : Int) + 1) = xi at *
          generalize xaN s ((k : Int) + 1) = xn at *
          generalize xaV s ((k : Int) + 1) = xv at *
          have q1 : IntKind.i64.wrap ((k : Int) + 1) = (k : Int) + 1 := IntWalk.i64_in _ (by omega)
          go_upto_region 4 with fail
          go_quiet (fail)
          have bn := drew_kd (Below.refl wr.heap.size wr) nq
          have HO1 : Hid ((wr.drewN nq).ownsRow w.heap.size 68 2 _ l.length (attrCells l)) := owns_below HO.out (Nat.le_refl _) bn
          have HF1 : Hid (Fr p w (wr.drewN nq)) := HF.out.trans (Fr.of_below bn)
          have HD1 : Hid (RdAt (wr.drewN nq) p s (k : Int) true) := HD.out.keep bn
          clear bn c0 c1 c2 z1 z2 HRk
          generalize wr.drewN nq = w1 at *
          have c0 := HD1.out.c0
          have c1 := HD1.out.c1
          have hpl : p < w1.heap.size := HD1.out.lt
          have hgp : w1.heap.size ≠ p := Nat.ne_of_gt hpl
          go_upto_region 5 with fail
          go_cut [9, 10] (fun r q wx => ∃ g : Nat, r = .pointer (some ⟨g, 0, none⟩) ∧ q = .int .i64 xi ∧ wx.cell? ⟨g, 0, none⟩ = some (.string xn) ∧ wx.cell? ⟨g, 1, none⟩ = some (.string xv) ∧ w1.heap.size ≤ g ∧ ∃ W : World, W = wx ∧ Below w1.heap.size w1 W)
          case first =>
            go_region_held3 (fun w' => w'.cell? ⟨p, 0, none⟩ = some (.string s) ∧ w'.cell? ⟨p, 1, none⟩ = some (.int .i64 (k : Int))) (first | exact ⟨c0, c1⟩ | exact ⟨cell_set2 hgp (keep_cell hb' (keep_cell (((Below.refl _ _).alloc (Nat.le_refl _) _).drew) c0)), cell_set2 hgp (keep_cell hb' (keep_cell (((Below.refl _ _).alloc (Nat.le_refl _) _).drew) c1))⟩ | exact ⟨keep_cell hb' (keep_cell (((Below.refl _ _).alloc (Nat.le_refl _) _).drew) c0), keep_cell hb' (keep_cell (((Below.refl _ _).alloc (Nat.le_refl _) _).drew) c1)⟩ | (go_split_ands; exact ⟨cell_al (by assumption), cell_al (by assumption)⟩) | (exact ⟨cell_al (keep_cell hb' (by first | exact c0 | exact keep_cell (Below.refl _ _).drew c0)), cell_al (keep_cell hb' (by first | exact c1 | exact keep_cell (Below.refl _ _).drew c1))⟩) | (exact ⟨keep_cell hb' (by first | exact c0 | exact keep_cell (Below.refl _ _).drew c0), keep_cell hb' (by first | exact c1 | exact keep_cell (Below.refl _ _).drew c1)⟩) | (go_split_ands; exact ⟨keep_cell hb' (by assumption), keep_cell hb' (by assumption)⟩) | go_keep) (first | (go_at_call 54; refine (HX.out _).mono ?_; rintro r w' ⟨rfl, hb'⟩; first | (have hbz : Below (w1.alloc (.cells #[.string ⟨#[]⟩, .string ⟨#[]⟩] 68)).drew.heap.size (w1.alloc (.cells #[.string ⟨#[]⟩, .string ⟨#[]⟩] 68)).drew w' := (by with_reducible exact hb'); obtain ⟨y0, y1, y2, y3⟩ := pair_kept_drew hbz) | skip))
            · have hP := pair_new (x := .string xn) (y := .string xv) (t := 68) hb'
              have HP : Hid _ := hP
              clear hP
              go_wp2_with fail
              go_meet
              case rel =>
                obtain ⟨g, e1, e2, e3, e4, e5⟩ := HP.out
                exact ⟨g, e1, rfl, e2, e3, e4, _, rfl, e5⟩
            · have hP := pair_old (x := .string xn) (y := .string xv) hbz y0 y1
              have HP : Hid _ := hP
              clear hP
              go_wp2_with fail
              go_meet
              case rel =>
                obtain ⟨g, e1, e2, e3, e4, e5⟩ := HP.out
                exact ⟨g, e1, rfl, e2, e3, e4, _, rfl, e5⟩
          case rest =>
            obtain ⟨g, rfl, rfl, d0, d1, hg, w2, rfl, b2⟩ := hcut
            have HO2 := owns_below HO1.out (Nat.le_refl _) b2
            have HF2 : Hid (Fr p w w2) := HF1.out.trans (Fr.of_below b2)
            have HD2 : Hid (RdAt w2 p s (k : Int) true) := HD1.out.keep b2
            clear HO1 HF1 HD1 HX b2 c0 c1 HD HF HO
            obtain ⟨oa, oc, eov, HAt⟩ := attrs_of_own HO2
            subst eov
            have Hhas : Hid (Calls Tryz.prog 55 #[.slice oa l.length oc, .string xn] w2 fun e w' => e = .returned (.bool (hasA l xn)) ∧ w' = w2) := specHas l xn oa l.length oc _ HAt rfl (by omega)
            clear HAt
            by_cases hx0 : xi < 0
            · rw [if_pos hx0] at hRk
              have HN : Hid (R = none) := hRk.symm
              clear hRk Hhas hxa d1
              have c2 := HD2.out.c2
              have z2 := HD2.out.fz 2
              go_wp2_with fail
              go_ret2
              exact ⟨_, _, rfl, ⟨l, (Fr.set w2 2 (.bool false)).owns hp HO2, hll, hov, .inr ⟨HN.out, _, HD2.out.set2 false⟩⟩, HF2.out.trans (Fr.set _ _ _)⟩
            · rw [if_neg hx0] at hRk
              obtain ⟨j, rfl, hj1, hj2, hj3⟩ := hxa hx0
              have gx : ¬ ((j : Int) < 0) := hx0
              have gx' : decide ((j : Int) < 0) = false := decide_eq_false hx0
              have eX : xmlnsB.toList = [120, 109, 108, 110, 115] := ByteArray.toList_mk _
              rw [eX] at hRk
              have c1 := HD2.out.c1
              have z1 := HD2.out.fz 1
              have hgp2 : g ≠ p := by omega
              have d0' : (w2.setCell ⟨p, 1, none⟩ (.int .i64 (j : Int))).cell? ⟨g, 0, none⟩ = some (.string xn) := (World.cell?_setCell_other _ _ _ _ (fun e => hgp2 (congrArg Addr.block e).symm)).trans d0
              have d1' : (w2.setCell ⟨p, 1, none⟩ (.int .i64 (j : Int))).cell? ⟨g, 1, none⟩ = some (.string xv) := (World.cell?_setCell_other _ _ _ _ (fun e => hgp2 (congrArg Addr.block e).symm)).trans d1
              have HO3 := (Fr.set (p := p) w2 1 (.int .i64 (j : Int))).owns hp HO2
              have HD3 : Hid (RdAt (w2.setCell ⟨p, 1, none⟩ (.int .i64 (j : Int))) p s (j : Int) true) := HD2.out.set1 _
              have HF3 : Hid (Fr p w (w2.setCell ⟨p, 1, none⟩ (.int .i64 (j : Int)))) := HF2.out.trans (Fr.set _ _ _)
              cases hh : hasA l xn
              · rw [hh] at Hhas
                cases hX : (xn.toList == [120, 109, 108, 110, 115])
                · rw [hh, hX, if_neg (by rintro (h | ⟨h, _⟩) <;> cases h), if_neg (by decide)] at hRk
                  have HRn : Hid (attrsR s about f' j (l ++ [(xn, xv)]) sp told = R) := hRk
                  clear hRk hxa
                  go_wp2_with fail
                  refine Hhas.out.mono ?_
                  rintro r w2 ⟨rfl, rfl⟩
                  clear Hhas
                  have O4 := HO3.alloc (.cells #[.string xn, .string xv] 68)
                  have F4 : Fr p w ((w2.setCell ⟨p, 1, none⟩ (.int .i64 (j : Int))).alloc (.cells #[.string xn, .string xv] 68)) := HF3.out.trans (Fr.of_below ((Below.refl _ _).alloc (Nat.le_refl _) _))
                  have D4 : Hid (RdAt ((w2.setCell ⟨p, 1, none⟩ (.int .i64 (j : Int))).alloc (.cells #[.string xn, .string xv] 68)) p s (j : Int) true) := HD3.out.keep ((Below.refl _ _).alloc (Nat.le_refl _) _)
                  go_wp2_with (at_builtin; refine wpList_append_own _ rfl (.tmp 82) (.tmp 84) 37 rfl w.heap.size 68 i0 (.agg #[.string ⟨#[]⟩, .string ⟨#[]⟩]) 2 32 Tryz.underlying37 Hi.out Hz0.out Hz1.out Hz2.out rfl (by decide) _ l.length (attrCells l) rfl O4 ⟨_, 0, none⟩ 1 1 [.string xn, .string xv] rfl rfl (two_cells _ _ _ _ _ (by simp [World.setCell])) (two_one _ _) ?a3 ?a4 ?a5 ?_)
                  case a3 => unfold maxLen; omega
                  case a4 => omega
                  case a5 => exact F4.size
                  intro v' w5 hown' hgrow hif
                  have HF5 : Hid (Fr p w w5) := F4.grown O4 hgrow
                  have HD5 : Hid (RdAt w5 p s (j : Int) true) := D4.out.grown O4 hgrow hp
                  have hl1 : (l ++ [(xn, xv)]).length = l.length + 1 := by simp
                  have HO5 : Hid (w5.ownsRow w.heap.size 68 2 v' (l ++ [(xn, xv)]).length (attrCells (l ++ [(xn, xv)]))) := by
                    show World.ownsRow _ _ _ _ _ _ _
                    rw [hl1, attrCells_more]
                    exact hown'
                  have hif' : v' ≠ .slice none 0 0 := by first | exact hif | exact fun e => hov (hif.1 e).1
                  clear hown' hgrow hif O4 F4 D4 HO3 HD3 HF3 HO2 HD2 HF2 d0 d1 d0' d1' c1 z1
                  go_wp2_with fail
                  go_roundw
                  case rel => exact ⟨l ++ [(xn, xv)], sp, told, rfl, rfl, hif', by rw [hl1]; omega, HO5, HF5, .inl ⟨f', j, hj2, by omega, by rw [hl1]; omega, HRn, HD5⟩⟩
                  case measure =>
                    rw [rdLeft_on HD5.out, HM.out]
                    omega
                · cases told
                  · rw [hh, hX, if_neg (by rintro (h | ⟨_, h⟩) <;> cases h), if_pos rfl] at hRk
                    have HSp := specSpaceOf xv (w2.setCell ⟨p, 1, none⟩ (.int .i64 (j : Int)))
                    by_cases hsa : spaceI xv = about
                    · rw [if_pos hsa] at hRk
                      have HN : Hid (R = none) := hRk.symm
                      have gsa : (spaceI xv == about) = true := by rw [hsa]; simp
                      clear hRk hxa hsa
                      have c2 := HD3.out.c2
                      have z2 := HD3.out.fz 2
                      generalize spaceI xv = si at *
                      go_wp2_with fail
                      refine Hhas.out.mono ?_
                      rintro r w2 ⟨rfl, rfl⟩
                      clear Hhas
                      go_wp2_with fail
                      refine HSp.mono ?_
                      rintro r w3 ⟨rfl, rfl⟩
                      have HO4 : Hid (World.ownsRow _ w.heap.size 68 2 _ l.length (attrCells l)) := (Fr.set (p := p) _ 2 (.bool false)).owns hp HO3
                      have HD4 := HD3.out.set2 false
                      have HF4 : Hid (Fr p w _) := HF3.out.trans (Fr.set _ 2 (.bool false))
                      have HD4' : Hid (RdAt _ p s (j : Int) false) := HD4
                      clear HSp HO3 HD3 HF3 HO2 HD2 HF2 d0 d1 d0' d1' c1 z1 HD4
                      go_wp2_with fail
                      go_roundw
                      case rel => exact ⟨l, si, true, rfl, rfl, hov, hll, HO4, HF4, .inr ⟨HN, _, HD4'⟩⟩
                      case measure =>
                        rw [rdLeft_off HD4'.out, HM.out]
                        omega
                    · rw [if_neg hsa] at hRk
                      have HRn : Hid (attrsR s about f' j l (spaceI xv) true = R) := hRk
                      have gsa : (spaceI xv == about) = false := by rw [beq_eq_false_iff_ne]; exact hsa
                      clear hRk hxa hsa
                      generalize spaceI xv = si at *
                      go_wp2_with fail
                      refine Hhas.out.mono ?_
                      rintro r w2 ⟨rfl, rfl⟩
                      clear Hhas
                      go_wp2_with fail
                      refine HSp.mono ?_
                      rintro r w3 ⟨rfl, rfl⟩
                      have HO4 : Hid (World.ownsRow _ w.heap.size 68 2 _ l.length (attrCells l)) := HO3
                      clear HSp HO3 HO2 HD2 HF2 d0 d1 d0' d1' c1 z1
                      go_wp2_with fail
                      go_roundw
                      case rel => exact ⟨l, si, true, rfl, rfl, hov, hll, HO4, HF3, .inl ⟨f', j, hj2, by omega, by omega, HRn, HD3⟩⟩
                      case measure =>
                        rw [rdLeft_on HD3.out, HM.out]
                        omega
                  · rw [hh, hX, if_pos (.inr ⟨rfl, rfl⟩)] at hRk
                    have HN : Hid (R = none) := hRk.symm
                    clear hRk hxa d1
                    go_wp2_with fail
                    refine Hhas.out.mono ?_
                    rintro r w2 ⟨rfl, rfl⟩
                    clear Hhas
                    have c2 := HD2.out.c2
                    have z2 := HD2.out.fz 2
                    go_wp2_with fail
                    go_ret2
                    exact ⟨_, _, rfl, ⟨l, (Fr.set w2 2 (.bool false)).owns hp HO2, hll, hov, .inr ⟨HN.out, _, HD2.out.set2 false⟩⟩, HF2.out.trans (Fr.set _ _ _)⟩
              · rw [hh, if_pos (.inl rfl)] at hRk
                rw [hh] at Hhas
                have HN : Hid (R = none) := hRk.symm
                clear hRk hxa d1
                go_wp2_with fail
                refine Hhas.out.mono ?_
                rintro r w2 ⟨rfl, rfl⟩
                clear Hhas
                have c2 := HD2.out.c2
                have z2 := HD2.out.fz 2
                go_wp2_with fail
                go_ret2
                exact ⟨_, _, rfl, ⟨l, (Fr.set w2 2 (.bool false)).owns hp HO2, hll, hov, .inr ⟨HN.out, _, HD2.out.set2 false⟩⟩, HF2.out.trans (Fr.set _ _ _)⟩
        · rw [if_neg (fun e => hsp (Option.some.inj e))] at hRk
          have g32 : (((s[k]'hlt).toNat : Int) == 32) = false := by
            rw [beq_eq_false_iff_ne]
            intro e
            apply hsp
            exact UInt8.toNat_inj.1 (by show (s[k]'hlt).toNat = 32; omega)
          clear HRk
          go_upto_region 4 with fail
          go_quiet (fail)
          have bn := drew_kd (Below.refl wr.heap.size wr) nq
          have HO1 : Hid ((wr.drewN nq).ownsRow w.heap.size 68 2 _ l.length (attrCells l)) := owns_below HO.out (Nat.le_refl _) bn
          have HF1 : Hid (Fr p w (wr.drewN nq)) := HF.out.trans (Fr.of_below bn)
          have HD1 : Hid (RdAt (wr.drewN nq) p s _ _) := HD.out.keep bn
          clear bn c0 c1 c2 z1 z2
          generalize wr.drewN nq = w1 at *
          have c2 := HD1.out.c2
          have z2 := HD1.out.fz 2
          go_wp2_with fail
          refine (l1In_kd sp 0 2 w1).mono ?_
          rintro r w1 ⟨rfl, rfl⟩
          cases hin : inP sp (0, 2)
          · have hR : R = none := by
              rw [← hRk, if_neg (by intro h; rw [inP_rd.2 ⟨by omega, by omega⟩] at hin; cases hin)]
            go_wp2_with fail
            go_ret2
            exact ⟨_, _, rfl, ⟨l, (Fr.set w1 2 (.bool false)).owns hp HO1.out, hll, hov, .inr ⟨hR, _, HD1.out.set2 false⟩⟩, HF1.out.trans (Fr.set _ _ _)⟩
          · have hR : R = some (l, sp, k) := by
              have h2 := inP_rd.1 hin
              rw [← hRk, if_pos ⟨by omega, by omega⟩]
            clear hRk
            go_wp2_with fail
            go_ret2
            exact ⟨_, _, rfl, ⟨l, HO1.out, hll, hov, .inl ⟨k, hR, hk, HD1.out⟩⟩, HF1.out⟩
      · have ed : s.data[k]? = none := Array.getElem?_eq_none (by show s.size ≤ k; omega)
        rw [ed, if_neg (by intro e; cases e)] at hRk
        have g1 : ¬ ((k : Int) < (s.size : Int)) := by omega
        have g1' : decide ((k : Int) < (s.size : Int)) = false := decide_eq_false g1
        clear HRk
        go_upto_region 4 with fail
        go_quiet (fail)
        have bn := drew_kd (Below.refl wr.heap.size wr) nq
        have HO1 : Hid ((wr.drewN nq).ownsRow w.heap.size 68 2 _ l.length (attrCells l)) := owns_below HO.out (Nat.le_refl _) bn
        have HF1 : Hid (Fr p w (wr.drewN nq)) := HF.out.trans (Fr.of_below bn)
        have HD1 : Hid (RdAt (wr.drewN nq) p s _ _) := HD.out.keep bn
        clear bn c0 c1 c2 z1 z2
        generalize wr.drewN nq = w1 at *
        have c2 := HD1.out.c2
        have z2 := HD1.out.fz 2
        go_wp2_with fail
        refine (l1In_kd sp 0 2 w1).mono ?_
        rintro r w1 ⟨rfl, rfl⟩
        cases hin : inP sp (0, 2)
        · have hR : R = none := by
            rw [← hRk, if_neg (by intro h; rw [inP_rd.2 ⟨by omega, by omega⟩] at hin; cases hin)]
          go_wp2_with fail
          go_ret2
          exact ⟨_, _, rfl, ⟨l, (Fr.set w1 2 (.bool false)).owns hp HO1.out, hll, hov, .inr ⟨hR, _, HD1.out.set2 false⟩⟩, HF1.out.trans (Fr.set _ _ _)⟩
        · have hR : R = some (l, sp, k) := by
            have h2 := inP_rd.1 hin
            rw [← hRk, if_pos ⟨by omega, by omega⟩]
          clear hRk
          go_wp2_with fail
          go_ret2
          exact ⟨_, _, rfl, ⟨l, HO1.out, hll, hov, .inl ⟨k, hR, hk, HD1.out⟩⟩, HF1.out⟩
    · have c0 := HD.out.c0
      have c1 := HD.out.c1
      have c2 := HD.out.c2
      have z1 := HD.out.fz 1
      have z2 := HD.out.fz 2
      go_upto_region 4 with fail
      go_quiet (fail)
      have bn := drew_kd (Below.refl wr.heap.size wr) nq
      have HO1 : Hid ((wr.drewN nq).ownsRow w.heap.size 68 2 _ l.length (attrCells l)) := owns_below HO.out (Nat.le_refl _) bn
      have HF1 : Hid (Fr p w (wr.drewN nq)) := HF.out.trans (Fr.of_below bn)
      have HD1 : Hid (RdAt (wr.drewN nq) p s _ _) := HD.out.keep bn
      clear bn c0 c1 c2 z1 z2
      generalize wr.drewN nq = w1 at *
      have c2 := HD1.out.c2
      have z2 := HD1.out.fz 2
      go_wp2_with fail
      refine (l1In_kd sp 0 2 w1).mono ?_
      rintro r w1 ⟨rfl, rfl⟩
      cases hin : inP sp (0, 2)
      · go_wp2_with fail
        go_ret2
        exact ⟨_, _, rfl, ⟨l, (Fr.set w1 2 (.bool false)).owns hp HO1.out, hll, hov, .inr ⟨HN.out, _, HD1.out.set2 false⟩⟩, HF1.out.trans (Fr.set _ _ _)⟩
      · go_wp2_with fail
        go_ret2
        exact ⟨_, _, rfl, ⟨l, HO1.out, hll, hov, .inr ⟨HN.out, _, HD1.out⟩⟩, HF1.out⟩

end Go.Proofs.YtkngdlbedelgnaaGreatDoor.Sg

namespace Go.Proofs.YtkngdlbedelgnaaGreatDoor.Sg
open Go.ChangeShapes Go.WideShapes Go.ChangeAt Go.RowKit

theorem elsN_drop : ∀ (es : List ElB) (k : Nat) (h : k < es.length), elsN (es.drop k) = elN (es[k]'h) + elsN (es.drop (k + 1))
  | [], k, h => absurd h (by simp)
  | e :: es, 0, _ => by simp [elsN]
  | e :: es, k + 1, h => by
    have := elsN_drop es k (by simpa using h)
    simpa using this
theorem elsD_drop : ∀ (es : List ElB) (k : Nat) (h : k < es.length), elsD (es.drop k) = max (elD (es[k]'h)) (elsD (es.drop (k + 1)))
  | [], k, h => absurd h (by simp)
  | e :: es, 0, _ => by simp [elsD]
  | e :: es, k + 1, h => by
    have := elsD_drop es k (by simpa using h)
    simpa using this
mutual
theorem elN_le : ∀ e : ElB, elN e ≤ elW e + 1
  | .mk kd sp nm ats tx ks => by
    have := elsN_le ks
    unfold elN elW
    omega
theorem elsN_le : ∀ es : List ElB, elsN es ≤ es.length + elsW es
  | [] => by simp [elsN]
  | e :: es => by
    have := elN_le e
    have := elsN_le es
    unfold elsN elsW
    rw [List.length_cons]
    omega
end
mutual
theorem elD_le : ∀ e : ElB, elD e ≤ elN e
  | .mk kd sp nm ats tx ks => by
    have := elsD_le ks
    unfold elD elN
    omega
theorem elsD_le : ∀ es : List ElB, elsD es ≤ elsN es
  | [] => by simp [elsD]
  | e :: es => by
    have := elD_le e
    have := elsD_le es
    unfold elsD elsN
    omega
end
theorem elsN_get (es : List ElB) (k : Nat) (h : k < es.length) : elN (es[k]'h) ≤ elsN es := by
  induction es generalizing k with
  | nil => exact absurd h (by simp)
  | cons e es ih =>
    unfold elsN
    cases k with
    | zero => simp
    | succ k =>
      have := ih k (by simpa using h)
      simp only [List.getElem_cons_succ]
      omega

theorem elN_pos (e : ElB) : 1 ≤ elN e := by
  obtain ⟨kd, sp, nm, ats, tx, ks⟩ := e
  unfold elN
  omega
theorem elsN_len : ∀ es : List ElB, es.length ≤ elsN es
  | [] => by simp
  | e :: es => by
    have := elN_pos e
    have := elsN_len es
    unfold elsN
    rw [List.length_cons]
    omega

def SpSize (e : ElB) : Prop := ∀ (lo : Nat) (v : Value) (w : World), ElV (QA lo) (lo ≤ ·) w v e → elN e ≤ 1099511627776 → Calls Tryz.prog 32 #[v] w fun r w' => r = .returned (.int .i64 (elN e : Int)) ∧ Below w.heap.size w w'
set_option maxHeartbeats 2000000 in
theorem elSize_of (kd sp : Int) (nm : ByteArray) (ats : List AttrB) (tx : ByteArray) (ks : List ElB) (hA : ∀ e ∈ ks, SpSize e) : SpSize (.mk kd sp nm ats tx ks) := by
  intro lo v w hv hn
  obtain ⟨av, ka, kc, rfl, _, hk⟩ := hv
  have HK : Hid (KidsIn (QA lo) (lo ≤ ·) w ka ks) := hk
  have HA : Hid (∀ e ∈ ks, SpSize e) := hA
  have hN : elsN ks ≤ 1099511627776 := by unfold elN at hn; omega
  have hlen : ks.length ≤ 1099511627776 := by have := elsN_len ks; omega
  obtain ⟨R, HR⟩ : ∃ R, Hid (elN (.mk kd sp nm ats tx ks) = R) := ⟨_, rfl⟩
  have HR0 : Hid (1 + elsN (ks.drop 0) = R) := by
    show _ = _
    rw [← HR.out, List.drop_zero]
    unfold elN
    omega
  rw [HR.out] at hn ⊢
  clear hk hA HR
  have hb0 := (Below.refl w.heap.size w).alloc (Nat.le_refl _) (.cells #[.int .i64 kd, .int .i64 sp, .string nm, av, .string tx, .slice ka ks.length kc] 39)
  have q0 : (w.alloc (.cells #[.int .i64 kd, .int .i64 sp, .string nm, av, .string tx, .slice ka ks.length kc] 39)).cell? ⟨w.heap.size, 5, none⟩ = some (.slice ka ks.length kc) := by simp
  have s0 : w.heap.size < (w.alloc (.cells #[.int .i64 kd, .int .i64 sp, .string nm, av, .string tx, .slice ka ks.length kc] 39)).heap.size := by simp
  go_enter Tryz.func32, Tryz.ntmps32
  go_wp2_with fail
  go_loopw [3, 4] (fun ov iv wr => ∃ k o : Nat, k ≤ ks.length ∧ iv = .int .i64 (k : Int) ∧ ov = .int .i64 (o : Int) ∧ Hid (o + elsN (ks.drop k) = R) ∧ wr.cell? ⟨w.heap.size, 5, none⟩ = some (.slice ka ks.length kc) ∧ w.heap.size < wr.heap.size ∧ Hid (Below w.heap.size w wr)) (fun _ iv _ => ks.length - (intOf iv).toNat)
  case atStart => exact ⟨0, 1, Nat.zero_le _, rfl, rfl, HR0, q0, s0, hb0⟩
  case round =>
    clear HR0 q0 s0 hb0
    obtain ⟨k, o, hk, rfl, rfl, HRk, q5, hs, HB⟩ := hrel
    by_cases hlt : k < ks.length
    · rcases HK.out.keep (QA.lies _) HB.out with h | ⟨b, off, rfl, _, hc⟩
      · omega
      obtain ⟨v0, v1, v2, v3, v4, v5, c0, c1, c2, c3, c4, c5, hV⟩ := (hc.get k hlt).cells
      have hNk := elsN_get ks k hlt
      have Hs := HA.out _ (List.getElem_mem hlt) lo _ wr hV (by omega)
      have hdr := elsN_drop ks k hlt
      have hRk := HRk.out
      rw [hdr] at hRk
      clear hc hV hdr HRk
      generalize elN (ks[k]'hlt) = m at *
      have HRk2 : Hid (o + m + elsN (ks.drop (k + 1)) = R) := by show _ = _; omega
      have hom : o + m ≤ R := by omega
      have hk1 : k + 1 ≤ ks.length := hlt
      have k0 : (0 : Int) ≤ (k : Int) := by omega
      have k1 : (k : Int) < (ks.length : Int) := by omega
      have q1 : IntKind.i64.wrap ((o : Int) + (m : Int)) = (o : Int) + (m : Int) := IntWalk.i64_in _ (by omega)
      clear hRk
      go_wp2_with fail
      refine Hs.mono ?_
      rintro e w1 ⟨rfl, b1⟩
      have q5' := (b1.cell hs).trans q5
      have hs' := Nat.lt_of_lt_of_le hs b1.size
      have HB' : Hid (Below w.heap.size w w1) := HB.out.trans (b1.mono HB.out.size)
      clear b1 q5 HB
      go_wp2_with fail
      go_roundw
      case rel => exact ⟨k + 1, o + m, hk1, by go_num, by go_num, HRk2, q5', hs', HB'⟩
      case measure => simp [intOf]; omega
    · have hf : o = R := by
        have := HRk.out
        rw [List.drop_eq_nil_of_le (by omega)] at this
        exact this
      have g1 : decide ((k : Int) < (ks.length : Int)) = false := decide_eq_false (by omega)
      clear HRk
      subst hf
      go_wp2_with fail
      go_ret
      exact ⟨rfl, HB.out⟩
mutual
theorem specElSize : ∀ e : ElB, SpSize e
  | .mk kd sp nm ats tx ks => elSize_of kd sp nm ats tx ks (specElSize_all ks)
theorem specElSize_all : ∀ es : List ElB, ∀ e ∈ es, SpSize e
  | [], _, h => nomatch h
  | x :: xs, e, h => (List.mem_cons.1 h).elim (fun he => he ▸ specElSize x) (fun hm => specElSize_all xs e hm)
end

set_option maxHeartbeats 1000000 in
theorem specMaxE (a b : Int) (w : World) : Calls Tryz.prog 13 #[.int .i64 a, .int .i64 b] w fun e w' => e = .returned (.int .i64 (if b < a then a else b)) ∧ w' = w := by
  by_cases h : b < a
  · rw [if_pos h]
    go_enter Tryz.func13, Tryz.ntmps13
    go_wp2
    go_ret
    exact ⟨rfl, rfl⟩
  · rw [if_neg h]
    go_enter Tryz.func13, Tryz.ntmps13
    go_wp2
    go_ret
    exact ⟨rfl, rfl⟩
def SpDeep (e : ElB) : Prop := ∀ (lo : Nat) (v : Value) (w : World), ElV (QA lo) (lo ≤ ·) w v e → elN e ≤ 1099511627776 → Calls Tryz.prog 59 #[v] w fun r w' => r = .returned (.int .i64 (elD e : Int)) ∧ Below w.heap.size w w'
set_option maxHeartbeats 2000000 in
theorem elDeep_of (kd sp : Int) (nm : ByteArray) (ats : List AttrB) (tx : ByteArray) (ks : List ElB) (hA : ∀ e ∈ ks, SpDeep e) : SpDeep (.mk kd sp nm ats tx ks) := by
  intro lo v w hv hn
  obtain ⟨av, ka, kc, rfl, _, hk⟩ := hv
  have HK : Hid (KidsIn (QA lo) (lo ≤ ·) w ka ks) := hk
  have HA : Hid (∀ e ∈ ks, SpDeep e) := hA
  have hN : elsN ks ≤ 1099511627776 := by unfold elN at hn; omega
  have hlen : ks.length ≤ 1099511627776 := by have := elsN_len ks; omega
  obtain ⟨R, HR⟩ : ∃ R, Hid (elD (.mk kd sp nm ats tx ks) = R) := ⟨_, rfl⟩
  have HR0 : Hid (max 0 (elsD (ks.drop 0)) + 1 = R) := by
    show _ = _
    rw [← HR.out, List.drop_zero]
    unfold elD
    omega
  have hD : R ≤ 1099511627776 := by rw [← HR.out]; exact Nat.le_trans (elD_le _) hn
  rw [HR.out]
  clear hk hA HR
  have hb0 := (Below.refl w.heap.size w).alloc (Nat.le_refl _) (.cells #[.int .i64 kd, .int .i64 sp, .string nm, av, .string tx, .slice ka ks.length kc] 39)
  have q0 : (w.alloc (.cells #[.int .i64 kd, .int .i64 sp, .string nm, av, .string tx, .slice ka ks.length kc] 39)).cell? ⟨w.heap.size, 5, none⟩ = some (.slice ka ks.length kc) := by simp
  have s0 : w.heap.size < (w.alloc (.cells #[.int .i64 kd, .int .i64 sp, .string nm, av, .string tx, .slice ka ks.length kc] 39)).heap.size := by simp
  go_enter Tryz.func59, Tryz.ntmps59
  go_wp2_with fail
  go_loopw [3, 4] (fun ov iv wr => ∃ k o : Nat, k ≤ ks.length ∧ iv = .int .i64 (k : Int) ∧ ov = .int .i64 (o : Int) ∧ Hid (max o (elsD (ks.drop k)) + 1 = R) ∧ wr.cell? ⟨w.heap.size, 5, none⟩ = some (.slice ka ks.length kc) ∧ w.heap.size < wr.heap.size ∧ Hid (Below w.heap.size w wr)) (fun _ iv _ => ks.length - (intOf iv).toNat)
  case atStart => exact ⟨0, 0, Nat.zero_le _, rfl, rfl, HR0, q0, s0, hb0⟩
  case round =>
    clear HR0 q0 s0 hb0
    obtain ⟨k, o, hk, rfl, rfl, HRk, q5, hs, HB⟩ := hrel
    by_cases hlt : k < ks.length
    · rcases HK.out.keep (QA.lies _) HB.out with h | ⟨b, off, rfl, _, hc⟩
      · omega
      obtain ⟨v0, v1, v2, v3, v4, v5, c0, c1, c2, c3, c4, c5, hV⟩ := (hc.get k hlt).cells
      have hNk := elsN_get ks k hlt
      have Hs := HA.out _ (List.getElem_mem hlt) lo _ wr hV (by omega)
      have hdr := elsD_drop ks k hlt
      have hRk := HRk.out
      rw [hdr] at hRk
      clear hc hV hdr HRk
      generalize elD (ks[k]'hlt) = m at *
      have HRk2 : Hid (max (max o m) (elsD (ks.drop (k + 1))) + 1 = R) := by show _ = _; omega
      have hk1 : k + 1 ≤ ks.length := hlt
      have hmx : (if (m : Int) < (o : Int) then (o : Int) else (m : Int)) = ((max o m : Nat) : Int) := by split <;> omega
      have k0 : (0 : Int) ≤ (k : Int) := by omega
      have k1 : (k : Int) < (ks.length : Int) := by omega
      clear hRk
      go_wp2_with fail
      refine Hs.mono ?_
      rintro e w1 ⟨rfl, b1⟩
      have q5' := (b1.cell hs).trans q5
      have hs' := Nat.lt_of_lt_of_le hs b1.size
      have HB' : Hid (Below w.heap.size w w1) := HB.out.trans (b1.mono HB.out.size)
      clear b1 q5 HB
      go_wp2_with fail
      refine (specMaxE (o : Int) (m : Int) _).mono ?_
      rintro e w2 ⟨rfl, rfl⟩
      rw [hmx]
      go_wp2_with fail
      go_roundw
      case rel => exact ⟨k + 1, max o m, hk1, by go_num, rfl, HRk2, q5', hs', HB'⟩
      case measure => simp [intOf]; omega
    · have hf : o + 1 = R := by
        have := HRk.out
        rw [List.drop_eq_nil_of_le (by omega)] at this
        simpa [elsD] using this
      have q1 : IntKind.i64.wrap ((o : Int) + 1) = (o : Int) + 1 := IntWalk.i64_in _ (by omega)
      have g1 : decide ((k : Int) < (ks.length : Int)) = false := decide_eq_false (by omega)
      clear HRk
      subst hf
      go_wp2_with fail
      go_ret
      exact ⟨rfl, HB.out⟩
mutual
theorem specElDeep : ∀ e : ElB, SpDeep e
  | .mk kd sp nm ats tx ks => elDeep_of kd sp nm ats tx ks (specElDeep_all ks)
theorem specElDeep_all : ∀ es : List ElB, ∀ e ∈ es, SpDeep e
  | [], _, h => nomatch h
  | x :: xs, e, h => (List.mem_cons.1 h).elim (fun he => he ▸ specElDeep x) (fun hm => specElDeep_all xs e hm)
end

end Go.Proofs.YtkngdlbedelgnaaGreatDoor.Sg

namespace Go.Proofs.YtkngdlbedelgnaaGreatDoor.Sg
open Go.ChangeShapes Go.WideShapes Go.ChangeAt Go.RowKit

theorem six_cells (w : World) (a b c d e f : Value) (t : TypeId) (g : Nat) (hg : g = w.heap.size) : ∀ j u, ([a, b, c, d, e, f])[j]? = some u → (w.alloc (.cells #[a, b, c, d, e, f] t)).cell? ((⟨g, 0, none⟩ : Addr).add j) = some u := by
  subst hg
  intro j u hj
  match j, hj with
  | 0, hj => simp at hj; subst hj; simp [Addr.add]
  | 1, hj => simp at hj; subst hj; simp [Addr.add]
  | 2, hj => simp at hj; subst hj; simp [Addr.add]
  | 3, hj => simp at hj; subst hj; simp [Addr.add]
  | 4, hj => simp at hj; subst hj; simp [Addr.add]
  | 5, hj => simp at hj; subst hj; simp [Addr.add]

/-- What a reader of one element leaves. -/
def ElLeft (p : Nat) (s : ByteArray) (i N : Nat) (R : Option (ElB × Nat)) (w' : World) (v : Value) : Prop :=
  (∃ e j, R = some (e, j) ∧ i < j ∧ j ≤ s.size ∧ ElP (N ≤ ·) w' v e ∧ RdAt w' p s ((j : Nat) : Int) true) ∨ (R = none ∧ (∃ e, ElP (N ≤ ·) w' v e) ∧ ∃ k, RdAt w' p s k false)
/-- What a reader of kids leaves. -/
def KidsLeft (p : Nat) (s : ByteArray) (i N : Nat) (R : Option (List ElB × Nat)) (w' : World) (v : Value) : Prop :=
  ∃ l, RowL w' N v l ∧ ((∃ j, R = some (l, j) ∧ i ≤ j ∧ j ≤ s.size ∧ RdAt w' p s ((j : Nat) : Int) true) ∨ (R = none ∧ ∃ k, RdAt w' p s k false))
theorem ElP.note (P : Nat → Prop) (w : World) (k : Int) (t : ByteArray) : ElP P w (.agg #[.int .i64 k, .int .i64 0, .string ⟨#[]⟩, .slice none 0 0, .string t, .slice none 0 0]) (.mk k 0 ⟨#[]⟩ [] t []) :=
  ⟨.slice none 0 0, none, 0, rfl, QP.nil P w, .inl rfl⟩
theorem kid_more {l x : List ElB} {o : Option (List ElB × Nat)} : (o.map fun r => (x ++ r.1, r.2)).map (fun r => (l ++ r.1, r.2)) = o.map fun r => ((l ++ x) ++ r.1, r.2) := by
  cases o <;> simp

set_option maxRecDepth 20000 in
set_option maxHeartbeats 16000000 in
theorem specRdKids (s : ByteArray) (p : Nat) (sp : Int) (deep i : Nat) (el : Nat → Option (ElB × Nat)) (w : World) (h : RdAt w p s (i : Int) true) (hs : s.size ≤ 1073741824) (hi : i ≤ s.size) (hd : 1 ≤ deep) (hd2 : deep ≤ 1000)
    (hE : ∀ (k : Nat) (W : World), i ≤ k → k < s.size → RdAt W p s (k : Int) true → Calls Tryz.prog 14 #[.pointer (some ⟨p, 0, none⟩), .int .i64 sp, .int .i64 ((deep - 1 : Nat) : Int)] W fun r w' => ∃ v, r = .returned v ∧ ElLeft p s k W.heap.size (el k) w' v ∧ Fr p W w') :
    Calls Tryz.prog 29 #[.pointer (some ⟨p, 0, none⟩), .int .i64 sp, .int .i64 (deep : Int)] w fun r w' => ∃ v, r = .returned v ∧ KidsLeft p s i w.heap.size (kidsL s el (s.size + 1) i) w' v ∧ Fr p w w' := by
  obtain ⟨i0, hi0, hz0, hz1, hz2⟩ := info_parts info_el
  have Hi : Hid (Tryz.prog.info? 39 = some i0) := hi0
  have Hz0 : Hid (i0.zero = some (.agg #[.int .i64 0, .int .i64 0, .string ⟨#[]⟩, .slice none 0 0, .string ⟨#[]⟩, .slice none 0 0])) := hz0
  have Hz1 : Hid (i0.size = 6) := hz1
  have Hz2 : Hid (i0.bytes = 96) := hz2
  have hp := h.lt
  have HE : Hid (∀ (k : Nat) (W : World), i ≤ k → k < s.size → RdAt W p s (k : Int) true → Calls Tryz.prog 14 #[.pointer (some ⟨p, 0, none⟩), .int .i64 sp, .int .i64 ((deep : Int) - 1)] W fun r w' => ∃ v, r = .returned v ∧ ElLeft p s k W.heap.size (el k) w' v ∧ Fr p W w') := by
    have e : ((deep - 1 : Nat) : Int) = (deep : Int) - 1 := by omega
    rw [e] at hE
    exact hE
  obtain ⟨R, HR⟩ : ∃ R, Hid (kidsL s el (s.size + 1) i = R) := ⟨_, rfl⟩
  rw [HR.out]
  have bA := (Below.refl w.heap.size w).alloc (Nat.le_refl _) (.cells #[] 39)
  have ow0 : Hid (RowL (w.alloc (.cells #[] 39)) w.heap.size _ []) := RowL.empty w w.heap.size (Nat.le_refl _)
  have HR0 : Hid (RdAt (w.alloc (.cells #[] 39)) p s (i : Int) true) := h.keep bA
  have HF0 : Hid (Fr p w (w.alloc (.cells #[] 39))) := Fr.of_below bA
  have HR1 : Hid ((kidsL s el (s.size + 1) i).map (fun r => ([] ++ r.1, r.2)) = R) := by
    show _ = _
    rw [← HR.out]
    cases kidsL s el (s.size + 1) i <;> simp
  have hi' : Hid (i ≤ s.size) := hi
  clear hi0 hz0 hz1 hz2 h bA hi hE HR
  go_enter Tryz.func29, Tryz.ntmps29
  go_wp2_with fail
  go_loopw [7] (fun ov wr => ∃ l : List ElB, l.length ≤ s.size ∧ Hid (RowL wr w.heap.size ov l) ∧ Hid (Fr p w wr) ∧ ((∃ f k : Nat, i ≤ k ∧ k ≤ s.size ∧ s.size + 1 ≤ f + k ∧ l.length ≤ k ∧ Hid ((kidsL s el f k).map (fun r => (l ++ r.1, r.2)) = R) ∧ Hid (RdAt wr p s (k : Int) true)) ∨ (Hid (R = none) ∧ ∃ k, Hid (RdAt wr p s k false)))) (fun _ wr => rdLeft s p wr)
  case atStart => exact ⟨[], Nat.zero_le _, ow0, HF0, .inl ⟨s.size + 1, i, Nat.le_refl _, hi'.out, by omega, Nat.zero_le _, HR1, HR0⟩⟩
  case round =>
    clear ow0 HR0 HF0 HR1
    obtain ⟨l, hll, HO, HF, hmode⟩ := hrel
    obtain ⟨g, oc, rfl, hg1, hg2⟩ := HO.out.form
    rcases hmode with ⟨f, k, hik, hk, hf, hlk, HRk, HD⟩ | ⟨HN, k, HD⟩
    · have c0 := HD.out.c0
      have c1 := HD.out.c1
      have c2 := HD.out.c2
      have z1 := HD.out.fz 1
      have z2 := HD.out.fz 2
      have HM : Hid (rdLeft s p wr = s.size + 2 - k) := rdLeft_on HD.out
      obtain ⟨f', rfl⟩ : ∃ f', f = f' + 1 := ⟨f - 1, by omega⟩
      have hRk := HRk.out
      rw [kidsL] at hRk
      have HS1 : Hid (∀ W, Calls Tryz.prog 11 #[.string s, .int .i64 (k : Int), .string ⟨#[60, 47]⟩] W fun e w' => e = .returned (.bool (standsB s k ltSlash)) ∧ w' = W) := fun W => specStands s k ltSlash W (by omega) (by omega) (by decide)
      cases hst : standsB s k ltSlash
      · rw [hst] at HS1 hRk
        rw [if_neg (by decide)] at hRk
        go_upto_region 2 with fail
        go_quiet ((go_at_call 11; exact Calls.quiet_of_same (HS1.out _)))
        have bn := drew_kd (Below.refl wr.heap.size wr) nq
        have HO1 : Hid (RowL (wr.drewN nq) w.heap.size _ l) := HO.out.keep bn
        have HF1 : Hid (Fr p w (wr.drewN nq)) := HF.out.trans (Fr.of_below bn)
        have HD1 : Hid (RdAt (wr.drewN nq) p s (k : Int) true) := HD.out.keep bn
        clear bn c0 c1 c2 z1 z2 HO HF HD
        generalize wr.drewN nq = w1 at *
        have c0 := HD1.out.c0
        have c1 := HD1.out.c1
        have c2 := HD1.out.c2
        have z1 := HD1.out.fz 1
        have z2 := HD1.out.fz 2
        clear HS1 HRk hg2
        have hg2 : g < w1.heap.size := by
          obtain ⟨_, _, e, _, h2⟩ := HO1.out.form
          cases e
          exact h2
        by_cases hlt : k < s.size
        · rw [if_neg (by omega)] at hRk
          have g1 : ¬ ((s.size : Int) ≤ (k : Int)) := by omega
          have g1' : decide ((s.size : Int) ≤ (k : Int)) = false := decide_eq_false g1
          go_upto_region 3 with fail
          go_quiet (fail)
          have bn := drew_kd (Below.refl w1.heap.size w1) nq
          have HO2 : Hid (RowL (w1.drewN nq) w.heap.size _ l) := HO1.out.keep bn
          have HF2 : Hid (Fr p w (w1.drewN nq)) := HF1.out.trans (Fr.of_below bn)
          have HD2 : Hid (RdAt (w1.drewN nq) p s (k : Int) true) := HD1.out.keep bn
          clear bn c0 c1 c2 z1 z2 HO1 HF1 HD1
          generalize w1.drewN nq = w2 at *
          have c0 := HD2.out.c0
          have c1 := HD2.out.c1
          have c2 := HD2.out.c2
          have z1 := HD2.out.fz 1
          have z2 := HD2.out.fz 2
          have HS2 : Hid (∀ W, Calls Tryz.prog 11 #[.string s, .int .i64 (k : Int), .string ⟨#[60, 33, 45, 45]⟩] W fun e w' => e = .returned (.bool (standsB s k openNoteB)) ∧ w' = W) := fun W => specStands s k openNoteB W (by omega) (by omega) (by decide)
          cases hno : standsB s k openNoteB
          · rw [hno] at HS2 hRk
            rw [if_neg (by decide)] at hRk
            go_upto_region 5 with fail
            go_quiet ((go_at_call 11; exact Calls.quiet_of_same (HS2.out _)))
            have bn := drew_kd (Below.refl w2.heap.size w2) nq
            have HO3 : Hid (RowL (w2.drewN nq) w.heap.size _ l) := HO2.out.keep bn
            have HF3 : Hid (Fr p w (w2.drewN nq)) := HF2.out.trans (Fr.of_below bn)
            have HD3 : Hid (RdAt (w2.drewN nq) p s (k : Int) true) := HD2.out.keep bn
            clear bn c0 c1 c2 z1 z2 HO2 HF2 HD2
            generalize w2.drewN nq = w3 at *
            have c0 := HD3.out.c0
            have c1 := HD3.out.c1
            have c2 := HD3.out.c2
            have z1 := HD3.out.fz 1
            have z2 := HD3.out.fz 2
            clear HS2
            have g0 : (0 : Int) ≤ (k : Int) := by omega
            have g3 : (k : Int) < (s.size : Int) := by omega
            have ed : s.data[k]? = some (s[k]'hlt) := by
              show s.data[k]? = some (s.data[k]'hlt)
              exact Array.getElem?_eq_getElem hlt
            by_cases h60 : (s[k]'hlt) = 60
            · rw [ed, h60, if_pos rfl] at hRk
              have g60 : (((s[k]'hlt).toNat : Int) == 60) = true := by rw [h60]; rfl
              go_upto_region 10 with fail
              go_quiet (fail)
              have bn := drew_kd (Below.refl w3.heap.size w3) nq
              have HO4 : Hid (RowL (w3.drewN nq) w.heap.size _ l) := HO3.out.keep bn
              have HF4 : Hid (Fr p w (w3.drewN nq)) := HF3.out.trans (Fr.of_below bn)
              have HD4 : Hid (RdAt (w3.drewN nq) p s (k : Int) true) := HD3.out.keep bn
              clear bn c0 c1 c2 z1 z2 HO3 HF3 HD3
              generalize w3.drewN nq = w4 at *
              have c0 := HD4.out.c0
              have c1 := HD4.out.c1
              have c2 := HD4.out.c2
              have z1 := HD4.out.fz 1
              have z2 := HD4.out.fz 2
              have qd : IntKind.i64.wrap ((deep : Int) - 1) = (deep : Int) - 1 := IntWalk.i64_in _ (by omega)
              have HC := HE.out k w4 hik hlt HD4.out
              go_wp2_with fail
              refine HC.mono ?_
              rintro r w5' ⟨v, rfl, hleft, hfr⟩
              have hgN : g < w4.heap.size := by
                obtain ⟨_, _, e, _, h2⟩ := HO4.out.form
                cases e
                exact h2
              have HO6 : Hid (RowL w5' w.heap.size _ l) := HO4.out.fr hfr hp
              have HF6 : Hid (Fr p w w5') := HF4.out.trans hfr
              have hloN : w.heap.size ≤ w4.heap.size := HF4.out.size
              clear HC HO4 HF4 HD4 c0 c1 c2 z1 z2 hfr
              generalize w4.heap.size = N4 at *
              rcases hleft with ⟨e, j, hR, hkj, hjs, heP, hD⟩ | ⟨hR, ⟨e, heP⟩, kx, hD⟩
              · obtain ⟨kd, sq, nm, ats, tx, ks⟩ := e
                have HeP : Hid (ElP (N4 ≤ ·) w5' v (.mk kd sq nm ats tx ks)) := heP
                obtain ⟨av, ka, kc, ev, ⟨xa, xc, eav, _⟩, _⟩ := heP
                subst eav
                subst ev
                rw [hR] at hRk
                have HRn : Hid ((kidsL s el f' j).map (fun r => ((l ++ [ElB.mk kd sq nm ats tx ks]) ++ r.1, r.2)) = R) := by
                  show _ = _
                  rw [← hRk]
                  exact (kid_more (x := [ElB.mk kd sq nm ats tx ks])).symm
                have HD6 : Hid (RdAt w5' p s ((j : Nat) : Int) true) := hD
                clear hRk hR hD
                obtain ⟨gq, capq, C, eV, hown, hels⟩ := HO6.out
                cases eV
                have bA := (Below.refl w5'.heap.size w5').alloc (Nat.le_refl _) (.cells #[.int .i64 kd, .int .i64 sq, .string nm, .slice xa ats.length xc, .string tx, .slice ka ks.length kc] 39)
                have O4 := hown.alloc (.cells #[.int .i64 kd, .int .i64 sq, .string nm, .slice xa ats.length xc, .string tx, .slice ka ks.length kc] 39)
                have hels4 : ∀ i (hi : i < l.length), ElP (fun b => w.heap.size ≤ b ∧ b ≠ g) (w5'.alloc (.cells #[.int .i64 kd, .int .i64 sq, .string nm, .slice xa ats.length xc, .string tx, .slice ka ks.length kc] 39)) (sixV C i) (l[i]'hi) := fun i hi => (hels i hi).stay (fun b _ h2 => bA.block b h2) bA.size
                have he4 : Hid (ElP (N4 ≤ ·) (w5'.alloc (.cells #[.int .i64 kd, .int .i64 sq, .string nm, .slice xa ats.length xc, .string tx, .slice ka ks.length kc] 39)) (.agg #[.int .i64 kd, .int .i64 sq, .string nm, .slice xa ats.length xc, .string tx, .slice ka ks.length kc]) (ElB.mk kd sq nm ats tx ks)) := (HeP.out).stay (fun b _ h2 => bA.block b h2) bA.size
                have F4 : Fr p w (w5'.alloc (.cells #[.int .i64 kd, .int .i64 sq, .string nm, .slice xa ats.length xc, .string tx, .slice ka ks.length kc] 39)) := HF6.out.trans (Fr.of_below bA)
                have D4 : RdAt (w5'.alloc (.cells #[.int .i64 kd, .int .i64 sq, .string nm, .slice xa ats.length xc, .string tx, .slice ka ks.length kc] 39)) p s _ _ := HD6.out.keep bA
                have Hels4 : Hid (∀ i (hi : i < l.length), ElP (fun b => w.heap.size ≤ b ∧ b ≠ g) (w5'.alloc (.cells #[.int .i64 kd, .int .i64 sq, .string nm, .slice xa ats.length xc, .string tx, .slice ka ks.length kc] 39)) (sixV C i) (l[i]'hi)) := hels4
                have hC6 : Hid (C.length = l.length * 6) := hown.1
                have HN' : Hid (g < N4 ∧ w.heap.size ≤ N4) := ⟨hgN, hloN⟩
                clear hels hels4 bA hown
                go_wp2_with (at_builtin; refine wpList_append_at _ rfl (.tmp 88) (.tmp 94) 25 rfl w.heap.size 39 i0 (.agg #[.int .i64 0, .int .i64 0, .string ⟨#[]⟩, .slice none 0 0, .string ⟨#[]⟩, .slice none 0 0]) 6 96 Tryz.underlying25 Hi.out Hz0.out Hz1.out Hz2.out rfl (by decide) _ l.length C rfl O4 ⟨_, 0, none⟩ 1 1 [.int .i64 kd, .int .i64 sq, .string nm, .slice xa ats.length xc, .string tx, .slice ka ks.length kc] rfl rfl (six_cells _ _ _ _ _ _ _ _ _ (by first | rfl | simp | simp [World.setCell])) (by intro u hu; simp only [List.mem_cons, List.not_mem_nil, or_false] at hu; rcases hu with rfl | rfl | rfl | rfl | rfl | rfl <;> rfl) ?x3 ?x4 ?x5 ?_)
                case x3 => unfold maxLen; omega
                case x4 => omega
                case x5 => exact F4.size
                intro v' w5 ho5 hg5 hb5
                have HO5 : Hid (RowL w5 w.heap.size v' (l ++ [(ElB.mk kd sq nm ats tx ks)])) := RowL.more rfl hC6.out Hels4.out HN'.out.1 HN'.out.2 he4.out ho5 hg5 (fun b hb => (hb5 b hb).imp (fun h => h) (fun h => by first | exact h | (simp; omega) | (simp [World.setCell]; omega)))
                have HF5 : Hid (Fr p w w5) := F4.grown O4 hg5
                have HD5 : Hid (RdAt w5 p s _ _) := D4.grown O4 hg5 hp
                have hl1 : (l ++ [(ElB.mk kd sq nm ats tx ks)]).length = l.length + 1 := by simp
                clear ho5 hg5 hb5 O4 F4 D4 Hels4 hC6 he4 HN' HO6 HF6 HD6
                go_wp2_with fail
                go_roundw
                case rel => exact ⟨l ++ [(ElB.mk kd sq nm ats tx ks)], by rw [hl1]; omega, HO5, HF5, .inl ⟨f', j, by omega, by omega, by omega, by rw [hl1]; omega, HRn, HD5⟩⟩
                case measure =>
                  rw [rdLeft_on HD5.out, HM.out]
                  omega
              · obtain ⟨kd, sq, nm, ats, tx, ks⟩ := e
                have HeP : Hid (ElP (N4 ≤ ·) w5' v (.mk kd sq nm ats tx ks)) := heP
                obtain ⟨av, ka, kc, ev, ⟨xa, xc, eav, _⟩, _⟩ := heP
                subst eav
                subst ev
                rw [hR] at hRk
                have HN : Hid (R = none) := hRk.symm
                have HD6 : Hid (RdAt w5' p s kx false) := hD
                clear hRk hR hD
                obtain ⟨gq, capq, C, eV, hown, hels⟩ := HO6.out
                cases eV
                have bA := (Below.refl w5'.heap.size w5').alloc (Nat.le_refl _) (.cells #[.int .i64 kd, .int .i64 sq, .string nm, .slice xa ats.length xc, .string tx, .slice ka ks.length kc] 39)
                have O4 := hown.alloc (.cells #[.int .i64 kd, .int .i64 sq, .string nm, .slice xa ats.length xc, .string tx, .slice ka ks.length kc] 39)
                have hels4 : ∀ i (hi : i < l.length), ElP (fun b => w.heap.size ≤ b ∧ b ≠ g) (w5'.alloc (.cells #[.int .i64 kd, .int .i64 sq, .string nm, .slice xa ats.length xc, .string tx, .slice ka ks.length kc] 39)) (sixV C i) (l[i]'hi) := fun i hi => (hels i hi).stay (fun b _ h2 => bA.block b h2) bA.size
                have he4 : Hid (ElP (N4 ≤ ·) (w5'.alloc (.cells #[.int .i64 kd, .int .i64 sq, .string nm, .slice xa ats.length xc, .string tx, .slice ka ks.length kc] 39)) (.agg #[.int .i64 kd, .int .i64 sq, .string nm, .slice xa ats.length xc, .string tx, .slice ka ks.length kc]) (ElB.mk kd sq nm ats tx ks)) := (HeP.out).stay (fun b _ h2 => bA.block b h2) bA.size
                have F4 : Fr p w (w5'.alloc (.cells #[.int .i64 kd, .int .i64 sq, .string nm, .slice xa ats.length xc, .string tx, .slice ka ks.length kc] 39)) := HF6.out.trans (Fr.of_below bA)
                have D4 : RdAt (w5'.alloc (.cells #[.int .i64 kd, .int .i64 sq, .string nm, .slice xa ats.length xc, .string tx, .slice ka ks.length kc] 39)) p s _ _ := HD6.out.keep bA
                have Hels4 : Hid (∀ i (hi : i < l.length), ElP (fun b => w.heap.size ≤ b ∧ b ≠ g) (w5'.alloc (.cells #[.int .i64 kd, .int .i64 sq, .string nm, .slice xa ats.length xc, .string tx, .slice ka ks.length kc] 39)) (sixV C i) (l[i]'hi)) := hels4
                have hC6 : Hid (C.length = l.length * 6) := hown.1
                have HN' : Hid (g < N4 ∧ w.heap.size ≤ N4) := ⟨hgN, hloN⟩
                clear hels hels4 bA hown
                go_wp2_with (at_builtin; refine wpList_append_at _ rfl (.tmp 88) (.tmp 94) 25 rfl w.heap.size 39 i0 (.agg #[.int .i64 0, .int .i64 0, .string ⟨#[]⟩, .slice none 0 0, .string ⟨#[]⟩, .slice none 0 0]) 6 96 Tryz.underlying25 Hi.out Hz0.out Hz1.out Hz2.out rfl (by decide) _ l.length C rfl O4 ⟨_, 0, none⟩ 1 1 [.int .i64 kd, .int .i64 sq, .string nm, .slice xa ats.length xc, .string tx, .slice ka ks.length kc] rfl rfl (six_cells _ _ _ _ _ _ _ _ _ (by first | rfl | simp | simp [World.setCell])) (by intro u hu; simp only [List.mem_cons, List.not_mem_nil, or_false] at hu; rcases hu with rfl | rfl | rfl | rfl | rfl | rfl <;> rfl) ?x3 ?x4 ?x5 ?_)
                case x3 => unfold maxLen; omega
                case x4 => omega
                case x5 => exact F4.size
                intro v' w5 ho5 hg5 hb5
                have HO5 : Hid (RowL w5 w.heap.size v' (l ++ [(ElB.mk kd sq nm ats tx ks)])) := RowL.more rfl hC6.out Hels4.out HN'.out.1 HN'.out.2 he4.out ho5 hg5 (fun b hb => (hb5 b hb).imp (fun h => h) (fun h => by first | exact h | (simp; omega) | (simp [World.setCell]; omega)))
                have HF5 : Hid (Fr p w w5) := F4.grown O4 hg5
                have HD5 : Hid (RdAt w5 p s _ _) := D4.grown O4 hg5 hp
                have hl1 : (l ++ [(ElB.mk kd sq nm ats tx ks)]).length = l.length + 1 := by simp
                clear ho5 hg5 hb5 O4 F4 D4 Hels4 hC6 he4 HN' HO6 HF6 HD6
                go_wp2_with fail
                go_roundw
                case rel => exact ⟨l ++ [(ElB.mk kd sq nm ats tx ks)], by rw [hl1]; omega, HO5, HF5, .inr ⟨HN, _, HD5⟩⟩
                case measure =>
                  rw [rdLeft_off HD5.out, HM.out]
                  omega
            · rw [ed, if_neg (fun e => h60 (Option.some.inj e))] at hRk
              have g60 : (((s[k]'hlt).toNat : Int) == 60) = false := by
                rw [beq_eq_false_iff_ne]
                intro e
                apply h60
                exact UInt8.toNat_inj.1 (by show (s[k]'hlt).toNat = 60; omega)
              have hxt := xtI_lt hlt (by rw [ed]; exact fun e => h60 (Option.some.inj e))
              go_upto_region 10 with fail
              go_quiet (fail)
              have bn := drew_kd (Below.refl w3.heap.size w3) nq
              have HO4 : Hid (RowL (w3.drewN nq) w.heap.size _ l) := HO3.out.keep bn
              have HF4 : Hid (Fr p w (w3.drewN nq)) := HF3.out.trans (Fr.of_below bn)
              have HD4 : Hid (RdAt (w3.drewN nq) p s (k : Int) true) := HD3.out.keep bn
              clear bn c0 c1 c2 z1 z2 HO3 HF3 HD3
              generalize w3.drewN nq = w4 at *
              have c0 := HD4.out.c0
              have c1 := HD4.out.c1
              have c2 := HD4.out.c2
              have z1 := HD4.out.fz 1
              have z2 := HD4.out.fz 2
              have HX : Hid (∀ W, Calls Tryz.prog 58 #[.string s, .int .i64 (k : Int), .string ⟨#[60]⟩] W fun r w' => r = .returned (.tuple #[.string (xtS s (k : Int) ltS), .int .i64 (xtI s (k : Int) ltS)]) ∧ Below W.heap.size W w') := fun W => specXmlText s _ ltS W hs (by decide)
              generalize xtI s (k : Int) ltS = xi at *
              generalize xtS s (k : Int) ltS = xs at *
              have cN := fun d os => Calls.regrown_of (w := w4) (HX.out (Sort.grow (redrawn w4 d) os))
              have y0 := cell_regrown c0
              have y1 := cell_regrown c1
              go_upto_region 12 with fail
              refine wp_region_quiet_below (by kernel_rfl) (by kernel_rfl) ?_
              repeat (go_big_quiet_step (first | exact cN _ _))
              refine wpQuiet_nil ?_
              intro _ hw'
              obtain ⟨⟨dq, osq⟩, hw''⟩ := hw'
              subst hw''
              have bq := below_regrown w4 dq osq
              have HO5 : Hid (RowL (Sort.grow (redrawn w4 dq) osq) w.heap.size _ l) := HO4.out.keep bq
              have HF5 : Hid (Fr p w (Sort.grow (redrawn w4 dq) osq)) := HF4.out.trans (Fr.of_below bq)
              have HD5 : Hid (RdAt (Sort.grow (redrawn w4 dq) osq) p s (k : Int) true) := HD4.out.keep bq
              clear bq c0 c1 c2 z1 z2 HO4 HF4 HD4 cN y0 y1 HX
              generalize Sort.grow (redrawn w4 dq) osq = w5x at *
              have c2 := HD5.out.c2
              have z2 := HD5.out.fz 2
              have hgN : g < w5x.heap.size := by
                obtain ⟨_, _, e, _, h2⟩ := HO5.out.form
                cases e
                exact h2
              have hloN : w.heap.size ≤ w5x.heap.size := HF5.out.size
              by_cases hx0 : xi < 0
              · rw [if_pos hx0] at hRk
                have HN : Hid (R = none) := hRk.symm
                have gx : ¬ (0 : Int) ≤ xi := by omega
                have gx' : decide ((0 : Int) ≤ xi) = false := decide_eq_false gx
                clear hRk hxt
                have HDs : Hid (RdAt (w5x.setCell ⟨p, 2, none⟩ (.bool false)) p s (k : Int) false) := HD5.out.set2 false
                have HD6 : Hid (RdAt ((w5x.setCell ⟨p, 2, none⟩ (.bool false)).setCell ⟨p, 1, none⟩ (.int .i64 0)) p s 0 false) := HDs.out.set1 _
                have HF6 : Hid (Fr p w ((w5x.setCell ⟨p, 2, none⟩ (.bool false)).setCell ⟨p, 1, none⟩ (.int .i64 0))) := (HF5.out.trans (Fr.set _ _ _)).trans (Fr.set _ _ _)
                have HO6 : Hid (RowL ((w5x.setCell ⟨p, 2, none⟩ (.bool false)).setCell ⟨p, 1, none⟩ (.int .i64 0)) w.heap.size _ l) := (HO5.out.fr (Fr.set _ 2 (.bool false)) hp).fr (Fr.set _ 1 (.int .i64 0)) hp
                have c1 := HDs.out.c1
                have z1 := HDs.out.fz 1
                have HMx := specMaxE xi 0 (w5x.setCell ⟨p, 2, none⟩ (.bool false))
                rw [if_neg (by omega)] at HMx
                clear HO5 HF5 HD5 HDs
                go_wp2_with fail
                refine HMx.mono ?_
                rintro r w6 ⟨rfl, rfl⟩
                clear HMx
                obtain ⟨gq, capq, C, eV, hown, hels⟩ := HO6.out
                cases eV
                have bA := (Below.refl ((w5x.setCell ⟨p, 2, none⟩ (.bool false)).setCell ⟨p, 1, none⟩ (.int .i64 0)).heap.size ((w5x.setCell ⟨p, 2, none⟩ (.bool false)).setCell ⟨p, 1, none⟩ (.int .i64 0))).alloc (Nat.le_refl _) (.cells #[.int .i64 2, .int .i64 0, .string ⟨#[]⟩, .slice none 0 0, .string xs, .slice none 0 0] 39)
                have O4 := hown.alloc (.cells #[.int .i64 2, .int .i64 0, .string ⟨#[]⟩, .slice none 0 0, .string xs, .slice none 0 0] 39)
                have hels4 : ∀ i (hi : i < l.length), ElP (fun b => w.heap.size ≤ b ∧ b ≠ g) (((w5x.setCell ⟨p, 2, none⟩ (.bool false)).setCell ⟨p, 1, none⟩ (.int .i64 0)).alloc (.cells #[.int .i64 2, .int .i64 0, .string ⟨#[]⟩, .slice none 0 0, .string xs, .slice none 0 0] 39)) (sixV C i) (l[i]'hi) := fun i hi => (hels i hi).stay (fun b _ h2 => bA.block b h2) bA.size
                have he4 : Hid (ElP (w5x.heap.size ≤ ·) (((w5x.setCell ⟨p, 2, none⟩ (.bool false)).setCell ⟨p, 1, none⟩ (.int .i64 0)).alloc (.cells #[.int .i64 2, .int .i64 0, .string ⟨#[]⟩, .slice none 0 0, .string xs, .slice none 0 0] 39)) (.agg #[.int .i64 2, .int .i64 0, .string ⟨#[]⟩, .slice none 0 0, .string xs, .slice none 0 0]) (ElB.mk 2 0 ⟨#[]⟩ [] xs [])) := (ElP.note _ _ 2 xs).stay (fun b _ h2 => bA.block b h2) bA.size
                have F4 : Fr p w (((w5x.setCell ⟨p, 2, none⟩ (.bool false)).setCell ⟨p, 1, none⟩ (.int .i64 0)).alloc (.cells #[.int .i64 2, .int .i64 0, .string ⟨#[]⟩, .slice none 0 0, .string xs, .slice none 0 0] 39)) := HF6.out.trans (Fr.of_below bA)
                have D4 : RdAt (((w5x.setCell ⟨p, 2, none⟩ (.bool false)).setCell ⟨p, 1, none⟩ (.int .i64 0)).alloc (.cells #[.int .i64 2, .int .i64 0, .string ⟨#[]⟩, .slice none 0 0, .string xs, .slice none 0 0] 39)) p s _ _ := HD6.out.keep bA
                have Hels4 : Hid (∀ i (hi : i < l.length), ElP (fun b => w.heap.size ≤ b ∧ b ≠ g) (((w5x.setCell ⟨p, 2, none⟩ (.bool false)).setCell ⟨p, 1, none⟩ (.int .i64 0)).alloc (.cells #[.int .i64 2, .int .i64 0, .string ⟨#[]⟩, .slice none 0 0, .string xs, .slice none 0 0] 39)) (sixV C i) (l[i]'hi)) := hels4
                have hC6 : Hid (C.length = l.length * 6) := hown.1
                have HN' : Hid (g < w5x.heap.size ∧ w.heap.size ≤ w5x.heap.size) := ⟨hgN, hloN⟩
                clear hels hels4 bA hown
                go_wp2_with (at_builtin; refine wpList_append_at _ rfl (.tmp 118) (.tmp 121) 25 rfl w.heap.size 39 i0 (.agg #[.int .i64 0, .int .i64 0, .string ⟨#[]⟩, .slice none 0 0, .string ⟨#[]⟩, .slice none 0 0]) 6 96 Tryz.underlying25 Hi.out Hz0.out Hz1.out Hz2.out rfl (by decide) _ l.length C rfl O4 ⟨_, 0, none⟩ 1 1 [.int .i64 2, .int .i64 0, .string ⟨#[]⟩, .slice none 0 0, .string xs, .slice none 0 0] rfl rfl (six_cells _ _ _ _ _ _ _ _ _ (by first | rfl | simp | simp [World.setCell])) (by intro u hu; simp only [List.mem_cons, List.not_mem_nil, or_false] at hu; rcases hu with rfl | rfl | rfl | rfl | rfl | rfl <;> rfl) ?x3 ?x4 ?x5 ?_)
                case x3 => unfold maxLen; omega
                case x4 => omega
                case x5 => exact F4.size
                intro v' w5 ho5 hg5 hb5
                have HO5 : Hid (RowL w5 w.heap.size v' (l ++ [(ElB.mk 2 0 ⟨#[]⟩ [] xs [])])) := RowL.more rfl hC6.out Hels4.out HN'.out.1 HN'.out.2 he4.out ho5 hg5 (fun b hb => (hb5 b hb).imp (fun h => h) (fun h => by first | exact h | (simp; omega) | (simp [World.setCell]; omega)))
                have HF5 : Hid (Fr p w w5) := F4.grown O4 hg5
                have HD5 : Hid (RdAt w5 p s _ _) := D4.grown O4 hg5 hp
                have hl1 : (l ++ [(ElB.mk 2 0 ⟨#[]⟩ [] xs [])]).length = l.length + 1 := by simp
                clear ho5 hg5 hb5 O4 F4 D4 Hels4 hC6 he4 HN' HO6 HF6 HD6
                go_wp2_with fail
                go_roundw
                case rel => exact ⟨l ++ [(ElB.mk 2 0 ⟨#[]⟩ [] xs [])], by rw [hl1]; omega, HO5, HF5, .inr ⟨HN, _, HD5⟩⟩
                case measure =>
                  rw [rdLeft_off HD5.out, HM.out]
                  omega
              · rw [if_neg hx0] at hRk
                obtain ⟨j, rfl, hj1, hj2, hj3⟩ := hxt hx0
                have ej : ((j : Nat) : Int).toNat = j := by omega
                rw [ej] at hRk
                have HRn : Hid ((kidsL s el f' j).map (fun r => ((l ++ [ElB.mk 2 0 ⟨#[]⟩ [] xs []]) ++ r.1, r.2)) = R) := by
                  show _ = _
                  rw [← hRk]
                  exact (kid_more (x := [ElB.mk 2 0 ⟨#[]⟩ [] xs []])).symm
                have gx : (0 : Int) ≤ (j : Int) := by omega
                have gx' : decide ((0 : Int) ≤ (j : Int)) = true := decide_eq_true gx
                clear hRk hxt
                have HDs : Hid (RdAt (w5x.setCell ⟨p, 2, none⟩ (.bool true)) p s (k : Int) true) := HD5.out.set2 true
                have HD6 : Hid (RdAt ((w5x.setCell ⟨p, 2, none⟩ (.bool true)).setCell ⟨p, 1, none⟩ (.int .i64 (j : Int))) p s (j : Int) true) := HDs.out.set1 _
                have HF6 : Hid (Fr p w ((w5x.setCell ⟨p, 2, none⟩ (.bool true)).setCell ⟨p, 1, none⟩ (.int .i64 (j : Int)))) := (HF5.out.trans (Fr.set _ _ _)).trans (Fr.set _ _ _)
                have HO6 : Hid (RowL ((w5x.setCell ⟨p, 2, none⟩ (.bool true)).setCell ⟨p, 1, none⟩ (.int .i64 (j : Int))) w.heap.size _ l) := (HO5.out.fr (Fr.set _ 2 (.bool true)) hp).fr (Fr.set _ 1 (.int .i64 (j : Int))) hp
                have c1 := HDs.out.c1
                have z1 := HDs.out.fz 1
                have HMx := specMaxE (j : Int) 0 (w5x.setCell ⟨p, 2, none⟩ (.bool true))
                rw [if_pos (by omega)] at HMx
                clear HO5 HF5 HD5 HDs
                go_wp2_with fail
                refine HMx.mono ?_
                rintro r w6 ⟨rfl, rfl⟩
                clear HMx
                obtain ⟨gq, capq, C, eV, hown, hels⟩ := HO6.out
                cases eV
                have bA := (Below.refl ((w5x.setCell ⟨p, 2, none⟩ (.bool true)).setCell ⟨p, 1, none⟩ (.int .i64 (j : Int))).heap.size ((w5x.setCell ⟨p, 2, none⟩ (.bool true)).setCell ⟨p, 1, none⟩ (.int .i64 (j : Int)))).alloc (Nat.le_refl _) (.cells #[.int .i64 2, .int .i64 0, .string ⟨#[]⟩, .slice none 0 0, .string xs, .slice none 0 0] 39)
                have O4 := hown.alloc (.cells #[.int .i64 2, .int .i64 0, .string ⟨#[]⟩, .slice none 0 0, .string xs, .slice none 0 0] 39)
                have hels4 : ∀ i (hi : i < l.length), ElP (fun b => w.heap.size ≤ b ∧ b ≠ g) (((w5x.setCell ⟨p, 2, none⟩ (.bool true)).setCell ⟨p, 1, none⟩ (.int .i64 (j : Int))).alloc (.cells #[.int .i64 2, .int .i64 0, .string ⟨#[]⟩, .slice none 0 0, .string xs, .slice none 0 0] 39)) (sixV C i) (l[i]'hi) := fun i hi => (hels i hi).stay (fun b _ h2 => bA.block b h2) bA.size
                have he4 : Hid (ElP (w5x.heap.size ≤ ·) (((w5x.setCell ⟨p, 2, none⟩ (.bool true)).setCell ⟨p, 1, none⟩ (.int .i64 (j : Int))).alloc (.cells #[.int .i64 2, .int .i64 0, .string ⟨#[]⟩, .slice none 0 0, .string xs, .slice none 0 0] 39)) (.agg #[.int .i64 2, .int .i64 0, .string ⟨#[]⟩, .slice none 0 0, .string xs, .slice none 0 0]) (ElB.mk 2 0 ⟨#[]⟩ [] xs [])) := (ElP.note _ _ 2 xs).stay (fun b _ h2 => bA.block b h2) bA.size
                have F4 : Fr p w (((w5x.setCell ⟨p, 2, none⟩ (.bool true)).setCell ⟨p, 1, none⟩ (.int .i64 (j : Int))).alloc (.cells #[.int .i64 2, .int .i64 0, .string ⟨#[]⟩, .slice none 0 0, .string xs, .slice none 0 0] 39)) := HF6.out.trans (Fr.of_below bA)
                have D4 : RdAt (((w5x.setCell ⟨p, 2, none⟩ (.bool true)).setCell ⟨p, 1, none⟩ (.int .i64 (j : Int))).alloc (.cells #[.int .i64 2, .int .i64 0, .string ⟨#[]⟩, .slice none 0 0, .string xs, .slice none 0 0] 39)) p s _ _ := HD6.out.keep bA
                have Hels4 : Hid (∀ i (hi : i < l.length), ElP (fun b => w.heap.size ≤ b ∧ b ≠ g) (((w5x.setCell ⟨p, 2, none⟩ (.bool true)).setCell ⟨p, 1, none⟩ (.int .i64 (j : Int))).alloc (.cells #[.int .i64 2, .int .i64 0, .string ⟨#[]⟩, .slice none 0 0, .string xs, .slice none 0 0] 39)) (sixV C i) (l[i]'hi)) := hels4
                have hC6 : Hid (C.length = l.length * 6) := hown.1
                have HN' : Hid (g < w5x.heap.size ∧ w.heap.size ≤ w5x.heap.size) := ⟨hgN, hloN⟩
                clear hels hels4 bA hown
                go_wp2_with (at_builtin; refine wpList_append_at _ rfl (.tmp 118) (.tmp 121) 25 rfl w.heap.size 39 i0 (.agg #[.int .i64 0, .int .i64 0, .string ⟨#[]⟩, .slice none 0 0, .string ⟨#[]⟩, .slice none 0 0]) 6 96 Tryz.underlying25 Hi.out Hz0.out Hz1.out Hz2.out rfl (by decide) _ l.length C rfl O4 ⟨_, 0, none⟩ 1 1 [.int .i64 2, .int .i64 0, .string ⟨#[]⟩, .slice none 0 0, .string xs, .slice none 0 0] rfl rfl (six_cells _ _ _ _ _ _ _ _ _ (by first | rfl | simp | simp [World.setCell])) (by intro u hu; simp only [List.mem_cons, List.not_mem_nil, or_false] at hu; rcases hu with rfl | rfl | rfl | rfl | rfl | rfl <;> rfl) ?x3 ?x4 ?x5 ?_)
                case x3 => unfold maxLen; omega
                case x4 => omega
                case x5 => exact F4.size
                intro v' w5 ho5 hg5 hb5
                have HO5 : Hid (RowL w5 w.heap.size v' (l ++ [(ElB.mk 2 0 ⟨#[]⟩ [] xs [])])) := RowL.more rfl hC6.out Hels4.out HN'.out.1 HN'.out.2 he4.out ho5 hg5 (fun b hb => (hb5 b hb).imp (fun h => h) (fun h => by first | exact h | (simp; omega) | (simp [World.setCell]; omega)))
                have HF5 : Hid (Fr p w w5) := F4.grown O4 hg5
                have HD5 : Hid (RdAt w5 p s _ _) := D4.grown O4 hg5 hp
                have hl1 : (l ++ [(ElB.mk 2 0 ⟨#[]⟩ [] xs [])]).length = l.length + 1 := by simp
                clear ho5 hg5 hb5 O4 F4 D4 Hels4 hC6 he4 HN' HO6 HF6 HD6
                go_wp2_with fail
                go_roundw
                case rel => exact ⟨l ++ [(ElB.mk 2 0 ⟨#[]⟩ [] xs [])], by rw [hl1]; omega, HO5, HF5, .inl ⟨f', j, by omega, by omega, by omega, by rw [hl1]; omega, HRn, HD5⟩⟩
                case measure =>
                  rw [rdLeft_on HD5.out, HM.out]
                  omega
          · rw [hno] at HS2 hRk
            rw [if_pos rfl] at hRk
            have hxt := xoI_le (s := s) (i := k)
            go_upto_region 5 with fail
            go_quiet ((go_at_call 11; exact Calls.quiet_of_same (HS2.out _)))
            have bn := drew_kd (Below.refl w2.heap.size w2) nq
            have HO3 : Hid (RowL (w2.drewN nq) w.heap.size _ l) := HO2.out.keep bn
            have HF3 : Hid (Fr p w (w2.drewN nq)) := HF2.out.trans (Fr.of_below bn)
            have HD3 : Hid (RdAt (w2.drewN nq) p s (k : Int) true) := HD2.out.keep bn
            clear bn c0 c1 c2 z1 z2 HO2 HF2 HD2
            generalize w2.drewN nq = w3 at *
            have c0 := HD3.out.c0
            have c1 := HD3.out.c1
            have c2 := HD3.out.c2
            have z1 := HD3.out.fz 1
            have z2 := HD3.out.fz 2
            clear HS2
            have HX : Hid (∀ W, Calls Tryz.prog 12 #[.string s, .int .i64 (k : Int)] W fun r w' => r = .returned (.tuple #[.string (xoS s (k : Int)), .int .i64 (xoI s (k : Int))]) ∧ Below W.heap.size W w') := fun W => specXmlNote s _ W hs
            generalize xoI s (k : Int) = xi at *
            generalize xoS s (k : Int) = xs at *
            have cN := fun d os => Calls.regrown_of (w := w3) (HX.out (Sort.grow (redrawn w3 d) os))
            have y0 := cell_regrown c0
            have y1 := cell_regrown c1
            go_upto_region 6 with fail
            refine wp_region_quiet_below (by kernel_rfl) (by kernel_rfl) ?_
            repeat (go_big_quiet_step (first | exact cN _ _))
            refine wpQuiet_nil ?_
            intro _ hw'
            obtain ⟨⟨dq, osq⟩, hw''⟩ := hw'
            subst hw''
            have bq := below_regrown w3 dq osq
            have HO4 : Hid (RowL (Sort.grow (redrawn w3 dq) osq) w.heap.size _ l) := HO3.out.keep bq
            have HF4 : Hid (Fr p w (Sort.grow (redrawn w3 dq) osq)) := HF3.out.trans (Fr.of_below bq)
            have HD4 : Hid (RdAt (Sort.grow (redrawn w3 dq) osq) p s (k : Int) true) := HD3.out.keep bq
            clear bq c0 c1 c2 z1 z2 HO3 HF3 HD3 cN y0 y1 HX
            generalize Sort.grow (redrawn w3 dq) osq = w4 at *
            have c2 := HD4.out.c2
            have z2 := HD4.out.fz 2
            have hgN : g < w4.heap.size := by
              obtain ⟨_, _, e, _, h2⟩ := HO4.out.form
              cases e
              exact h2
            have hloN : w.heap.size ≤ w4.heap.size := HF4.out.size
            by_cases hx0 : xi < 0
            · rw [if_pos hx0] at hRk
              have HN : Hid (R = none) := hRk.symm
              have gx : ¬ (0 : Int) ≤ xi := by omega
              have gx' : decide ((0 : Int) ≤ xi) = false := decide_eq_false gx
              clear hRk hxt
              have HDs : Hid (RdAt (w4.setCell ⟨p, 2, none⟩ (.bool false)) p s (k : Int) false) := HD4.out.set2 false
              have HD6 : Hid (RdAt ((w4.setCell ⟨p, 2, none⟩ (.bool false)).setCell ⟨p, 1, none⟩ (.int .i64 0)) p s 0 false) := HDs.out.set1 _
              have HF6 : Hid (Fr p w ((w4.setCell ⟨p, 2, none⟩ (.bool false)).setCell ⟨p, 1, none⟩ (.int .i64 0))) := (HF4.out.trans (Fr.set _ _ _)).trans (Fr.set _ _ _)
              have HO6 : Hid (RowL ((w4.setCell ⟨p, 2, none⟩ (.bool false)).setCell ⟨p, 1, none⟩ (.int .i64 0)) w.heap.size _ l) := (HO4.out.fr (Fr.set _ 2 (.bool false)) hp).fr (Fr.set _ 1 (.int .i64 0)) hp
              have c1 := HDs.out.c1
              have z1 := HDs.out.fz 1
              have HMx := specMaxE xi 0 (w4.setCell ⟨p, 2, none⟩ (.bool false))
              rw [if_neg (by omega)] at HMx
              clear HO4 HF4 HD4 HDs
              go_wp2_with fail
              refine HMx.mono ?_
              rintro r w6 ⟨rfl, rfl⟩
              clear HMx
              obtain ⟨gq, capq, C, eV, hown, hels⟩ := HO6.out
              cases eV
              have bA := (Below.refl ((w4.setCell ⟨p, 2, none⟩ (.bool false)).setCell ⟨p, 1, none⟩ (.int .i64 0)).heap.size ((w4.setCell ⟨p, 2, none⟩ (.bool false)).setCell ⟨p, 1, none⟩ (.int .i64 0))).alloc (Nat.le_refl _) (.cells #[.int .i64 3, .int .i64 0, .string ⟨#[]⟩, .slice none 0 0, .string xs, .slice none 0 0] 39)
              have O4 := hown.alloc (.cells #[.int .i64 3, .int .i64 0, .string ⟨#[]⟩, .slice none 0 0, .string xs, .slice none 0 0] 39)
              have hels4 : ∀ i (hi : i < l.length), ElP (fun b => w.heap.size ≤ b ∧ b ≠ g) (((w4.setCell ⟨p, 2, none⟩ (.bool false)).setCell ⟨p, 1, none⟩ (.int .i64 0)).alloc (.cells #[.int .i64 3, .int .i64 0, .string ⟨#[]⟩, .slice none 0 0, .string xs, .slice none 0 0] 39)) (sixV C i) (l[i]'hi) := fun i hi => (hels i hi).stay (fun b _ h2 => bA.block b h2) bA.size
              have he4 : Hid (ElP (w4.heap.size ≤ ·) (((w4.setCell ⟨p, 2, none⟩ (.bool false)).setCell ⟨p, 1, none⟩ (.int .i64 0)).alloc (.cells #[.int .i64 3, .int .i64 0, .string ⟨#[]⟩, .slice none 0 0, .string xs, .slice none 0 0] 39)) (.agg #[.int .i64 3, .int .i64 0, .string ⟨#[]⟩, .slice none 0 0, .string xs, .slice none 0 0]) (ElB.mk 3 0 ⟨#[]⟩ [] xs [])) := (ElP.note _ _ 3 xs).stay (fun b _ h2 => bA.block b h2) bA.size
              have F4 : Fr p w (((w4.setCell ⟨p, 2, none⟩ (.bool false)).setCell ⟨p, 1, none⟩ (.int .i64 0)).alloc (.cells #[.int .i64 3, .int .i64 0, .string ⟨#[]⟩, .slice none 0 0, .string xs, .slice none 0 0] 39)) := HF6.out.trans (Fr.of_below bA)
              have D4 : RdAt (((w4.setCell ⟨p, 2, none⟩ (.bool false)).setCell ⟨p, 1, none⟩ (.int .i64 0)).alloc (.cells #[.int .i64 3, .int .i64 0, .string ⟨#[]⟩, .slice none 0 0, .string xs, .slice none 0 0] 39)) p s _ _ := HD6.out.keep bA
              have Hels4 : Hid (∀ i (hi : i < l.length), ElP (fun b => w.heap.size ≤ b ∧ b ≠ g) (((w4.setCell ⟨p, 2, none⟩ (.bool false)).setCell ⟨p, 1, none⟩ (.int .i64 0)).alloc (.cells #[.int .i64 3, .int .i64 0, .string ⟨#[]⟩, .slice none 0 0, .string xs, .slice none 0 0] 39)) (sixV C i) (l[i]'hi)) := hels4
              have hC6 : Hid (C.length = l.length * 6) := hown.1
              have HN' : Hid (g < w4.heap.size ∧ w.heap.size ≤ w4.heap.size) := ⟨hgN, hloN⟩
              clear hels hels4 bA hown
              go_wp2_with (at_builtin; refine wpList_append_at _ rfl (.tmp 73) (.tmp 76) 25 rfl w.heap.size 39 i0 (.agg #[.int .i64 0, .int .i64 0, .string ⟨#[]⟩, .slice none 0 0, .string ⟨#[]⟩, .slice none 0 0]) 6 96 Tryz.underlying25 Hi.out Hz0.out Hz1.out Hz2.out rfl (by decide) _ l.length C rfl O4 ⟨_, 0, none⟩ 1 1 [.int .i64 3, .int .i64 0, .string ⟨#[]⟩, .slice none 0 0, .string xs, .slice none 0 0] rfl rfl (six_cells _ _ _ _ _ _ _ _ _ (by first | rfl | simp | simp [World.setCell])) (by intro u hu; simp only [List.mem_cons, List.not_mem_nil, or_false] at hu; rcases hu with rfl | rfl | rfl | rfl | rfl | rfl <;> rfl) ?x3 ?x4 ?x5 ?_)
              case x3 => unfold maxLen; omega
              case x4 => omega
              case x5 => exact F4.size
              intro v' w5 ho5 hg5 hb5
              have HO5 : Hid (RowL w5 w.heap.size v' (l ++ [(ElB.mk 3 0 ⟨#[]⟩ [] xs [])])) := RowL.more rfl hC6.out Hels4.out HN'.out.1 HN'.out.2 he4.out ho5 hg5 (fun b hb => (hb5 b hb).imp (fun h => h) (fun h => by first | exact h | (simp; omega) | (simp [World.setCell]; omega)))
              have HF5 : Hid (Fr p w w5) := F4.grown O4 hg5
              have HD5 : Hid (RdAt w5 p s _ _) := D4.grown O4 hg5 hp
              have hl1 : (l ++ [(ElB.mk 3 0 ⟨#[]⟩ [] xs [])]).length = l.length + 1 := by simp
              clear ho5 hg5 hb5 O4 F4 D4 Hels4 hC6 he4 HN' HO6 HF6 HD6
              go_wp2_with fail
              go_roundw
              case rel => exact ⟨l ++ [(ElB.mk 3 0 ⟨#[]⟩ [] xs [])], by rw [hl1]; omega, HO5, HF5, .inr ⟨HN, _, HD5⟩⟩
              case measure =>
                rw [rdLeft_off HD5.out, HM.out]
                omega
            · rw [if_neg hx0] at hRk
              obtain ⟨j, rfl, hj1, hj2, hj3⟩ := hxt hx0
              have ej : ((j : Nat) : Int).toNat = j := by omega
              rw [ej] at hRk
              have HRn : Hid ((kidsL s el f' j).map (fun r => ((l ++ [ElB.mk 3 0 ⟨#[]⟩ [] xs []]) ++ r.1, r.2)) = R) := by
                show _ = _
                rw [← hRk]
                exact (kid_more (x := [ElB.mk 3 0 ⟨#[]⟩ [] xs []])).symm
              have gx : (0 : Int) ≤ (j : Int) := by omega
              have gx' : decide ((0 : Int) ≤ (j : Int)) = true := decide_eq_true gx
              clear hRk hxt
              have HDs : Hid (RdAt (w4.setCell ⟨p, 2, none⟩ (.bool true)) p s (k : Int) true) := HD4.out.set2 true
              have HD6 : Hid (RdAt ((w4.setCell ⟨p, 2, none⟩ (.bool true)).setCell ⟨p, 1, none⟩ (.int .i64 (j : Int))) p s (j : Int) true) := HDs.out.set1 _
              have HF6 : Hid (Fr p w ((w4.setCell ⟨p, 2, none⟩ (.bool true)).setCell ⟨p, 1, none⟩ (.int .i64 (j : Int)))) := (HF4.out.trans (Fr.set _ _ _)).trans (Fr.set _ _ _)
              have HO6 : Hid (RowL ((w4.setCell ⟨p, 2, none⟩ (.bool true)).setCell ⟨p, 1, none⟩ (.int .i64 (j : Int))) w.heap.size _ l) := (HO4.out.fr (Fr.set _ 2 (.bool true)) hp).fr (Fr.set _ 1 (.int .i64 (j : Int))) hp
              have c1 := HDs.out.c1
              have z1 := HDs.out.fz 1
              have HMx := specMaxE (j : Int) 0 (w4.setCell ⟨p, 2, none⟩ (.bool true))
              rw [if_pos (by omega)] at HMx
              clear HO4 HF4 HD4 HDs
              go_wp2_with fail
              refine HMx.mono ?_
              rintro r w6 ⟨rfl, rfl⟩
              clear HMx
              obtain ⟨gq, capq, C, eV, hown, hels⟩ := HO6.out
              cases eV
              have bA := (Below.refl ((w4.setCell ⟨p, 2, none⟩ (.bool true)).setCell ⟨p, 1, none⟩ (.int .i64 (j : Int))).heap.size ((w4.setCell ⟨p, 2, none⟩ (.bool true)).setCell ⟨p, 1, none⟩ (.int .i64 (j : Int)))).alloc (Nat.le_refl _) (.cells #[.int .i64 3, .int .i64 0, .string ⟨#[]⟩, .slice none 0 0, .string xs, .slice none 0 0] 39)
              have O4 := hown.alloc (.cells #[.int .i64 3, .int .i64 0, .string ⟨#[]⟩, .slice none 0 0, .string xs, .slice none 0 0] 39)
              have hels4 : ∀ i (hi : i < l.length), ElP (fun b => w.heap.size ≤ b ∧ b ≠ g) (((w4.setCell ⟨p, 2, none⟩ (.bool true)).setCell ⟨p, 1, none⟩ (.int .i64 (j : Int))).alloc (.cells #[.int .i64 3, .int .i64 0, .string ⟨#[]⟩, .slice none 0 0, .string xs, .slice none 0 0] 39)) (sixV C i) (l[i]'hi) := fun i hi => (hels i hi).stay (fun b _ h2 => bA.block b h2) bA.size
              have he4 : Hid (ElP (w4.heap.size ≤ ·) (((w4.setCell ⟨p, 2, none⟩ (.bool true)).setCell ⟨p, 1, none⟩ (.int .i64 (j : Int))).alloc (.cells #[.int .i64 3, .int .i64 0, .string ⟨#[]⟩, .slice none 0 0, .string xs, .slice none 0 0] 39)) (.agg #[.int .i64 3, .int .i64 0, .string ⟨#[]⟩, .slice none 0 0, .string xs, .slice none 0 0]) (ElB.mk 3 0 ⟨#[]⟩ [] xs [])) := (ElP.note _ _ 3 xs).stay (fun b _ h2 => bA.block b h2) bA.size
              have F4 : Fr p w (((w4.setCell ⟨p, 2, none⟩ (.bool true)).setCell ⟨p, 1, none⟩ (.int .i64 (j : Int))).alloc (.cells #[.int .i64 3, .int .i64 0, .string ⟨#[]⟩, .slice none 0 0, .string xs, .slice none 0 0] 39)) := HF6.out.trans (Fr.of_below bA)
              have D4 : RdAt (((w4.setCell ⟨p, 2, none⟩ (.bool true)).setCell ⟨p, 1, none⟩ (.int .i64 (j : Int))).alloc (.cells #[.int .i64 3, .int .i64 0, .string ⟨#[]⟩, .slice none 0 0, .string xs, .slice none 0 0] 39)) p s _ _ := HD6.out.keep bA
              have Hels4 : Hid (∀ i (hi : i < l.length), ElP (fun b => w.heap.size ≤ b ∧ b ≠ g) (((w4.setCell ⟨p, 2, none⟩ (.bool true)).setCell ⟨p, 1, none⟩ (.int .i64 (j : Int))).alloc (.cells #[.int .i64 3, .int .i64 0, .string ⟨#[]⟩, .slice none 0 0, .string xs, .slice none 0 0] 39)) (sixV C i) (l[i]'hi)) := hels4
              have hC6 : Hid (C.length = l.length * 6) := hown.1
              have HN' : Hid (g < w4.heap.size ∧ w.heap.size ≤ w4.heap.size) := ⟨hgN, hloN⟩
              clear hels hels4 bA hown
              go_wp2_with (at_builtin; refine wpList_append_at _ rfl (.tmp 73) (.tmp 76) 25 rfl w.heap.size 39 i0 (.agg #[.int .i64 0, .int .i64 0, .string ⟨#[]⟩, .slice none 0 0, .string ⟨#[]⟩, .slice none 0 0]) 6 96 Tryz.underlying25 Hi.out Hz0.out Hz1.out Hz2.out rfl (by decide) _ l.length C rfl O4 ⟨_, 0, none⟩ 1 1 [.int .i64 3, .int .i64 0, .string ⟨#[]⟩, .slice none 0 0, .string xs, .slice none 0 0] rfl rfl (six_cells _ _ _ _ _ _ _ _ _ (by first | rfl | simp | simp [World.setCell])) (by intro u hu; simp only [List.mem_cons, List.not_mem_nil, or_false] at hu; rcases hu with rfl | rfl | rfl | rfl | rfl | rfl <;> rfl) ?x3 ?x4 ?x5 ?_)
              case x3 => unfold maxLen; omega
              case x4 => omega
              case x5 => exact F4.size
              intro v' w5 ho5 hg5 hb5
              have HO5 : Hid (RowL w5 w.heap.size v' (l ++ [(ElB.mk 3 0 ⟨#[]⟩ [] xs [])])) := RowL.more rfl hC6.out Hels4.out HN'.out.1 HN'.out.2 he4.out ho5 hg5 (fun b hb => (hb5 b hb).imp (fun h => h) (fun h => by first | exact h | (simp; omega) | (simp [World.setCell]; omega)))
              have HF5 : Hid (Fr p w w5) := F4.grown O4 hg5
              have HD5 : Hid (RdAt w5 p s _ _) := D4.grown O4 hg5 hp
              have hl1 : (l ++ [(ElB.mk 3 0 ⟨#[]⟩ [] xs [])]).length = l.length + 1 := by simp
              clear ho5 hg5 hb5 O4 F4 D4 Hels4 hC6 he4 HN' HO6 HF6 HD6
              go_wp2_with fail
              go_roundw
              case rel => exact ⟨l ++ [(ElB.mk 3 0 ⟨#[]⟩ [] xs [])], by rw [hl1]; omega, HO5, HF5, .inl ⟨f', j, by omega, by omega, by omega, by rw [hl1]; omega, HRn, HD5⟩⟩
              case measure =>
                rw [rdLeft_on HD5.out, HM.out]
                omega
        · rw [if_pos (by omega)] at hRk
          have HN : Hid (R = none) := hRk.symm
          have g1 : (s.size : Int) ≤ (k : Int) := by omega
          have g1' : decide ((s.size : Int) ≤ (k : Int)) = true := decide_eq_true g1
          go_upto_region 3 with fail
          go_quiet (fail)
          have bn := drew_kd (Below.refl w1.heap.size w1) nq
          have HO2 : Hid (RowL (w1.drewN nq) w.heap.size _ l) := HO1.out.keep bn
          have HF2 : Hid (Fr p w (w1.drewN nq)) := HF1.out.trans (Fr.of_below bn)
          have HD2 : Hid (RdAt (w1.drewN nq) p s (k : Int) true) := HD1.out.keep bn
          clear bn c0 c1 c2 z1 z2 HO1 HF1 HD1
          generalize w1.drewN nq = w2 at *
          have c0 := HD2.out.c0
          have c1 := HD2.out.c1
          have c2 := HD2.out.c2
          have z1 := HD2.out.fz 1
          have z2 := HD2.out.fz 2
          have HO3 : Hid (RowL (w2.setCell ⟨p, 2, none⟩ (.bool false)) w.heap.size _ l) := HO2.out.fr (Fr.set w2 2 (.bool false)) hp
          have HF3 : Hid (Fr p w (w2.setCell ⟨p, 2, none⟩ (.bool false))) := HF2.out.trans (Fr.set _ _ _)
          have HD3 : Hid (RdAt (w2.setCell ⟨p, 2, none⟩ (.bool false)) p s (k : Int) false) := HD2.out.set2 false
          clear HO2 HF2 HD2 hRk
          go_wp2_with fail
          go_roundw
          case rel => exact ⟨l, hll, HO3, HF3, .inr ⟨HN, _, HD3⟩⟩
          case measure =>
            rw [rdLeft_off HD3.out, HM.out]
            omega
      · rw [hst] at HS1 hRk
        rw [if_pos rfl] at hRk
        have hR : R = some (l, k) := by rw [← hRk]; simp
        go_upto_region 2 with fail
        go_quiet ((go_at_call 11; exact Calls.quiet_of_same (HS1.out _)))
        have bn := drew_kd (Below.refl wr.heap.size wr) nq
        have HO1 : Hid (RowL (wr.drewN nq) w.heap.size _ l) := HO.out.keep bn
        have HF1 : Hid (Fr p w (wr.drewN nq)) := HF.out.trans (Fr.of_below bn)
        have HD1 : Hid (RdAt (wr.drewN nq) p s (k : Int) true) := HD.out.keep bn
        clear bn c0 c1 c2 z1 z2 HO HF HD
        generalize wr.drewN nq = w1 at *
        have c0 := HD1.out.c0
        have c1 := HD1.out.c1
        have c2 := HD1.out.c2
        have z1 := HD1.out.fz 1
        have z2 := HD1.out.fz 2
        clear HS1 HRk hRk
        go_wp2_with fail
        go_ret
        exact ⟨_, rfl, ⟨l, HO1.out, .inl ⟨k, hR, hik, hk, HD1.out⟩⟩, HF1.out⟩
    · have c0 := HD.out.c0
      have c1 := HD.out.c1
      have c2 := HD.out.c2
      have z1 := HD.out.fz 1
      have z2 := HD.out.fz 2
      go_upto_region 2 with fail
      go_quiet (fail)
      have bn := drew_kd (Below.refl wr.heap.size wr) nq
      have HO1 : Hid (RowL (wr.drewN nq) w.heap.size _ l) := HO.out.keep bn
      have HF1 : Hid (Fr p w (wr.drewN nq)) := HF.out.trans (Fr.of_below bn)
      have HD1 : Hid (RdAt (wr.drewN nq) p s k false) := HD.out.keep bn
      clear bn c0 c1 c2 z1 z2 HO HF HD
      generalize wr.drewN nq = w1 at *
      have c0 := HD1.out.c0
      have c1 := HD1.out.c1
      have c2 := HD1.out.c2
      have z1 := HD1.out.fz 1
      have z2 := HD1.out.fz 2
      go_wp2_with fail
      go_ret
      exact ⟨_, rfl, ⟨l, HO1.out, .inr ⟨HN.out, _, HD1.out⟩⟩, HF1.out⟩

end Go.Proofs.YtkngdlbedelgnaaGreatDoor.Sg

namespace Go.Proofs.YtkngdlbedelgnaaGreatDoor.Sg
open Go.ChangeShapes Go.WideShapes Go.ChangeAt Go.RowKit

set_option maxRecDepth 20000 in
set_option maxHeartbeats 4000000 in
theorem kids_off (s : ByteArray) (p : Nat) (sp deep i : Int) (w : World) (h : RdAt w p s i false) :
    Calls Tryz.prog 29 #[.pointer (some ⟨p, 0, none⟩), .int .i64 sp, .int .i64 deep] w fun r w' => ∃ v, r = .returned v ∧ RowL w' w.heap.size v [] ∧ RdAt w' p s i false ∧ Fr p w w' := by
  have bA := (Below.refl w.heap.size w).alloc (Nat.le_refl _) (.cells #[] 39)
  have HO : Hid (RowL (w.alloc (.cells #[] 39)) w.heap.size (.slice (some ⟨w.heap.size, 0, none⟩) 0 0) []) := RowL.empty w w.heap.size (Nat.le_refl _)
  have HD : Hid (RdAt (w.alloc (.cells #[] 39)) p s i false) := h.keep bA
  have HF : Hid (Fr p w (w.alloc (.cells #[] 39))) := Fr.of_below bA
  have c0 := HD.out.c0
  have c1 := HD.out.c1
  have c2 := HD.out.c2
  clear bA h
  go_enter Tryz.func29, Tryz.ntmps29
  go_wp2_with fail
  refine wp_loop_rounds 1 ?_
  rw [rounds_succ]
  go_upto_region 2 with fail
  go_quiet (fail)
  have bn := drew_kd (Below.refl (w.alloc (.cells #[] 39)).heap.size (w.alloc (.cells #[] 39))) nq
  have HO1 : Hid (RowL ((w.alloc (.cells #[] 39)).drewN nq) w.heap.size (.slice (some ⟨w.heap.size, 0, none⟩) 0 0) []) := HO.out.keep bn
  have HF1 : Hid (Fr p w ((w.alloc (.cells #[] 39)).drewN nq)) := HF.out.trans (Fr.of_below bn)
  have HD1 : Hid (RdAt ((w.alloc (.cells #[] 39)).drewN nq) p s i false) := HD.out.keep bn
  clear bn c0 c1 c2 HO HF HD
  generalize (w.alloc (.cells #[] 39)).drewN nq = w1 at *
  go_wp2_with fail
  go_ret
  exact ⟨_, rfl, HO1.out, HD1.out, HF1.out⟩

/-- Six cells are written anew. -/
theorem Many.all6 {w : World} {c : Nat} {f : Nat → Value} (h : Many 6 w c f) (v0 v1 v2 v3 v4 v5 : Value) : Many 6 ((((((w.setCell ⟨c, 0, none⟩ v0).setCell ⟨c, 1, none⟩ v1).setCell ⟨c, 2, none⟩ v2).setCell ⟨c, 3, none⟩ v3).setCell ⟨c, 4, none⟩ v4).setCell ⟨c, 5, none⟩ v5) c (fun i => [v0, v1, v2, v3, v4, v5].getD i undef) := by
  have h1 := ((((((h.set (i := 0) v0).set (i := 1) v1).set (i := 2) v2).set (i := 3) v3).set (i := 4) v4).set (i := 5) v5)
  refine ⟨h1.1, fun i hi => ⟨(h1.2 i hi).1.trans ?_, (h1.2 i hi).2⟩⟩
  match i, hi with
  | 0, _ => rfl
  | 1, _ => rfl
  | 2, _ => rfl
  | 3, _ => rfl
  | 4, _ => rfl
  | 5, _ => rfl
theorem agr_all6 {lo c : Nat} (w : World) (h : c < lo) (v0 v1 v2 v3 v4 v5 : Value) : Agr lo w ((((((w.setCell ⟨c, 0, none⟩ v0).setCell ⟨c, 1, none⟩ v1).setCell ⟨c, 2, none⟩ v2).setCell ⟨c, 3, none⟩ v3).setCell ⟨c, 4, none⟩ v4).setCell ⟨c, 5, none⟩ v5) :=
  (((((Agr.set w 0 v0 h).trans (Agr.set _ 1 v1 h)).trans (Agr.set _ 2 v2 h)).trans (Agr.set _ 3 v3 h)).trans (Agr.set _ 4 v4 h)).trans (Agr.set _ 5 v5 h)

end Go.Proofs.YtkngdlbedelgnaaGreatDoor.Sg
