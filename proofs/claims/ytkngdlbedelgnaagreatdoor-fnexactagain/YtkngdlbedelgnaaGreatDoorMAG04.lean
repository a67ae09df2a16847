/- What the model's XmlAttr hands back, at any place; its contract. Contracts of the model's TextOk and TextOf. Attributes of a name. One attribute of several. Contract of the model's l15Attrs: attributes that are strict. Written by mk_elattrs.py. Plain: attributes of an element are read; their space. What the model's XmlName hands back, at any place; its contract. What the model's XmlText hands back, at any place; its contract. Contracts of the model's NoteOk and NoteOf. -/
import Derived.Test.YtkngdlbedelgnaaGreatDoorMAG13
import Derived.Test.YtkngdlbedelgnaaGreatDoorMAG02
import Derived.Test.YtkngdlbedelgnaaGreatDoorMAG03
import Derived.Lib.QuietBelow
import Derived.BigQuiet
import Derived.Deep.Cut
import Derived.Deep.CutRange
import Derived.Test.YtkngdlbedelgnaaGreatDoorMAG01
import Derived.Test.YtkngdlbedelgnaaGreatDoorMAG09
namespace Go.Proofs.YtkngdlbedelgnaaGreatDoor.Sg
open Go.ChangeShapes Go.WideShapes Go.ChangeAt Go.RowKit

def xaO (s : ByteArray) (i : Int) : Option (Nat × List UInt8 × Nat) := if 0 ≤ i ∧ i ≤ s.size then xattrR s i.toNat else none
def xaN (s : ByteArray) (i : Int) : ByteArray := ((xaO s i).map fun r => s.extract i.toNat r.1).getD ⟨#[]⟩
def xaV (s : ByteArray) (i : Int) : ByteArray := ((xaO s i).map fun r => strB r.2.1).getD ⟨#[]⟩
def xaI (s : ByteArray) (i : Int) : Int := ((xaO s i).map fun r => ((r.2.2 + 1 : Nat) : Int)).getD (-1)

theorem specXmlAttr (s : ByteArray) (i : Int) (w : World) (hs : s.size ≤ 1073741824) :
    Calls Tryz.prog 54 #[.string s, .int .i64 i] w fun e w' => e = .returned (.tuple #[.agg #[.string (xaN s i), .string (xaV s i)], .int .i64 (xaI s i)]) ∧ Below w.heap.size w w' := by
  by_cases h : 0 ≤ i ∧ i ≤ s.size
  · unfold xaN xaV xaI xaO
    rw [if_pos h]
    have C := specXmlAttr_in s i.toNat w (by omega) (by omega)
    rw [show ((i.toNat : Nat) : Int) = i by omega] at C
    refine C.mono fun e w' h => ⟨h.1.trans ?_, h.2⟩
    cases xattrR s i.toNat <;> rfl
  · unfold xaN xaV xaI xaO
    rw [if_neg h]
    exact specXmlAttr_out s i w (by omega)

end Go.Proofs.YtkngdlbedelgnaaGreatDoor.Sg

namespace Go.Proofs.YtkngdlbedelgnaaGreatDoor.Sg
open Go.ChangeShapes Go.WideShapes Go.ChangeAt Go.RowKit

theorem all_drop {p : Int → Bool} (zs : List Int) (k : Nat) (h : k < zs.length) : (zs.drop k).all p = (p (zs.getD k 0) && (zs.drop (k + 1)).all p) := by
  rw [List.drop_eq_getElem_cons h, List.all_cons]
  simp [h]

set_option maxHeartbeats 2000000 in
theorem specTextOk (s : ByteArray) (w : World) (hs : s.size ≤ 17592186044416) :
    Calls Tryz.prog 48 #[.string s] w fun e w' => e = .returned (.bool (stTextB s)) ∧ Below w.heap.size w w' := by
  have Hn : Hid (stTextB s = ((signsL s).all textB && cleanB s)) := rfl
  have hl := signsL_length s
  go_enter Tryz.func48, Tryz.ntmps48
  go_wp2_with fail
  refine (specSigns s _ hs).mono ?_
  rintro e w1 ⟨a, cap, rfl, o1, b1⟩
  have I1 : Hid (Ints w1 a (signsL s)) := o1.ints
  clear o1
  have Hc := fun W => specCleanOk s W hs
  generalize signsL s = zs at *
  generalize hlen : zs.length = n at *
  have Hlen : Hid (zs.length = n) := hlen
  clear hlen
  generalize cleanB s = cb at *
  go_wp2_with fail
  go_loopw [4] (fun i wr => ∃ k : Nat, k ≤ n ∧ i = .int .i64 k ∧ Hid (zs.all textB = (zs.drop k).all textB) ∧ Below w1.heap.size w1 wr) (fun i _ => n - (intOf i).toNat)
  case atStart => exact ⟨0, Nat.zero_le _, rfl, rfl, Below.refl _ _⟩
  case round =>
    obtain ⟨k, hk, rfl, Hk, hbel⟩ := hrel
    by_cases hlt : k < n
    · obtain ⟨b, o, rfl, hb, hc⟩ := I1.out.cell hbel (by rw [Hlen.out]; exact hlt)
      have hst := all_drop (p := textB) zs k (by rw [Hlen.out]; exact hlt)
      generalize hz : zs.getD k 0 = z at *
      clear hz
      have Hst : Hid (zs.all textB = (textB z && (zs.drop (k + 1)).all textB)) := Hk.out.trans hst
      clear hst Hk Hc
      have Hf := fun W => specIsText z W
      cases hf : textB z
      · have Hno : Hid (stTextB s = false) := by
          show _ = _
          rw [Hn.out, Hst.out, hf]
          rfl
        rw [hf] at Hf
        clear hf Hst Hn
        go_wp2_with fail
        refine (Hf _).mono ?_
        rintro e w2 ⟨rfl, rfl⟩
        go_wp2_with fail
        go_ret
        exact ⟨ret_bool Hno.out.symm, b1.trans (hbel.mono b1.size)⟩
      · have Hnx : Hid (zs.all textB = (zs.drop (k + 1)).all textB) := by
          show _ = _
          rw [Hst.out, hf]
          rfl
        rw [hf] at Hf
        clear hf Hst Hn
        go_wp2_with fail
        refine (Hf _).mono ?_
        rintro e w2 ⟨rfl, rfl⟩
        go_wp2_with fail
        go_roundw
        case rel => exact ⟨k + 1, by omega, by go_num, Hnx, hbel⟩
        case measure => simp [intOf]; omega
    · have Hall : Hid (stTextB s = cb) := by
        show _ = _
        have hd : zs.drop k = [] := List.drop_eq_nil_of_le (by have := Hlen.out; omega)
        rw [Hn.out, Hk.out, hd]
        rfl
      have g1 : decide ((k : Int) < (n : Int)) = false := decide_eq_false (by omega)
      clear Hn Hk I1
      go_wp2_with fail
      refine (Hc _).mono ?_
      rintro e w3 ⟨rfl, b3⟩
      go_wp2_with fail
      go_ret
      exact ⟨ret_bool Hall.out.symm, b1.trans ((hbel.trans (b3.mono hbel.size)).mono b1.size)⟩

end Go.Proofs.YtkngdlbedelgnaaGreatDoor.Sg

namespace Go.Proofs.YtkngdlbedelgnaaGreatDoor.Sg
open Go.ChangeShapes Go.WideShapes Go.ChangeAt Go.RowKit

/-- An attribute of that name is there. -/
def hasA (l : List AttrB) (x : ByteArray) : Bool := l.any fun p => p.1.toList == x.toList
theorem hasA_drop (l : List AttrB) (x : ByteArray) (k : Nat) (h : k < l.length) : hasA (l.drop k) x = (((l.getD k (ByteArray.empty, ByteArray.empty)).1.toList == x.toList) || hasA (l.drop (k + 1)) x) := by
  have e : l.getD k (ByteArray.empty, ByteArray.empty) = l[k]'h := by simp [List.getD, h]
  unfold hasA
  rw [List.drop_eq_getElem_cons h, List.any_cons, e]

set_option maxHeartbeats 2000000 in
theorem specHas (l : List AttrB) (x : ByteArray) (a : Option Addr) (n cap : Nat) (w : World) (ha : AttrsAt w a l) (hl : l.length = n) (hn : n ≤ 17592186044416) :
    Calls Tryz.prog 55 #[.slice a n cap, .string x] w fun e w' => e = .returned (.bool (hasA l x)) ∧ w' = w := by
  have Hl : Hid (l.length = n) := hl
  have Ha : Hid (AttrsAt w a l) := ha
  clear hl ha
  go_enter Tryz.func55, Tryz.ntmps55
  go_wp2
  go_loopw [5] (fun v wr => ∃ k : Nat, k ≤ n ∧ v = .int .i64 (k : Int) ∧ Hid (hasA l x = hasA (l.drop k) x) ∧ wr = w) (fun v _ => n - (intOf v).toNat)
  case atStart => exact ⟨0, Nat.zero_le _, rfl, rfl, rfl⟩
  case round =>
    obtain ⟨k, hk, rfl, Hsp, rfl⟩ := hrel
    by_cases hlt : k < n
    · have hkl : k < l.length := by rw [Hl.out]; exact hlt
      rcases Ha.out with h | ⟨b, rfl, hb, hc⟩
      · rw [h] at hkl
        exact absurd hkl (Nat.not_lt_zero _)
      have hd := hasA_drop l x k hkl
      obtain ⟨c1, _⟩ := hc k hkl
      clear hc hkl
      generalize (l.getD k (ByteArray.empty, ByteArray.empty)).1 = y at *
      cases hq : y.toList == x.toList
      · have Hn : Hid (hasA l x = hasA (l.drop (k + 1)) x) := by show _ = _; rw [Hsp.out, hd, hq]; rfl
        clear hd Hsp
        go_wp2
        go_roundw
        case rel => exact ⟨k + 1, by omega, by go_num, Hn, by first | trivial | rfl⟩
        case measure => simp [intOf]; omega
      · have Hn : Hid (hasA l x = true) := by show _ = _; rw [Hsp.out, hd, hq]; rfl
        clear hd Hsp
        go_wp2
        go_ret
        exact ⟨ret_bool Hn.out.symm, rfl⟩
    · have Hn : Hid (hasA l x = false) := by
        show _ = _
        rw [Hsp.out, List.drop_eq_nil_of_le (by have := Hl.out; omega)]
        rfl
      have g0 : decide ((k : Int) < (n : Int)) = false := decide_eq_false (by omega)
      clear Hsp
      go_wp2
      go_ret
      exact ⟨ret_bool Hn.out.symm, rfl⟩

end Go.Proofs.YtkngdlbedelgnaaGreatDoor.Sg

namespace Go.Proofs.YtkngdlbedelgnaaGreatDoor.Sg
open Go.ChangeShapes Go.WideShapes Go.ChangeAt Go.RowKit

theorem ret_bo {a b : Bool} (h : a = b) : Ending.returned (.bool a) = .returned (.bool b) := by rw [h]
theorem attrs_one {w : World} {a : Option Addr} {l : List AttrB} (h : AttrsAt w a l) (k : Nat) (hk : k < l.length) : ∃ b, a = some ⟨b, 0, none⟩ ∧ w.cell? ⟨b, k * 2, none⟩ = some (.string (l[k]'hk).1) ∧ w.cell? ⟨b, k * 2 + 1, none⟩ = some (.string (l[k]'hk).2) := by
  rcases h with h | ⟨b, h1, _, h3⟩
  · rw [h] at hk
    exact absurd hk (Nat.not_lt_zero _)
  · have h4 := h3 k hk
    simp only [List.getD, List.getElem?_eq_getElem hk, Option.getD_some] at h4
    exact ⟨b, h1, h4⟩

end Go.Proofs.YtkngdlbedelgnaaGreatDoor.Sg

namespace Go.Proofs.YtkngdlbedelgnaaGreatDoor.Sg
open Go.ChangeShapes Go.WideShapes Go.ChangeAt Go.RowKit

def xmlnsB : ByteArray := ⟨#[120, 109, 108, 110, 115]⟩
/-- One attribute is strict, and its name is new. -/
def attrSt (l : List AttrB) (k : Nat) (p : AttrB) : Bool := stNameB p.1 && (!(p.1.toList == xmlnsB.toList) && (stTextB p.2 && !hasA (l.take k) p.1))
/-- Attributes from a place on are strict. -/
def attrsSt (l : List AttrB) (k : Nat) : Bool := if h : k < l.length then attrSt l k (l[k]'h) && attrsSt l (k + 1) else true
  termination_by l.length - k
theorem attrsSt_step {l : List AttrB} {k : Nat} (h : k < l.length) : attrsSt l k = (attrSt l k (l[k]'h) && attrsSt l (k + 1)) := by rw [attrsSt, dif_pos h]
theorem attrsSt_end {l : List AttrB} {k : Nat} (h : ¬ k < l.length) : attrsSt l k = true := by rw [attrsSt, dif_neg h]
theorem ret_st {a b : Bool} (h : a = b) : Ending.returned (.bool a) = .returned (.bool b) := by rw [h]
theorem AttrsAt.first {w : World} {a : Option Addr} {l : List AttrB} (h : AttrsAt w a l) (k : Nat) : AttrsAt w a (l.take k) := by
  rcases h with h | ⟨b, h1, h2, h3⟩
  · left
    rw [h]
    simp
  · refine .inr ⟨b, h1, h2, fun j hj => ?_⟩
    rw [List.length_take] at hj
    have := h3 j (by omega)
    have e : (l.take k).getD j (ByteArray.empty, ByteArray.empty) = l.getD j (ByteArray.empty, ByteArray.empty) := by
      simp only [List.getD_eq_getElem?_getD]
      rw [List.getElem?_take_of_lt (by omega)]
    rw [e]
    exact this

set_option maxRecDepth 20000 in
set_option maxHeartbeats 8000000 in
theorem specAttrsSt (l : List AttrB) (a : Option Addr) (n cap : Nat) (w : World) (ha : AttrsAt w a l) (hl : l.length = n) (hn : n ≤ 16777216) (hcap : n ≤ cap) (hsz : ∀ p ∈ l, p.1.size ≤ 16777216 ∧ p.2.size ≤ 16777216) :
    Calls Tryz.prog 90 #[.slice a n cap] w fun e w' => e = .returned (.bool (attrsSt l 0)) ∧ Below w.heap.size w w' := by
  have HA : Hid (AttrsAt w a l) := ha
  have Hl : Hid (l.length = n) := hl
  have HW : Hid (∀ p ∈ l, p.1.size ≤ 16777216 ∧ p.2.size ≤ 16777216) := hsz
  obtain ⟨R, HR⟩ : ∃ R, Hid (attrsSt l 0 = R) := ⟨_, rfl⟩
  rw [HR.out]
  clear ha hl hsz
  go_enter Tryz.func90, Tryz.ntmps90
  go_wp2_with fail
  go_loopw [3] (fun iv wr => ∃ k : Nat, k ≤ n ∧ iv = .int .i64 (k : Int) ∧ Hid (attrsSt l k = R) ∧ Below w.heap.size w wr) (fun iv _ => n - (intOf iv).toNat)
  case atStart => exact ⟨0, Nat.zero_le _, rfl, HR, Below.refl _ _⟩
  case round =>
    clear HR
    obtain ⟨k, hk, rfl, HR, hbel⟩ := hrel
    by_cases hlt : k < n
    · have hkl : k < l.length := by rw [Hl.out]; exact hlt
      have HAr : Hid (AttrsAt wr a l) := HA.out.below hbel
      obtain ⟨b, rfl, c0, c1⟩ := attrs_one HAr.out k hkl
      have hp := HW.out _ (List.getElem_mem hkl)
      have hst := HR.out
      rw [attrsSt_step hkl] at hst
      generalize l[k]'hkl = p at *
      clear hkl
      obtain ⟨x, v⟩ := p
      simp only at c0 c1 hp
      have HN := fun W => specNameOk x W (by omega)
      have HT := fun W => specTextOk v W (by omega)
      have HH : ∀ W, Below wr.heap.size wr W → Calls Tryz.prog 55 #[.slice (some ⟨b, 0, none⟩) k cap, .string x] W fun e w' => e = .returned (.bool (hasA (l.take k) x)) ∧ Below W.heap.size W w' := fun W hW => (specHas (l.take k) x (some ⟨b, 0, none⟩) k cap W ((HAr.out.below hW).first k) (by rw [List.length_take, Hl.out]; omega) (by omega)).mono fun e w' h => ⟨h.1, h.2 ▸ Below.refl _ _⟩
      have Hok : Hid (attrSt l k (x, v) = (stNameB x && (!(x.toList == xmlnsB.toList) && (stTextB v && !hasA (l.take k) x)))) := rfl
      have exm : xmlnsB.toList = [120, 109, 108, 110, 115] := ByteArray.toList_mk _
      generalize attrSt l k (x, v) = okb at *
      generalize hasA (l.take k) x = hb at *
      have k0 : (0 : Int) ≤ (k : Int) := by omega
      have k1 : (k : Int) < (n : Int) := by omega
      have k2 : (k : Int) ≤ (cap : Int) := by omega
      have HB : Hid (∀ wx : World, Below wr.heap.size wr wx → Below w.heap.size w wx) := fun wx h => hbel.trans (h.mono hbel.size)
      clear HAr HR
      have z0 := cell_regrown c0
      have z1 := cell_regrown c1
      cases hN : stNameB x
      · rw [hN] at HN Hok
        have Hno : Hid (R = false) := by show _ = _; rw [← hst, Hok.out]; simp
        clear hst Hok
        have cN := fun d os => Calls.regrown_of (w := wr) (HN (Sort.grow (redrawn wr d) os))
        clear HN HT HH
        go_upto_region 4 with fail
        refine wp_region_quiet_below (by kernel_rfl) (by kernel_rfl) ?_
        repeat (go_big_quiet_step (first | exact cN _ _))
        refine wpQuiet_nil ?_
        intro _ hw'
        obtain ⟨⟨dq, osq⟩, hw''⟩ := hw'
        subst hw''
        have bfin := HB.out _ (below_regrown wr dq osq)
        generalize Sort.grow (redrawn wr dq) osq = W at *
        go_wp2_with fail
        go_ret
        exact ⟨ret_st Hno.out.symm, bfin⟩
      · rw [hN] at HN Hok
        cases hX : (x.toList == [120, 109, 108, 110, 115])
        · rw [exm, hX] at Hok
          cases hT : stTextB v
          · rw [hT] at HT Hok
            have Hno : Hid (R = false) := by show _ = _; rw [← hst, Hok.out]; simp
            clear hst Hok
            have cN := fun d os => Calls.regrown_of (w := wr) (HN (Sort.grow (redrawn wr d) os))
            have cT := fun d os => Calls.regrown_of (w := wr) (HT (Sort.grow (redrawn wr d) os))
            clear HN HT HH
            go_upto_region 4 with fail
            refine wp_region_quiet_below (by kernel_rfl) (by kernel_rfl) ?_
            repeat (go_big_quiet_step (first | exact cN _ _ | exact cT _ _))
            refine wpQuiet_nil ?_
            intro _ hw'
            obtain ⟨⟨dq, osq⟩, hw''⟩ := hw'
            subst hw''
            have bfin := HB.out _ (below_regrown wr dq osq)
            generalize Sort.grow (redrawn wr dq) osq = W at *
            go_wp2_with fail
            go_ret
            exact ⟨ret_st Hno.out.symm, bfin⟩
          · rw [hT] at HT Hok
            cases hH : hb
            · rw [hH] at HH Hok
              have HR2 : Hid (attrsSt l (k + 1) = R) := by show _ = _; rw [← hst, Hok.out]; simp
              clear hst Hok
              have cN := fun d os => Calls.regrown_of (w := wr) (HN (Sort.grow (redrawn wr d) os))
              have cT := fun d os => Calls.regrown_of (w := wr) (HT (Sort.grow (redrawn wr d) os))
              have cH := fun d os => Calls.regrown_of (w := wr) (HH (Sort.grow (redrawn wr d) os) (below_regrown wr d os))
              clear HN HT HH
              go_upto_region 4 with fail
              refine wp_region_quiet_below (by kernel_rfl) (by kernel_rfl) ?_
              repeat (go_big_quiet_step (first | exact cN _ _ | exact cT _ _ | exact cH _ _))
              refine wpQuiet_nil ?_
              intro _ hw'
              obtain ⟨⟨dq, osq⟩, hw''⟩ := hw'
              subst hw''
              have bfin := HB.out _ (below_regrown wr dq osq)
              generalize Sort.grow (redrawn wr dq) osq = W at *
              go_wp2_with fail
              go_roundw
              case rel => exact ⟨k + 1, by omega, by go_num, HR2, bfin⟩
              case measure => simp [intOf]; omega
            · rw [hH] at HH Hok
              have Hno : Hid (R = false) := by show _ = _; rw [← hst, Hok.out]; simp
              clear hst Hok
              have cN := fun d os => Calls.regrown_of (w := wr) (HN (Sort.grow (redrawn wr d) os))
              have cT := fun d os => Calls.regrown_of (w := wr) (HT (Sort.grow (redrawn wr d) os))
              have cH := fun d os => Calls.regrown_of (w := wr) (HH (Sort.grow (redrawn wr d) os) (below_regrown wr d os))
              clear HN HT HH
              go_upto_region 4 with fail
              refine wp_region_quiet_below (by kernel_rfl) (by kernel_rfl) ?_
              repeat (go_big_quiet_step (first | exact cN _ _ | exact cT _ _ | exact cH _ _))
              refine wpQuiet_nil ?_
              intro _ hw'
              obtain ⟨⟨dq, osq⟩, hw''⟩ := hw'
              subst hw''
              have bfin := HB.out _ (below_regrown wr dq osq)
              generalize Sort.grow (redrawn wr dq) osq = W at *
              go_wp2_with fail
              go_ret
              exact ⟨ret_st Hno.out.symm, bfin⟩
        · rw [exm, hX] at Hok
          have Hno : Hid (R = false) := by show _ = _; rw [← hst, Hok.out]; simp
          clear hst Hok
          have cN := fun d os => Calls.regrown_of (w := wr) (HN (Sort.grow (redrawn wr d) os))
          clear HN HT HH
          go_upto_region 4 with fail
          refine wp_region_quiet_below (by kernel_rfl) (by kernel_rfl) ?_
          repeat (go_big_quiet_step (first | exact cN _ _))
          refine wpQuiet_nil ?_
          intro _ hw'
          obtain ⟨⟨dq, osq⟩, hw''⟩ := hw'
          subst hw''
          have bfin := HB.out _ (below_regrown wr dq osq)
          generalize Sort.grow (redrawn wr dq) osq = W at *
          go_wp2_with fail
          go_ret
          exact ⟨ret_st Hno.out.symm, bfin⟩
    · have Hf : Hid (R = true) := by
        show _ = _
        rw [← HR.out, attrsSt_end (by rw [Hl.out]; exact hlt)]
      have g1 : decide ((k : Int) < (n : Int)) = false := decide_eq_false (by omega)
      clear HR
      go_wp2_with fail
      go_ret
      exact ⟨ret_st Hf.out.symm, hbel⟩

end Go.Proofs.YtkngdlbedelgnaaGreatDoor.Sg

namespace Go.Proofs.YtkngdlbedelgnaaGreatDoor.Sg
open Go.ChangeShapes Go.WideShapes Go.ChangeAt Go.RowKit

/-- The space of a name, -1 of none. -/
def spaceG (v : ByteArray) : Nat → Nat → Int
  | 0, _ => -1
  | f + 1, k => if (spaceS (k : Int)).toList == v.toList then (k : Int) else spaceG v f (k + 1)
def spaceI (v : ByteArray) : Int := spaceG v 3 0
theorem xattrR_le {s : ByteArray} {k : Nat} {r : Nat × List UInt8 × Nat} (hk : k ≤ s.size) (h : xattrR s k = some r) : k + 3 ≤ r.2.2 ∧ r.2.2 + 1 ≤ s.size ∧ k ≤ r.1 ∧ (r.1 - k) + r.2.1.length ≤ 4 * (r.2.2 - k) := by
  unfold xattrR at h
  simp only at h
  have h1 := xnameE_le s (s.size - k) k true (Nat.le_refl _) hk
  split at h
  · cases h
  · rename_i h2
    have h3 : xnameE s true k ≠ k := fun e => h2 (.inl e)
    have h4 : standsB s (xnameE s true k) eqB = true := by
      cases e : standsB s (xnameE s true k) eqB
      · exact absurd (.inr e) h2
      · rfl
    have h5 := stands_le h4
    have h6 : eqB.size = 2 := rfl
    split at h
    · cases h
    · rename_i v m hx
      have h7 := xtextR_le s [34] (s.size - (xnameE s true k + 2)) (xnameE s true k + 2) (v, m) (Nat.le_refl _) (by omega) hx
      simp only at h7
      split at h
      · cases h
      · rename_i h8
        have h9 : m < s.size := by
          by_cases h10 : m < s.size
          · exact h10
          · exact absurd (.inl h10) h8
        injection h with h
        subst h
        simp only
        exact ⟨by omega, by omega, by omega, by omega⟩
theorem xaI_le {s : ByteArray} {i : Nat} (h : ¬ xaI s ((i : Int) + 1) < 0) : ∃ j : Nat, xaI s ((i : Int) + 1) = (j : Int) ∧ i + 2 ≤ j ∧ j ≤ s.size ∧ (xaN s ((i : Int) + 1)).size + (xaV s ((i : Int) + 1)).size ≤ 4 * (j - i) := by
  unfold xaI xaN xaV at *
  unfold xaO at *
  by_cases h1 : 0 ≤ (i : Int) + 1 ∧ (i : Int) + 1 ≤ s.size
  · rw [if_pos h1] at h ⊢
    have e : ((i : Int) + 1).toNat = i + 1 := by omega
    rw [e] at h ⊢
    cases hx : xattrR s (i + 1) with
    | none =>
      rw [hx] at h
      exact absurd (by decide) h
    | some r =>
      have h2 := xattrR_le (by omega) hx
      refine ⟨r.2.2 + 1, rfl, by omega, by omega, ?_⟩
      show (s.extract (i + 1) r.1).size + (strB r.2.1).size ≤ _
      rw [strB_size, ByteArray.size_extract]
      omega
  · rw [if_neg h1] at h
    exact absurd (by decide) h

/-- Attributes from place i on, the space that they tell, and where they end; none: refused. -/
def attrsR (s : ByteArray) (about : Int) : Nat → Nat → List AttrB → Int → Bool → Option (List AttrB × Int × Nat)
  | 0, _, _, _, _ => none
  | f + 1, i, out, sp, told =>
    if s.data[i]? = some 32 then
      if xaI s ((i : Int) + 1) < 0 then none
      else if hasA out (xaN s ((i : Int) + 1)) = true ∨ (((xaN s ((i : Int) + 1)).toList == xmlnsB.toList) = true ∧ told = true) then none
      else if ((xaN s ((i : Int) + 1)).toList == xmlnsB.toList) = true then
        if spaceI (xaV s ((i : Int) + 1)) = about then none else attrsR s about f (xaI s ((i : Int) + 1)).toNat out (spaceI (xaV s ((i : Int) + 1))) true
      else attrsR s about f (xaI s ((i : Int) + 1)).toNat (out ++ [(xaN s ((i : Int) + 1), xaV s ((i : Int) + 1))]) sp told
    else if 0 ≤ sp ∧ sp ≤ 2 then some (out, sp, i) else none

end Go.Proofs.YtkngdlbedelgnaaGreatDoor.Sg

namespace Go.Proofs.YtkngdlbedelgnaaGreatDoor.Sg
open Go.ChangeShapes Go.WideShapes Go.ChangeAt Go.RowKit

def xnS (s : ByteArray) (i : Int) : ByteArray := if 0 ≤ i ∧ i ≤ s.size then s.extract i.toNat (xnameE s true i.toNat) else ⟨#[]⟩
def xnI (s : ByteArray) (i : Int) : Int := if 0 ≤ i ∧ i ≤ s.size then (xnameE s true i.toNat : Int) else i

theorem specXmlName (s : ByteArray) (i : Int) (w : World) (hs : s.size ≤ 1073741824) :
    Calls Tryz.prog 27 #[.string s, .int .i64 i] w fun e w' => e = .returned (.tuple #[.string (xnS s i), .int .i64 (xnI s i)]) ∧ Below w.heap.size w w' := by
  by_cases h : 0 ≤ i ∧ i ≤ s.size
  · unfold xnS xnI
    rw [if_pos h, if_pos h]
    have C := specXmlName_in s i.toNat w (by omega) (by omega)
    rw [show ((i.toNat : Nat) : Int) = i by omega] at C
    exact C
  · unfold xnS xnI
    rw [if_neg h, if_neg h]
    exact (specXmlName_out s i w (by omega)).mono fun e w' h => ⟨h.1, h.2 ▸ Below.refl _ _⟩

end Go.Proofs.YtkngdlbedelgnaaGreatDoor.Sg

namespace Go.Proofs.YtkngdlbedelgnaaGreatDoor.Sg
open Go.ChangeShapes Go.WideShapes Go.ChangeAt Go.RowKit

def xtO (s : ByteArray) (i : Int) (e : ByteArray) : Option (List UInt8 × Nat) := if 0 ≤ i ∧ i ≤ s.size then xtextR s e.data.toList i.toNat else none
def xtS (s : ByteArray) (i : Int) (e : ByteArray) : ByteArray := ((xtO s i e).map fun r => strB r.1).getD ⟨#[]⟩
def xtI (s : ByteArray) (i : Int) (e : ByteArray) : Int := ((xtO s i e).map fun r => (r.2 : Int)).getD (-1)

theorem specXmlText (s : ByteArray) (i : Int) (e0 : ByteArray) (w : World) (hs : s.size ≤ 1073741824) (he : e0.size ≤ 1073741824) :
    Calls Tryz.prog 58 #[.string s, .int .i64 i, .string e0] w fun e w' => e = .returned (.tuple #[.string (xtS s i e0), .int .i64 (xtI s i e0)]) ∧ Below w.heap.size w w' := by
  by_cases h : 0 ≤ i ∧ i ≤ s.size
  · unfold xtS xtI xtO
    rw [if_pos h]
    have C := specXmlText_in s i.toNat e0 w (by omega) (by omega) (by omega)
    rw [show ((i.toNat : Nat) : Int) = i by omega] at C
    refine C.mono fun e w' h => ⟨h.1.trans ?_, h.2⟩
    cases xtextR s e0.data.toList i.toNat <;> rfl
  · unfold xtS xtI xtO
    rw [if_neg h]
    exact (specXmlText_out s i e0 w (by omega)).mono fun e w' h => ⟨h.1, h.2 ▸ Below.refl _ _⟩

end Go.Proofs.YtkngdlbedelgnaaGreatDoor.Sg

namespace Go.Proofs.YtkngdlbedelgnaaGreatDoor.Sg
open Go.ChangeShapes Go.WideShapes Go.ChangeAt Go.RowKit

theorem st_find_list (b : UInt8) (l : List UInt8) : (findL b l).isNone = l.all fun x => x != b := by
  induction l with
  | nil => rfl
  | cons x l ih =>
    rw [findL, List.all_cons, ← ih]
    by_cases h : x = b
    · simp [h]
    · simp [h]
theorem tail_all (s : ByteArray) : tailL s 0 = s.data.toList := by
  simp [tailL]
theorem st_find (s : ByteArray) (b : UInt8) : (findE s 0 b).isNone = s.data.toList.all fun x => x != b := by
  unfold findE
  rw [Option.isNone_map, st_find_list, tail_all]
theorem st_stands (s : ByteArray) (k : Nat) (h : k + 1 < s.size) : standsB s k ⟨#[45, 45]⟩ = (s[k]'(by omega) == 45 && s[k + 1]'h == 45) := by
  have h2 : (⟨#[45, 45]⟩ : ByteArray).size = 2 := rfl
  unfold standsB
  rw [h2, decide_eq_true (by omega), Bool.true_and]
  have e1 : (⟨#[45, 45]⟩ : ByteArray).toList = [45, 45] := ByteArray.toList_mk _
  have e2 : (s.extract k (k + 2)).toList = [s[k]'(by omega), s[k + 1]'h] := by
    rw [ByteArray.toList_eq, ByteArray.data_extract, Array.toList_extract]
    have h3 : (s.data.toList.drop k) = s[k]'(by omega) :: s[k + 1]'h :: s.data.toList.drop (k + 2) := by
      have a := tailL_step s k (by omega)
      have b := tailL_step s (k + 1) h
      rw [b] at a
      exact a
    show (s.data.toList.drop k).take (k + 2 - k) = _
    rw [show k + 2 - k = 2 by omega, h3]
    rfl
  rw [e1, e2]
  simp
theorem st_search (s : ByteArray) : ∀ (d k : Nat), s.size - k ≤ d → (searchE s k ⟨#[45, 45]⟩).isNone = noTwo (tailL s k) := by
  have h2 : (⟨#[45, 45]⟩ : ByteArray).size = 2 := rfl
  intro d
  induction d with
  | zero =>
    intro k hd
    rw [searchE_end (by rw [h2]; omega), tailL_end s k (by omega)]
    rfl
  | succ d ih =>
    intro k hd
    by_cases h : k + 1 < s.size
    · rw [tailL_step s k (by omega), tailL_step s (k + 1) h]
      have hs := st_stands s k h
      cases hc : standsB s k ⟨#[45, 45]⟩
      · rw [searchE_no (by rw [h2]; omega) hc, ih (k + 1) (by omega), tailL_step s (k + 1) h]
        conv => rhs; unfold noTwo
        rw [List.head?_cons]
        rw [hc] at hs
        rw [show (s[k]'(by omega) == 45 && some (s[k + 1]'h) == some 45) = false from hs.symm]
        rfl
      · rw [searchE_yes hc]
        rw [hc] at hs
        unfold noTwo
        rw [List.head?_cons]
        rw [show (s[k]'(by omega) == 45 && some (s[k + 1]'h) == some 45) = true from hs.symm]
        rfl
    · rw [searchE_end (by rw [h2]; omega)]
      by_cases h1 : k < s.size
      · rw [tailL_step s k h1, tailL_end s (k + 1) h]
        unfold noTwo
        simp [noTwo]
      · rw [tailL_end s k h1]
        rfl
theorem st_last (s : ByteArray) (m : Nat) (h : s.size = m + 1) : lastOk s.data.toList = (s[m]'(by omega) != 45) := by
  unfold lastOk
  have h2 : s.data.toList.length = s.size := Array.length_toList
  rw [List.getLast?_eq_getElem?, show s.data.toList.length - 1 = m by omega, List.getElem?_eq_getElem (by omega)]
  have e : s.data.toList[m]'(by omega) = s[m]'(by omega) := by
    simp [ByteArray.getElem_eq_getElem_data]
  rw [e]
  rfl

set_option maxHeartbeats 2000000 in
theorem specNoteOk (s : ByteArray) (w : World) (hs : s.size ≤ 1099511627776) :
    Calls Tryz.prog 26 #[.string s] w fun e w' => e = .returned (.bool (stNoteB s)) ∧ Below w.heap.size w w' := by
  have Hn : Hid (stNoteB s = (stTextB s && (findE s 0 13).isNone && (searchE s 0 ⟨#[45, 45]⟩).isNone && lastOk s.data.toList)) := by
    show _ = _
    rw [st_find, st_search s s.size 0 (by omega), tail_all]
    rfl
  have e0 : (⟨#[]⟩ : ByteArray).toList = [] := ByteArray.toList_mk _
  have Ht := fun W => specTextOk s W (by omega)
  have Hf := fun W => specFind s 0 13 W (Nat.zero_le _) (by omega)
  have Hq := fun W => specSearch s 0 ⟨#[45, 45]⟩ W (by omega) (by omega) (by decide)
  go_enter Tryz.func26, Tryz.ntmps26
  go_wp2_with fail
  refine (Ht _).mono ?_
  rintro e w1 ⟨rfl, b1⟩
  clear Ht
  cases ht : stTextB s
  · have Hno : Hid (stNoteB s = false) := by show _ = _; rw [Hn.out, ht]; rfl
    clear ht Hn Hf Hq
    go_wp2_with fail
    go_ret
    exact ⟨ret_bool Hno.out.symm, b1⟩
  rw [ht] at Hn
  clear ht
  go_wp2_with fail
  refine (Hf _).mono ?_
  rintro e w2 ⟨rfl, rfl⟩
  clear Hf
  cases hf : findE s 0 13
  case some m =>
    have Hno : Hid (stNoteB s = false) := by show _ = _; rw [Hn.out, hf]; rfl
    clear hf Hn Hq
    simp only [findV]
    go_wp2_with fail
    go_ret
    exact ⟨ret_bool Hno.out.symm, b1⟩
  rw [hf] at Hn
  clear hf
  simp only [findV]
  go_wp2_with fail
  refine (Hq _).mono ?_
  rintro e w2 ⟨rfl, rfl⟩
  clear Hq
  cases hq : searchE s 0 ⟨#[45, 45]⟩
  case some m =>
    have Hno : Hid (stNoteB s = false) := by show _ = _; rw [Hn.out, hq]; rfl
    clear hq Hn
    simp only [findV]
    go_wp2_with fail
    go_ret
    exact ⟨ret_bool Hno.out.symm, b1⟩
  rw [hq] at Hn
  clear hq
  simp only [findV]
  by_cases hz : s.size = 0
  · have := empty_of hz
    subst this
    go_wp2_with fail
    go_ret
    exact ⟨ret_bool (by rw [Hn.out]; rfl), b1⟩
  · have g2 := not_empty hz
    obtain ⟨m, hm⟩ : ∃ m, s.size = m + 1 := ⟨s.size - 1, by omega⟩
    have hlt : m < s.size := by omega
    have hl : lastOk s.data.toList = (s[m]'hlt != 45) := st_last s m hm
    rw [hl] at Hn
    clear hl
    have q1 : (s.size : Int) - 1 = (m : Int) := by omega
    clear hm hz
    cases hb : (s[m]'hlt != 45)
    · have Hno : Hid (stNoteB s = false) := by show _ = _; rw [Hn.out, hb]; rfl
      have g3 : ((s[m]'hlt).toNat : Int) = 45 := by
        rw [bne_eq_false_iff_eq] at hb
        rw [hb]
        rfl
      clear hb Hn
      go_wp2_with fail
      go_ret
      exact ⟨ret_bool Hno.out.symm, b1⟩
    · have Hno : Hid (stNoteB s = true) := by show _ = _; rw [Hn.out, hb]; rfl
      have g3 : (((s[m]'hlt).toNat : Int) != 45) = true := by
        rw [bne_iff_ne] at hb ⊢
        intro e
        exact hb (UInt8.toNat_inj.1 (by show _ = 45; omega))
      have g4 : (((s[m]'hlt).toNat : Int) == 45) = false := by
        rw [bne_iff_ne] at g3
        rw [beq_eq_false_iff_ne]
        exact g3
      clear hb Hn
      go_wp2_with fail
      go_ret
      exact ⟨ret_bool Hno.out.symm, b1⟩

end Go.Proofs.YtkngdlbedelgnaaGreatDoor.Sg
