/- Contract of the model's l19Attrs. Contracts of the model's ElSize and ElDeep. Contract of the model's l19Kids, out of one of l19El. Written by mk_rdkids.py. The model's l19Kids where all is refused already; six cells that are written anew. Contract of the model's l19El. Written by mk_rdel.py. Plain: how much an element that was read can hold. Contracts of the laws' elements compared: one with itself. Common to the laws of one element. Written by mk_ellaw.py. Contracts of the model's l15El and ElOk: elements that are strict. Written by mk_elok.py. Contract of the model's DocOk, and its law out of the program's contract. -/
import Derived.Test.YtbmmghkieolpkaaGreatDoorMW204
import Derived.Test.YtbmmghkieolpkaaGreatDoorMW207
import Derived.Lib.QuietBelow
import Derived.Deep.RegionHeld3
import Derived.Deep.Cut
import Derived.Deep.CutRange
import Derived.Deep.DeepCutAuto
import Derived.Deep.RegionWith
import Derived.Test.YtbmmghkieolpkaaGreatDoorMW201
import Derived.Test.YtbmmghkieolpkaaGreatDoorMW202
import Derived.BigQuiet
namespace Go.Proofs.YtbmmghkieolpkaaGreatDoor.Sg
open Go.ChangeShapes Go.WideShapes Go.ChangeAt Go.RowKit

def okOf : Option Value → Bool
  | some (.bool b) => b
  | _ => false
/-- How far a reader can still go. -/
def rdLeft (s : ByteArray) (p : Nat) (w : World) : Nat := if okOf (w.cell? ⟨p, 2, none⟩) then s.size + 2 - (intOf ((w.cell? ⟨p, 1, none⟩).getD undef)).toNat else 0
theorem rdLeft_on {w : World} {p : Nat} {s : ByteArray} {k : Nat} (h : RdAt w p s (k : Int) true) : rdLeft s p w = s.size + 2 - k := by
  unfold rdLeft
  rw [h.c2, h.c1]
  show (if true = true then s.size + 2 - k else 0) = _
  rw [if_pos rfl]
theorem rdLeft_off {w : World} {p : Nat} {s : ByteArray} {k : Int} (h : RdAt w p s k false) : rdLeft s p w = 0 := by
  unfold rdLeft
  rw [h.c2]
  rfl

theorem info_pairR : (Tryz.prog.info? 73).map (fun i => (i.zero, i.size, i.bytes)) = some (some (.agg #[.string ⟨#[]⟩, .string ⟨#[]⟩]), 2, 32) := by kernel_rfl
theorem empty_attrs (w : World) (B : Nat) (h : B ≤ w.heap.size) (t : TypeId) : (w.alloc (.cells #[] t)).ownsRow B t 2 (.slice (some ⟨w.heap.size, 0, none⟩) 0 0) 0 (attrCells []) :=
  ⟨rfl, .inr ⟨w.heap.size, 0, #[], rfl, h, by show (w.heap.push _)[w.heap.size]? = _; simp, Nat.le_refl _, Nat.zero_le _, rfl, rfl⟩⟩

theorem cell_al {w : World} {b o : Nat} {v : Value} {x : Obj} (h : w.cell? ⟨b, o, none⟩ = some v) : (w.alloc x).cell? ⟨b, o, none⟩ = some v := keep_cell ((Below.refl w.heap.size w).alloc (Nat.le_refl _) _) h

theorem cell_set2 {w : World} {g p o : Nat} {x y v : Value} (hg : g ≠ p) (h : w.cell? ⟨p, o, none⟩ = some v) : ((w.setCell ⟨g, 0, none⟩ x).setCell ⟨g, 1, none⟩ y).cell? ⟨p, o, none⟩ = some v :=
  (World.cell?_setCell_other _ _ _ _ (fun e => hg (congrArg Addr.block e))).trans ((World.cell?_setCell_other _ _ _ _ (fun e => hg (congrArg Addr.block e))).trans h)
theorem below_set {B c i : Nat} {a b : World} {v : Value} (h : Below B a b) (hc : B ≤ c) : Below B a (b.setCell ⟨c, i, none⟩ v) :=
  ⟨h.os, h.tape, h.output, by simpa [World.setCell] using h.size, fun k hk => (Below.heap_setCell _ _ _ _ (by show k ≠ c; omega)).trans (h.block k hk)⟩
theorem pair_set {w : World} {g : Nat} {a b x y : Value} (h0 : w.cell? ⟨g, 0, none⟩ = some a) (h1 : w.cell? ⟨g, 1, none⟩ = some b) : ((w.setCell ⟨g, 0, none⟩ x).setCell ⟨g, 1, none⟩ y).cell? ⟨g, 0, none⟩ = some x ∧ ((w.setCell ⟨g, 0, none⟩ x).setCell ⟨g, 1, none⟩ y).cell? ⟨g, 1, none⟩ = some y := by
  have e1 : (w.setCell ⟨g, 0, none⟩ x).cell? ⟨g, 1, none⟩ = some b := (World.cell?_setCell_other _ _ _ _ (by intro e; cases e)).trans h1
  exact ⟨(World.cell?_setCell_other _ _ _ _ (by intro e; cases e)).trans (World.cell?_setCell_same _ _ _ h0), World.cell?_setCell_same _ _ _ e1⟩
theorem pair_new {w1 w' : World} {x y : Value} {t : TypeId} (hb : Below w1.drew.heap.size w1.drew w') : ∃ g : Nat, Value.pointer (some ⟨w'.heap.size, 0, none⟩) = .pointer (some ⟨g, 0, none⟩) ∧ (w'.alloc (.cells #[x, y] t)).cell? ⟨g, 0, none⟩ = some x ∧ (w'.alloc (.cells #[x, y] t)).cell? ⟨g, 1, none⟩ = some y ∧ w1.heap.size ≤ g ∧ Below w1.heap.size w1 (w'.alloc (.cells #[x, y] t)) := by
  have h1 : Below w1.heap.size w1 w' := ((Below.refl _ _).drew).trans hb
  exact ⟨w'.heap.size, rfl, by simp, by simp, h1.size, h1.alloc h1.size _⟩
theorem pair_old {w1 w' : World} {a b x y : Value} {t : TypeId} (hb : Below (w1.alloc (.cells #[a, b] t)).drew.heap.size (w1.alloc (.cells #[a, b] t)).drew w') (h0 : w'.cell? ⟨w1.heap.size, 0, none⟩ = some a) (h1 : w'.cell? ⟨w1.heap.size, 1, none⟩ = some b) : ∃ g : Nat, Value.pointer (some ⟨w1.heap.size, 0, none⟩) = .pointer (some ⟨g, 0, none⟩) ∧ ((w'.setCell ⟨w1.heap.size, 0, none⟩ x).setCell ⟨w1.heap.size, 1, none⟩ y).cell? ⟨g, 0, none⟩ = some x ∧ ((w'.setCell ⟨w1.heap.size, 0, none⟩ x).setCell ⟨w1.heap.size, 1, none⟩ y).cell? ⟨g, 1, none⟩ = some y ∧ w1.heap.size ≤ g ∧ Below w1.heap.size w1 ((w'.setCell ⟨w1.heap.size, 0, none⟩ x).setCell ⟨w1.heap.size, 1, none⟩ y) := by
  have h2 : Below w1.heap.size w1 w' := (((Below.refl w1.heap.size w1).alloc (Nat.le_refl _) _).drew).trans (hb.mono (by show w1.heap.size ≤ (w1.heap.push _).size; simp))
  obtain ⟨e0, e1⟩ := pair_set (x := x) (y := y) h0 h1
  exact ⟨w1.heap.size, rfl, e0, e1, Nat.le_refl _, below_set (below_set h2 (Nat.le_refl _)) (Nat.le_refl _)⟩
theorem inP_rd {x lo hi : Int} : inP x (lo, hi) = true ↔ lo ≤ x ∧ x ≤ hi := by
  unfold inP
  simp
theorem own_base {w : World} {B : Nat} {e : TypeId} {z : Nat} {v : Value} {n : Nat} {xs : List Value} (h : w.ownsRow B e z v n xs) {r : Nat} (hr : v.ownBlock = some r) : B ≤ r := by
  rcases h.2 with ⟨rfl, _⟩ | ⟨g, cap, cur, rfl, h3, _⟩
  · cases hr
  · injection hr with hr
    rw [← hr]
    exact h3
theorem Fr.grown {p : Nat} {w a b : World} {e : TypeId} {z : Nat} {v : Value} {n : Nat} {xs : List Value} (h : Fr p w a) (ho : a.ownsRow w.heap.size e z v n xs) (hg : a.grownBy b v.ownBlock) : Fr p w b :=
  ⟨hg.os.trans h.os, hg.tape.trans h.tape, hg.output.trans h.output, Nat.le_trans h.size hg.size, fun k hk hp => (hg.block k (Nat.lt_of_lt_of_le hk h.size) (fun e => absurd (own_base ho e.symm) (Nat.not_le_of_lt hk))).trans (h.block k hk hp)⟩
theorem RdAt.grown {p B : Nat} {a b : World} {s : ByteArray} {k : Int} {ok : Bool} {e : TypeId} {z : Nat} {v : Value} {n : Nat} {xs : List Value} (h : RdAt a p s k ok) (ho : a.ownsRow B e z v n xs) (hg : a.grownBy b v.ownBlock) (hp : p < B) : RdAt b p s k ok :=
  (hg.block p h.lt (fun e => absurd (own_base ho e.symm) (Nat.not_le_of_lt hp))).trans h
theorem pair_kept {X w' : World} {a b : Value} {t : TypeId} (hb : Below (X.alloc (.cells #[a, b] t)).heap.size (X.alloc (.cells #[a, b] t)) w') : w'.cell? ⟨X.heap.size, 0, none⟩ = some a ∧ w'.cell? ⟨X.heap.size, 1, none⟩ = some b ∧ w'.frozen? ⟨X.heap.size, 0, none⟩ = false ∧ w'.frozen? ⟨X.heap.size, 1, none⟩ = false := by
  have hl : X.heap.size < (X.alloc (.cells #[a, b] t)).heap.size := by simp
  refine ⟨keep_cell hb (by simp), keep_cell hb (by simp), ?_, ?_⟩
  · rw [hb.frozen hl]; simp
  · rw [hb.frozen hl]; simp
theorem pair_kept_drew {X w' : World} {a b : Value} {t : TypeId} (hb : Below (X.alloc (.cells #[a, b] t)).drew.heap.size (X.alloc (.cells #[a, b] t)).drew w') : w'.cell? ⟨X.heap.size, 0, none⟩ = some a ∧ w'.cell? ⟨X.heap.size, 1, none⟩ = some b ∧ w'.frozen? ⟨X.heap.size, 0, none⟩ = false ∧ w'.frozen? ⟨X.heap.size, 1, none⟩ = false :=
  pair_kept (((Below.refl _ _).drew).trans hb)

theorem two_cells (w : World) (x y : Value) (t : TypeId) (b : Nat) (hb : b = w.heap.size) : ∀ j u, ([x, y])[j]? = some u → (w.alloc (.cells #[x, y] t)).cell? ((⟨b, 0, none⟩ : Addr).add j) = some u := by
  subst hb
  intro j u hj
  match j, hj with
  | 0, hj => simp at hj; subst hj; simp [Addr.add]
  | 1, hj => simp at hj; subst hj; simp [Addr.add]
theorem two_one (x y : ByteArray) : ∀ u ∈ [Value.string x, .string y], u.oneCell' = true := by
  intro u hu
  rcases List.mem_cons.1 hu with rfl | hu
  · rfl
  · rcases List.mem_cons.1 hu with rfl | hu
    · rfl
    · cases hu

/-- What a reader of attributes leaves. -/
def AttrsLeft (p lo : Nat) (s : ByteArray) (R : Option (List AttrB × Int × Nat)) (w' : World) (v : Value) (sp : Int) : Prop :=
  ∃ l : List AttrB, w'.ownsRow lo 73 2 v l.length (attrCells l) ∧ l.length ≤ s.size ∧ v ≠ .slice none 0 0 ∧ ((∃ j : Nat, R = some (l, sp, j) ∧ j ≤ s.size ∧ RdAt w' p s (j : Int) true) ∨ (R = none ∧ ∃ k, RdAt w' p s k false))

set_option maxRecDepth 20000 in
set_option maxHeartbeats 8000000 in
theorem specRdAttrs (s : ByteArray) (p : Nat) (about : Int) (i : Nat) (w : World) (h : RdAt w p s (i : Int) true) (hs : s.size ≤ 1073741824) (hi : i ≤ s.size) :
    Calls Tryz.prog 38 #[.pointer (some ⟨p, 0, none⟩), .int .i64 about] w fun r w' => ∃ v sp, r = .returned (.tuple #[v, .int .i64 sp]) ∧ AttrsLeft p w.heap.size s (attrsR s about (s.size + 1) i [] about false) w' v sp ∧ Fr p w w' := by
  obtain ⟨i0, hi0, hz0, hz1, hz2⟩ := info_parts info_pairR
  have Hi : Hid (Tryz.prog.info? 73 = some i0) := hi0
  have Hz0 : Hid (i0.zero = some (.agg #[.string ⟨#[]⟩, .string ⟨#[]⟩])) := hz0
  have Hz1 : Hid (i0.size = 2) := hz1
  have Hz2 : Hid (i0.bytes = 32) := hz2
  have hp := h.lt
  obtain ⟨R, HR⟩ : ∃ R, Hid (attrsR s about (s.size + 1) i [] about false = R) := ⟨_, rfl⟩
  rw [HR.out]
  have ow0 := empty_attrs w w.heap.size (Nat.le_refl _) 73
  have bA := (Below.refl w.heap.size w).alloc (Nat.le_refl _) (.cells #[] 73)
  have HR0 : Hid (RdAt (w.alloc (.cells #[] 73)) p s (i : Int) true) := h.keep bA
  have HF0 : Hid (Fr p w (w.alloc (.cells #[] 73))) := Fr.of_below bA
  have hi' : Hid (i ≤ s.size) := hi
  clear hi0 hz0 hz1 hz2 h bA hi
  go_enter Tryz.func38, Tryz.ntmps38
  go_wp2_with fail
  go_loopw [6, 7, 8] (fun ov sv tv wr => ∃ (l : List AttrB) (sp : Int) (told : Bool), sv = .int .i64 sp ∧ tv = .bool told ∧ ov ≠ .slice none 0 0 ∧ l.length ≤ s.size ∧ Hid (wr.ownsRow w.heap.size 73 2 ov l.length (attrCells l)) ∧ Hid (Fr p w wr) ∧ ((∃ f k : Nat, k ≤ s.size ∧ s.size + 1 ≤ f + k ∧ l.length ≤ k ∧ Hid (attrsR s about f k l sp told = R) ∧ Hid (RdAt wr p s (k : Int) true)) ∨ (Hid (R = none) ∧ ∃ k, Hid (RdAt wr p s k false)))) (fun _ _ _ wr => rdLeft s p wr)
  case atStart => exact ⟨[], about, false, rfl, rfl, by first | trivial | (intro h; cases h), Nat.zero_le _, ow0, HF0, .inl ⟨s.size + 1, i, hi'.out, by omega, Nat.zero_le _, HR, HR0⟩⟩
  case round =>
    clear ow0 HR0 HF0 HR hi'
    obtain ⟨l, sp, told, rfl, rfl, hov, hll, HO, HF, hmode⟩ := hrel
    rcases hmode with ⟨f, k, hk, hf, hlk, HRk, HD⟩ | ⟨HN, k, HD⟩
    · have c0 := HD.out.c0
      have c1 := HD.out.c1
      have c2 := HD.out.c2
      have z1 := HD.out.fz 1
      have z2 := HD.out.fz 2
      have HM : Hid (rdLeft s p wr = s.size + 2 - k) := rdLeft_on HD.out
      obtain ⟨f', rfl⟩ : ∃ f', f = f' + 1 := ⟨f - 1, by omega⟩
      have hRk := HRk.out
      rw [attrsR] at hRk
      by_cases hlt : k < s.size
      · have g1 : (k : Int) < (s.size : Int) := by omega
        have g0 : (0 : Int) ≤ (k : Int) := by omega
        have ed : s.data[k]? = some (s[k]'hlt) := by
          show s.data[k]? = some (s.data[k]'hlt)
          exact Array.getElem?_eq_getElem hlt
        rw [ed] at hRk
        by_cases hsp : (s[k]'hlt) = 32
        · rw [hsp, if_pos rfl] at hRk
          have g32 : (((s[k]'hlt).toNat : Int) == 32) = true := by rw [hsp]; rfl
          have HX : Hid (∀ W, Calls Tryz.prog 66 #[.string s, .int .i64 ((k : Int) + 1)] W fun r w' => r = .returned (.tuple #[.agg #[.string (xaN s ((k : Int) + 1)), .string (xaV s ((k : Int) + 1))], .int .i64 (xaI s ((k : Int) + 1))]) ∧ Below W.heap.size W w') := fun W => specXmlAttr s _ W hs
          have hxa : ¬ xaI s ((k : Int) + 1) < 0 → _ := xaI_le (s := s) (i := k)
          generalize xaI s ((k : Int) + 1) = xi at *
          generalize xaN s ((k : Int) + 1) = xn at *
          generalize xaV s ((k : Int) + 1) = xv at *
          have q1 : IntKind.i64.wrap ((k : Int) + 1) = (k : Int) + 1 := IntWalk.i64_in _ (by omega)
          go_upto_region 4 with fail
          go_quiet (fail)
          have bn := drew_kd (Below.refl wr.heap.size wr) nq
          have HO1 : Hid ((wr.drewN nq).ownsRow w.heap.size 73 2 _ l.length (attrCells l)) := owns_below HO.out (Nat.le_refl _) bn
          have HF1 : Hid (Fr p w (wr.drewN nq)) := HF.out.trans (Fr.of_below bn)
          have HD1 : Hid (RdAt (wr.drewN nq) p s (k : Int) true) := HD.out.keep bn
          clear bn c0 c1 c2 z1 z2 HRk
          generalize wr.drewN nq = w1 at *
          have c0 := HD1.out.c0
          have c1 := HD1.out.c1
          have hpl : p < w1.heap.size := HD1.out.lt
          have hgp : w1.heap.size ≠ p := Nat.ne_of_gt hpl
          go_upto_region 5 with fail
          go_cut [9, 10] (fun r q wx => ∃ g : Nat, r = .pointer (some ⟨g, 0, none⟩) ∧ q = .int .i64 xi ∧ wx.cell? ⟨g, 0, none⟩ = some (.string xn) ∧ wx.cell? ⟨g, 1, none⟩ = some (.string xv) ∧ w1.heap.size ≤ g ∧ ∃ W : World, W = wx ∧ Below w1.heap.size w1 W)
          case first =>
            go_region_held3 (fun w' => w'.cell? ⟨p, 0, none⟩ = some (.string s) ∧ w'.cell? ⟨p, 1, none⟩ = some (.int .i64 (k : Int))) (first | exact ⟨c0, c1⟩ | exact ⟨cell_set2 hgp (keep_cell hb' (keep_cell (((Below.refl _ _).alloc (Nat.le_refl _) _).drew) c0)), cell_set2 hgp (keep_cell hb' (keep_cell (((Below.refl _ _).alloc (Nat.le_refl _) _).drew) c1))⟩ | exact ⟨keep_cell hb' (keep_cell (((Below.refl _ _).alloc (Nat.le_refl _) _).drew) c0), keep_cell hb' (keep_cell (((Below.refl _ _).alloc (Nat.le_refl _) _).drew) c1)⟩ | (go_split_ands; exact ⟨cell_al (by assumption), cell_al (by assumption)⟩) | (exact ⟨cell_al (keep_cell hb' (by first | exact c0 | exact keep_cell (Below.refl _ _).drew c0)), cell_al (keep_cell hb' (by first | exact c1 | exact keep_cell (Below.refl _ _).drew c1))⟩) | (exact ⟨keep_cell hb' (by first | exact c0 | exact keep_cell (Below.refl _ _).drew c0), keep_cell hb' (by first | exact c1 | exact keep_cell (Below.refl _ _).drew c1)⟩) | (go_split_ands; exact ⟨keep_cell hb' (by assumption), keep_cell hb' (by assumption)⟩) | go_keep) (first | (go_at_call 66; refine (HX.out _).mono ?_; rintro r w' ⟨rfl, hb'⟩; first | (have hbz : Below (w1.alloc (.cells #[.string ⟨#[]⟩, .string ⟨#[]⟩] 73)).drew.heap.size (w1.alloc (.cells #[.string ⟨#[]⟩, .string ⟨#[]⟩] 73)).drew w' := (by with_reducible exact hb'); obtain ⟨y0, y1, y2, y3⟩ := pair_kept_drew hbz) | skip))
            · have hP := pair_new (x := .string xn) (y := .string xv) (t := 73) hb'
              have HP : Hid _ := hP
              clear hP
              go_wp2_with fail
              go_meet
              case rel =>
                obtain ⟨g, e1, e2, e3, e4, e5⟩ := HP.out
                exact ⟨g, e1, rfl, e2, e3, e4, _, rfl, e5⟩
            · have hP := pair_old (x := .string xn) (y := .string xv) hbz y0 y1
              have HP : Hid _ := hP
              clear hP
              go_wp2_with fail
              go_meet
              case rel =>
                obtain ⟨g, e1, e2, e3, e4, e5⟩ := HP.out
                exact ⟨g, e1, rfl, e2, e3, e4, _, rfl, e5⟩
          case rest =>
            obtain ⟨g, rfl, rfl, d0, d1, hg, w2, rfl, b2⟩ := hcut
            have HO2 := owns_below HO1.out (Nat.le_refl _) b2
            have HF2 : Hid (Fr p w w2) := HF1.out.trans (Fr.of_below b2)
            have HD2 : Hid (RdAt w2 p s (k : Int) true) := HD1.out.keep b2
            clear HO1 HF1 HD1 HX b2 c0 c1 HD HF HO
            obtain ⟨oa, oc, eov, HAt⟩ := attrs_of_own HO2
            subst eov
            have Hhas : Hid (Calls Tryz.prog 67 #[.slice oa l.length oc, .string xn] w2 fun e w' => e = .returned (.bool (hasA l xn)) ∧ w' = w2) := specHas l xn oa l.length oc _ HAt rfl (by omega)
            clear HAt
            by_cases hx0 : xi < 0
            · rw [if_pos hx0] at hRk
              have HN : Hid (R = none) := hRk.symm
              clear hRk Hhas hxa d1
              have c2 := HD2.out.c2
              have z2 := HD2.out.fz 2
              go_wp2_with fail
              go_ret2
              exact ⟨_, _, rfl, ⟨l, (Fr.set w2 2 (.bool false)).owns hp HO2, hll, hov, .inr ⟨HN.out, _, HD2.out.set2 false⟩⟩, HF2.out.trans (Fr.set _ _ _)⟩
            · rw [if_neg hx0] at hRk
              obtain ⟨j, rfl, hj1, hj2, hj3⟩ := hxa hx0
              have gx : ¬ ((j : Int) < 0) := hx0
              have gx' : decide ((j : Int) < 0) = false := decide_eq_false hx0
              have eX : xmlnsB.toList = [120, 109, 108, 110, 115] := ByteArray.toList_mk _
              rw [eX] at hRk
              have c1 := HD2.out.c1
              have z1 := HD2.out.fz 1
              have hgp2 : g ≠ p := by omega
              have d0' : (w2.setCell ⟨p, 1, none⟩ (.int .i64 (j : Int))).cell? ⟨g, 0, none⟩ = some (.string xn) := (World.cell?_setCell_other _ _ _ _ (fun e => hgp2 (congrArg Addr.block e).symm)).trans d0
              have d1' : (w2.setCell ⟨p, 1, none⟩ (.int .i64 (j : Int))).cell? ⟨g, 1, none⟩ = some (.string xv) := (World.cell?_setCell_other _ _ _ _ (fun e => hgp2 (congrArg Addr.block e).symm)).trans d1
              have HO3 := (Fr.set (p := p) w2 1 (.int .i64 (j : Int))).owns hp HO2
              have HD3 : Hid (RdAt (w2.setCell ⟨p, 1, none⟩ (.int .i64 (j : Int))) p s (j : Int) true) := HD2.out.set1 _
              have HF3 : Hid (Fr p w (w2.setCell ⟨p, 1, none⟩ (.int .i64 (j : Int)))) := HF2.out.trans (Fr.set _ _ _)
              cases hh : hasA l xn
              · rw [hh] at Hhas
                cases hX : (xn.toList == [120, 109, 108, 110, 115])
                · rw [hh, hX, if_neg (by rintro (h | ⟨h, _⟩) <;> cases h), if_neg (by decide)] at hRk
                  have HRn : Hid (attrsR s about f' j (l ++ [(xn, xv)]) sp told = R) := hRk
                  clear hRk hxa
                  go_wp2_with fail
                  refine Hhas.out.mono ?_
                  rintro r w2 ⟨rfl, rfl⟩
                  clear Hhas
                  have O4 := HO3.alloc (.cells #[.string xn, .string xv] 73)
                  have F4 : Fr p w ((w2.setCell ⟨p, 1, none⟩ (.int .i64 (j : Int))).alloc (.cells #[.string xn, .string xv] 73)) := HF3.out.trans (Fr.of_below ((Below.refl _ _).alloc (Nat.le_refl _) _))
                  have D4 : Hid (RdAt ((w2.setCell ⟨p, 1, none⟩ (.int .i64 (j : Int))).alloc (.cells #[.string xn, .string xv] 73)) p s (j : Int) true) := HD3.out.keep ((Below.refl _ _).alloc (Nat.le_refl _) _)
                  go_wp2_with (at_builtin; refine wpList_append_own _ rfl (.tmp 82) (.tmp 84) 22 rfl w.heap.size 73 i0 (.agg #[.string ⟨#[]⟩, .string ⟨#[]⟩]) 2 32 Tryz.underlying22 Hi.out Hz0.out Hz1.out Hz2.out rfl (by decide) _ l.length (attrCells l) rfl O4 ⟨_, 0, none⟩ 1 1 [.string xn, .string xv] rfl rfl (two_cells _ _ _ _ _ (by simp [World.setCell])) (two_one _ _) ?a3 ?a4 ?a5 ?_)
                  case a3 => unfold maxLen; omega
                  case a4 => omega
                  case a5 => exact F4.size
                  intro v' w5 hown' hgrow hif
                  have HF5 : Hid (Fr p w w5) := F4.grown O4 hgrow
                  have HD5 : Hid (RdAt w5 p s (j : Int) true) := D4.out.grown O4 hgrow hp
                  have hl1 : (l ++ [(xn, xv)]).length = l.length + 1 := by simp
                  have HO5 : Hid (w5.ownsRow w.heap.size 73 2 v' (l ++ [(xn, xv)]).length (attrCells (l ++ [(xn, xv)]))) := by
                    show World.ownsRow _ _ _ _ _ _ _
                    rw [hl1, attrCells_more]
                    exact hown'
                  have hif' : v' ≠ .slice none 0 0 := by first | exact hif | exact fun e => hov (hif.1 e).1
                  clear hown' hgrow hif O4 F4 D4 HO3 HD3 HF3 HO2 HD2 HF2 d0 d1 d0' d1' c1 z1
                  go_wp2_with fail
                  go_roundw
                  case rel => exact ⟨l ++ [(xn, xv)], sp, told, rfl, rfl, hif', by rw [hl1]; omega, HO5, HF5, .inl ⟨f', j, hj2, by omega, by rw [hl1]; omega, HRn, HD5⟩⟩
                  case measure =>
                    rw [rdLeft_on HD5.out, HM.out]
                    omega
                · cases told
                  · rw [hh, hX, if_neg (by rintro (h | ⟨_, h⟩) <;> cases h), if_pos rfl] at hRk
                    have HSp := specSpaceOf xv (w2.setCell ⟨p, 1, none⟩ (.int .i64 (j : Int)))
                    by_cases hsa : spaceI xv = about
                    · rw [if_pos hsa] at hRk
                      have HN : Hid (R = none) := hRk.symm
                      have gsa : (spaceI xv == about) = true := by rw [hsa]; simp
                      clear hRk hxa hsa
                      have c2 := HD3.out.c2
                      have z2 := HD3.out.fz 2
                      generalize spaceI xv = si at *
                      go_wp2_with fail
                      refine Hhas.out.mono ?_
                      rintro r w2 ⟨rfl, rfl⟩
                      clear Hhas
                      go_wp2_with fail
                      refine HSp.mono ?_
                      rintro r w3 ⟨rfl, rfl⟩
                      have HO4 : Hid (World.ownsRow _ w.heap.size 73 2 _ l.length (attrCells l)) := (Fr.set (p := p) _ 2 (.bool false)).owns hp HO3
                      have HD4 := HD3.out.set2 false
                      have HF4 : Hid (Fr p w _) := HF3.out.trans (Fr.set _ 2 (.bool false))
                      have HD4' : Hid (RdAt _ p s (j : Int) false) := HD4
                      clear HSp HO3 HD3 HF3 HO2 HD2 HF2 d0 d1 d0' d1' c1 z1 HD4
                      go_wp2_with fail
                      go_roundw
                      case rel => exact ⟨l, si, true, rfl, rfl, hov, hll, HO4, HF4, .inr ⟨HN, _, HD4'⟩⟩
                      case measure =>
                        rw [rdLeft_off HD4'.out, HM.out]
                        omega
                    · rw [if_neg hsa] at hRk
                      have HRn : Hid (attrsR s about f' j l (spaceI xv) true = R) := hRk
                      have gsa : (spaceI xv == about) = false := by rw [beq_eq_false_iff_ne]; exact hsa
                      clear hRk hxa hsa
                      generalize spaceI xv = si at *
                      go_wp2_with fail
                      refine Hhas.out.mono ?_
                      rintro r w2 ⟨rfl, rfl⟩
                      clear Hhas
                      go_wp2_with fail
                      refine HSp.mono ?_
                      rintro r w3 ⟨rfl, rfl⟩
                      have HO4 : Hid (World.ownsRow _ w.heap.size 73 2 _ l.length (attrCells l)) := HO3
                      clear HSp HO3 HO2 HD2 HF2 d0 d1 d0' d1' c1 z1
                      go_wp2_with fail
                      go_roundw
                      case rel => exact ⟨l, si, true, rfl, rfl, hov, hll, HO4, HF3, .inl ⟨f', j, hj2, by omega, by omega, HRn, HD3⟩⟩
                      case measure =>
                        rw [rdLeft_on HD3.out, HM.out]
                        omega
                  · rw [hh, hX, if_pos (.inr ⟨rfl, rfl⟩)] at hRk
                    have HN : Hid (R = none) := hRk.symm
                    clear hRk hxa d1
                    go_wp2_with fail
                    refine Hhas.out.mono ?_
                    rintro r w2 ⟨rfl, rfl⟩
                    clear Hhas
                    have c2 := HD2.out.c2
                    have z2 := HD2.out.fz 2
                    go_wp2_with fail
                    go_ret2
                    exact ⟨_, _, rfl, ⟨l, (Fr.set w2 2 (.bool false)).owns hp HO2, hll, hov, .inr ⟨HN.out, _, HD2.out.set2 false⟩⟩, HF2.out.trans (Fr.set _ _ _)⟩
              · rw [hh, if_pos (.inl rfl)] at hRk
                rw [hh] at Hhas
                have HN : Hid (R = none) := hRk.symm
                clear hRk hxa d1
                go_wp2_with fail
                refine Hhas.out.mono ?_
                rintro r w2 ⟨rfl, rfl⟩
                clear Hhas
                have c2 := HD2.out.c2
                have z2 := HD2.out.fz 2
                go_wp2_with fail
                go_ret2
                exact ⟨_, _, rfl, ⟨l, (Fr.set w2 2 (.bool false)).owns hp HO2, hll, hov, .inr ⟨HN.out, _, HD2.out.set2 false⟩⟩, HF2.out.trans (Fr.set _ _ _)⟩
        · rw [if_neg (fun e => hsp (Option.some.inj e))] at hRk
          have g32 : (((s[k]'hlt).toNat : Int) == 32) = false := by
            rw [beq_eq_false_iff_ne]
            intro e
            apply hsp
            exact UInt8.toNat_inj.1 (by show (s[k]'hlt).toNat = 32; omega)
          clear HRk
          go_upto_region 4 with fail
          go_quiet (fail)
          have bn := drew_kd (Below.refl wr.heap.size wr) nq
          have HO1 : Hid ((wr.drewN nq).ownsRow w.heap.size 73 2 _ l.length (attrCells l)) := owns_below HO.out (Nat.le_refl _) bn
          have HF1 : Hid (Fr p w (wr.drewN nq)) := HF.out.trans (Fr.of_below bn)
          have HD1 : Hid (RdAt (wr.drewN nq) p s _ _) := HD.out.keep bn
          clear bn c0 c1 c2 z1 z2
          generalize wr.drewN nq = w1 at *
          have c2 := HD1.out.c2
          have z2 := HD1.out.fz 2
          go_wp2_with fail
          refine (l1In_kd sp 0 2 w1).mono ?_
          rintro r w1 ⟨rfl, rfl⟩
          cases hin : inP sp (0, 2)
          · have hR : R = none := by
              rw [← hRk, if_neg (by intro h; rw [inP_rd.2 ⟨by omega, by omega⟩] at hin; cases hin)]
            go_wp2_with fail
            go_ret2
            exact ⟨_, _, rfl, ⟨l, (Fr.set w1 2 (.bool false)).owns hp HO1.out, hll, hov, .inr ⟨hR, _, HD1.out.set2 false⟩⟩, HF1.out.trans (Fr.set _ _ _)⟩
          · have hR : R = some (l, sp, k) := by
              have h2 := inP_rd.1 hin
              rw [← hRk, if_pos ⟨by omega, by omega⟩]
            clear hRk
            go_wp2_with fail
            go_ret2
            exact ⟨_, _, rfl, ⟨l, HO1.out, hll, hov, .inl ⟨k, hR, hk, HD1.out⟩⟩, HF1.out⟩
      · have ed : s.data[k]? = none := Array.getElem?_eq_none (by show s.size ≤ k; omega)
        rw [ed, if_neg (by intro e; cases e)] at hRk
        have g1 : ¬ ((k : Int) < (s.size : Int)) := by omega
        have g1' : decide ((k : Int) < (s.size : Int)) = false := decide_eq_false g1
        clear HRk
        go_upto_region 4 with fail
        go_quiet (fail)
        have bn := drew_kd (Below.refl wr.heap.size wr) nq
        have HO1 : Hid ((wr.drewN nq).ownsRow w.heap.size 73 2 _ l.length (attrCells l)) := owns_below HO.out (Nat.le_refl _) bn
        have HF1 : Hid (Fr p w (wr.drewN nq)) := HF.out.trans (Fr.of_below bn)
        have HD1 : Hid (RdAt (wr.drewN nq) p s _ _) := HD.out.keep bn
        clear bn c0 c1 c2 z1 z2
        generalize wr.drewN nq = w1 at *
        have c2 := HD1.out.c2
        have z2 := HD1.out.fz 2
        go_wp2_with fail
        refine (l1In_kd sp 0 2 w1).mono ?_
        rintro r w1 ⟨rfl, rfl⟩
        cases hin : inP sp (0, 2)
        · have hR : R = none := by
            rw [← hRk, if_neg (by intro h; rw [inP_rd.2 ⟨by omega, by omega⟩] at hin; cases hin)]
          go_wp2_with fail
          go_ret2
          exact ⟨_, _, rfl, ⟨l, (Fr.set w1 2 (.bool false)).owns hp HO1.out, hll, hov, .inr ⟨hR, _, HD1.out.set2 false⟩⟩, HF1.out.trans (Fr.set _ _ _)⟩
        · have hR : R = some (l, sp, k) := by
            have h2 := inP_rd.1 hin
            rw [← hRk, if_pos ⟨by omega, by omega⟩]
          clear hRk
          go_wp2_with fail
          go_ret2
          exact ⟨_, _, rfl, ⟨l, HO1.out, hll, hov, .inl ⟨k, hR, hk, HD1.out⟩⟩, HF1.out⟩
    · have c0 := HD.out.c0
      have c1 := HD.out.c1
      have c2 := HD.out.c2
      have z1 := HD.out.fz 1
      have z2 := HD.out.fz 2
      go_upto_region 4 with fail
      go_quiet (fail)
      have bn := drew_kd (Below.refl wr.heap.size wr) nq
      have HO1 : Hid ((wr.drewN nq).ownsRow w.heap.size 73 2 _ l.length (attrCells l)) := owns_below HO.out (Nat.le_refl _) bn
      have HF1 : Hid (Fr p w (wr.drewN nq)) := HF.out.trans (Fr.of_below bn)
      have HD1 : Hid (RdAt (wr.drewN nq) p s _ _) := HD.out.keep bn
      clear bn c0 c1 c2 z1 z2
      generalize wr.drewN nq = w1 at *
      have c2 := HD1.out.c2
      have z2 := HD1.out.fz 2
      go_wp2_with fail
      refine (l1In_kd sp 0 2 w1).mono ?_
      rintro r w1 ⟨rfl, rfl⟩
      cases hin : inP sp (0, 2)
      · go_wp2_with fail
        go_ret2
        exact ⟨_, _, rfl, ⟨l, (Fr.set w1 2 (.bool false)).owns hp HO1.out, hll, hov, .inr ⟨HN.out, _, HD1.out.set2 false⟩⟩, HF1.out.trans (Fr.set _ _ _)⟩
      · go_wp2_with fail
        go_ret2
        exact ⟨_, _, rfl, ⟨l, HO1.out, hll, hov, .inr ⟨HN.out, _, HD1.out⟩⟩, HF1.out⟩

end Go.Proofs.YtbmmghkieolpkaaGreatDoor.Sg

namespace Go.Proofs.YtbmmghkieolpkaaGreatDoor.Sg
open Go.ChangeShapes Go.WideShapes Go.ChangeAt Go.RowKit

theorem elsN_drop : ∀ (es : List ElB) (k : Nat) (h : k < es.length), elsN (es.drop k) = elN (es[k]'h) + elsN (es.drop (k + 1))
  | [], k, h => absurd h (by simp)
  | e :: es, 0, _ => by simp [elsN]
  | e :: es, k + 1, h => by
    have := elsN_drop es k (by simpa using h)
    simpa using this
theorem elsD_drop : ∀ (es : List ElB) (k : Nat) (h : k < es.length), elsD (es.drop k) = max (elD (es[k]'h)) (elsD (es.drop (k + 1)))
  | [], k, h => absurd h (by simp)
  | e :: es, 0, _ => by simp [elsD]
  | e :: es, k + 1, h => by
    have := elsD_drop es k (by simpa using h)
    simpa using this
mutual
theorem elN_le : ∀ e : ElB, elN e ≤ elW e + 1
  | .mk kd sp nm ats tx ks => by
    have := elsN_le ks
    unfold elN elW
    omega
theorem elsN_le : ∀ es : List ElB, elsN es ≤ es.length + elsW es
  | [] => by simp [elsN]
  | e :: es => by
    have := elN_le e
    have := elsN_le es
    unfold elsN elsW
    rw [List.length_cons]
    omega
end
mutual
theorem elD_le : ∀ e : ElB, elD e ≤ elN e
  | .mk kd sp nm ats tx ks => by
    have := elsD_le ks
    unfold elD elN
    omega
theorem elsD_le : ∀ es : List ElB, elsD es ≤ elsN es
  | [] => by simp [elsD]
  | e :: es => by
    have := elD_le e
    have := elsD_le es
    unfold elsD elsN
    omega
end
theorem elsN_get (es : List ElB) (k : Nat) (h : k < es.length) : elN (es[k]'h) ≤ elsN es := by
  induction es generalizing k with
  | nil => exact absurd h (by simp)
  | cons e es ih =>
    unfold elsN
    cases k with
    | zero => simp
    | succ k =>
      have := ih k (by simpa using h)
      simp only [List.getElem_cons_succ]
      omega

theorem elN_pos (e : ElB) : 1 ≤ elN e := by
  obtain ⟨kd, sp, nm, ats, tx, ks⟩ := e
  unfold elN
  omega
theorem elsN_len : ∀ es : List ElB, es.length ≤ elsN es
  | [] => by simp
  | e :: es => by
    have := elN_pos e
    have := elsN_len es
    unfold elsN
    rw [List.length_cons]
    omega

def SpSize (e : ElB) : Prop := ∀ (lo : Nat) (v : Value) (w : World), ElV (QA lo) (lo ≤ ·) w v e → elN e ≤ 1099511627776 → Calls Tryz.prog 54 #[v] w fun r w' => r = .returned (.int .i64 (elN e : Int)) ∧ Below w.heap.size w w'
set_option maxHeartbeats 2000000 in
theorem elSize_of (kd sp : Int) (nm : ByteArray) (ats : List AttrB) (tx : ByteArray) (ks : List ElB) (hA : ∀ e ∈ ks, SpSize e) : SpSize (.mk kd sp nm ats tx ks) := by
  intro lo v w hv hn
  obtain ⟨av, ka, kc, rfl, _, hk⟩ := hv
  have HK : Hid (KidsIn (QA lo) (lo ≤ ·) w ka ks) := hk
  have HA : Hid (∀ e ∈ ks, SpSize e) := hA
  have hN : elsN ks ≤ 1099511627776 := by unfold elN at hn; omega
  have hlen : ks.length ≤ 1099511627776 := by have := elsN_len ks; omega
  obtain ⟨R, HR⟩ : ∃ R, Hid (elN (.mk kd sp nm ats tx ks) = R) := ⟨_, rfl⟩
  have HR0 : Hid (1 + elsN (ks.drop 0) = R) := by
    show _ = _
    rw [← HR.out, List.drop_zero]
    unfold elN
    omega
  rw [HR.out] at hn ⊢
  clear hk hA HR
  have hb0 := (Below.refl w.heap.size w).alloc (Nat.le_refl _) (.cells #[.int .i64 kd, .int .i64 sp, .string nm, av, .string tx, .slice ka ks.length kc] 25)
  have q0 : (w.alloc (.cells #[.int .i64 kd, .int .i64 sp, .string nm, av, .string tx, .slice ka ks.length kc] 25)).cell? ⟨w.heap.size, 5, none⟩ = some (.slice ka ks.length kc) := by simp
  have s0 : w.heap.size < (w.alloc (.cells #[.int .i64 kd, .int .i64 sp, .string nm, av, .string tx, .slice ka ks.length kc] 25)).heap.size := by simp
  go_enter Tryz.func54, Tryz.ntmps54
  go_wp2_with fail
  go_loopw [3, 4] (fun ov iv wr => ∃ k o : Nat, k ≤ ks.length ∧ iv = .int .i64 (k : Int) ∧ ov = .int .i64 (o : Int) ∧ Hid (o + elsN (ks.drop k) = R) ∧ wr.cell? ⟨w.heap.size, 5, none⟩ = some (.slice ka ks.length kc) ∧ w.heap.size < wr.heap.size ∧ Hid (Below w.heap.size w wr)) (fun _ iv _ => ks.length - (intOf iv).toNat)
  case atStart => exact ⟨0, 1, Nat.zero_le _, rfl, rfl, HR0, q0, s0, hb0⟩
  case round =>
    clear HR0 q0 s0 hb0
    obtain ⟨k, o, hk, rfl, rfl, HRk, q5, hs, HB⟩ := hrel
    by_cases hlt : k < ks.length
    · rcases HK.out.keep (QA.lies _) HB.out with h | ⟨b, off, rfl, _, hc⟩
      · omega
      obtain ⟨v0, v1, v2, v3, v4, v5, c0, c1, c2, c3, c4, c5, hV⟩ := (hc.get k hlt).cells
      have hNk := elsN_get ks k hlt
      have Hs := HA.out _ (List.getElem_mem hlt) lo _ wr hV (by omega)
      have hdr := elsN_drop ks k hlt
      have hRk := HRk.out
      rw [hdr] at hRk
      clear hc hV hdr HRk
      generalize elN (ks[k]'hlt) = m at *
      have HRk2 : Hid (o + m + elsN (ks.drop (k + 1)) = R) := by show _ = _; omega
      have hom : o + m ≤ R := by omega
      have hk1 : k + 1 ≤ ks.length := hlt
      have k0 : (0 : Int) ≤ (k : Int) := by omega
      have k1 : (k : Int) < (ks.length : Int) := by omega
      have q1 : IntKind.i64.wrap ((o : Int) + (m : Int)) = (o : Int) + (m : Int) := IntWalk.i64_in _ (by omega)
      clear hRk
      go_wp2_with fail
      refine Hs.mono ?_
      rintro e w1 ⟨rfl, b1⟩
      have q5' := (b1.cell hs).trans q5
      have hs' := Nat.lt_of_lt_of_le hs b1.size
      have HB' : Hid (Below w.heap.size w w1) := HB.out.trans (b1.mono HB.out.size)
      clear b1 q5 HB
      go_wp2_with fail
      go_roundw
      case rel => exact ⟨k + 1, o + m, hk1, by go_num, by go_num, HRk2, q5', hs', HB'⟩
      case measure => simp [intOf]; omega
    · have hf : o = R := by
        have := HRk.out
        rw [List.drop_eq_nil_of_le (by omega)] at this
        exact this
      have g1 : decide ((k : Int) < (ks.length : Int)) = false := decide_eq_false (by omega)
      clear HRk
      subst hf
      go_wp2_with fail
      go_ret
      exact ⟨rfl, HB.out⟩
mutual
theorem specElSize : ∀ e : ElB, SpSize e
  | .mk kd sp nm ats tx ks => elSize_of kd sp nm ats tx ks (specElSize_all ks)
theorem specElSize_all : ∀ es : List ElB, ∀ e ∈ es, SpSize e
  | [], _, h => nomatch h
  | x :: xs, e, h => (List.mem_cons.1 h).elim (fun he => he ▸ specElSize x) (fun hm => specElSize_all xs e hm)
end

set_option maxHeartbeats 1000000 in
theorem specMaxE (a b : Int) (w : World) : Calls Tryz.prog 30 #[.int .i64 a, .int .i64 b] w fun e w' => e = .returned (.int .i64 (if b < a then a else b)) ∧ w' = w := by
  by_cases h : b < a
  · rw [if_pos h]
    go_enter Tryz.func30, Tryz.ntmps30
    go_wp2
    go_ret
    exact ⟨rfl, rfl⟩
  · rw [if_neg h]
    go_enter Tryz.func30, Tryz.ntmps30
    go_wp2
    go_ret
    exact ⟨rfl, rfl⟩
def SpDeep (e : ElB) : Prop := ∀ (lo : Nat) (v : Value) (w : World), ElV (QA lo) (lo ≤ ·) w v e → elN e ≤ 1099511627776 → Calls Tryz.prog 40 #[v] w fun r w' => r = .returned (.int .i64 (elD e : Int)) ∧ Below w.heap.size w w'
set_option maxHeartbeats 2000000 in
theorem elDeep_of (kd sp : Int) (nm : ByteArray) (ats : List AttrB) (tx : ByteArray) (ks : List ElB) (hA : ∀ e ∈ ks, SpDeep e) : SpDeep (.mk kd sp nm ats tx ks) := by
  intro lo v w hv hn
  obtain ⟨av, ka, kc, rfl, _, hk⟩ := hv
  have HK : Hid (KidsIn (QA lo) (lo ≤ ·) w ka ks) := hk
  have HA : Hid (∀ e ∈ ks, SpDeep e) := hA
  have hN : elsN ks ≤ 1099511627776 := by unfold elN at hn; omega
  have hlen : ks.length ≤ 1099511627776 := by have := elsN_len ks; omega
  obtain ⟨R, HR⟩ : ∃ R, Hid (elD (.mk kd sp nm ats tx ks) = R) := ⟨_, rfl⟩
  have HR0 : Hid (max 0 (elsD (ks.drop 0)) + 1 = R) := by
    show _ = _
    rw [← HR.out, List.drop_zero]
    unfold elD
    omega
  have hD : R ≤ 1099511627776 := by rw [← HR.out]; exact Nat.le_trans (elD_le _) hn
  rw [HR.out]
  clear hk hA HR
  have hb0 := (Below.refl w.heap.size w).alloc (Nat.le_refl _) (.cells #[.int .i64 kd, .int .i64 sp, .string nm, av, .string tx, .slice ka ks.length kc] 25)
  have q0 : (w.alloc (.cells #[.int .i64 kd, .int .i64 sp, .string nm, av, .string tx, .slice ka ks.length kc] 25)).cell? ⟨w.heap.size, 5, none⟩ = some (.slice ka ks.length kc) := by simp
  have s0 : w.heap.size < (w.alloc (.cells #[.int .i64 kd, .int .i64 sp, .string nm, av, .string tx, .slice ka ks.length kc] 25)).heap.size := by simp
  go_enter Tryz.func40, Tryz.ntmps40
  go_wp2_with fail
  go_loopw [3, 4] (fun ov iv wr => ∃ k o : Nat, k ≤ ks.length ∧ iv = .int .i64 (k : Int) ∧ ov = .int .i64 (o : Int) ∧ Hid (max o (elsD (ks.drop k)) + 1 = R) ∧ wr.cell? ⟨w.heap.size, 5, none⟩ = some (.slice ka ks.length kc) ∧ w.heap.size < wr.heap.size ∧ Hid (Below w.heap.size w wr)) (fun _ iv _ => ks.length - (intOf iv).toNat)
  case atStart => exact ⟨0, 0, Nat.zero_le _, rfl, rfl, HR0, q0, s0, hb0⟩
  case round =>
    clear HR0 q0 s0 hb0
    obtain ⟨k, o, hk, rfl, rfl, HRk, q5, hs, HB⟩ := hrel
    by_cases hlt : k < ks.length
    · rcases HK.out.keep (QA.lies _) HB.out with h | ⟨b, off, rfl, _, hc⟩
      · omega
      obtain ⟨v0, v1, v2, v3, v4, v5, c0, c1, c2, c3, c4, c5, hV⟩ := (hc.get k hlt).cells
      have hNk := elsN_get ks k hlt
      have Hs := HA.out _ (List.getElem_mem hlt) lo _ wr hV (by omega)
      have hdr := elsD_drop ks k hlt
      have hRk := HRk.out
      rw [hdr] at hRk
      clear hc hV hdr HRk
      generalize elD (ks[k]'hlt) = m at *
      have HRk2 : Hid (max (max o m) (elsD (ks.drop (k + 1))) + 1 = R) := by show _ = _; omega
      have hk1 : k + 1 ≤ ks.length := hlt
      have hmx : (if (m : Int) < (o : Int) then (o : Int) else (m : Int)) = ((max o m : Nat) : Int) := by split <;> omega
      have k0 : (0 : Int) ≤ (k : Int) := by omega
      have k1 : (k : Int) < (ks.length : Int) := by omega
      clear hRk
      go_wp2_with fail
      refine Hs.mono ?_
      rintro e w1 ⟨rfl, b1⟩
      have q5' := (b1.cell hs).trans q5
      have hs' := Nat.lt_of_lt_of_le hs b1.size
      have HB' : Hid (Below w.heap.size w w1) := HB.out.trans (b1.mono HB.out.size)
      clear b1 q5 HB
      go_wp2_with fail
      refine (specMaxE (o : Int) (m : Int) _).mono ?_
      rintro e w2 ⟨rfl, rfl⟩
      rw [hmx]
      go_wp2_with fail
      go_roundw
      case rel => exact ⟨k + 1, max o m, hk1, by go_num, rfl, HRk2, q5', hs', HB'⟩
      case measure => simp [intOf]; omega
    · have hf : o + 1 = R := by
        have := HRk.out
        rw [List.drop_eq_nil_of_le (by omega)] at this
        simpa [elsD] using this
      have q1 : IntKind.i64.wrap ((o : Int) + 1) = (o : Int) + 1 := IntWalk.i64_in _ (by omega)
      have g1 : decide ((k : Int) < (ks.length : Int)) = false := decide_eq_false (by omega)
      clear HRk
      subst hf
      go_wp2_with fail
      go_ret
      exact ⟨rfl, HB.out⟩
mutual
theorem specElDeep : ∀ e : ElB, SpDeep e
  | .mk kd sp nm ats tx ks => elDeep_of kd sp nm ats tx ks (specElDeep_all ks)
theorem specElDeep_all : ∀ es : List ElB, ∀ e ∈ es, SpDeep e
  | [], _, h => nomatch h
  | x :: xs, e, h => (List.mem_cons.1 h).elim (fun he => he ▸ specElDeep x) (fun hm => specElDeep_all xs e hm)
end

end Go.Proofs.YtbmmghkieolpkaaGreatDoor.Sg

namespace Go.Proofs.YtbmmghkieolpkaaGreatDoor.Sg
open Go.ChangeShapes Go.WideShapes Go.ChangeAt Go.RowKit

theorem six_cells (w : World) (a b c d e f : Value) (t : TypeId) (g : Nat) (hg : g = w.heap.size) : ∀ j u, ([a, b, c, d, e, f])[j]? = some u → (w.alloc (.cells #[a, b, c, d, e, f] t)).cell? ((⟨g, 0, none⟩ : Addr).add j) = some u := by
  subst hg
  intro j u hj
  match j, hj with
  | 0, hj => simp at hj; subst hj; simp [Addr.add]
  | 1, hj => simp at hj; subst hj; simp [Addr.add]
  | 2, hj => simp at hj; subst hj; simp [Addr.add]
  | 3, hj => simp at hj; subst hj; simp [Addr.add]
  | 4, hj => simp at hj; subst hj; simp [Addr.add]
  | 5, hj => simp at hj; subst hj; simp [Addr.add]

/-- What a reader of one element leaves. -/
def ElLeft (p : Nat) (s : ByteArray) (i N : Nat) (R : Option (ElB × Nat)) (w' : World) (v : Value) : Prop :=
  (∃ e j, R = some (e, j) ∧ i < j ∧ j ≤ s.size ∧ ElP (N ≤ ·) w' v e ∧ RdAt w' p s ((j : Nat) : Int) true) ∨ (R = none ∧ (∃ e, ElP (N ≤ ·) w' v e) ∧ ∃ k, RdAt w' p s k false)
/-- What a reader of kids leaves. -/
def KidsLeft (p : Nat) (s : ByteArray) (i N : Nat) (R : Option (List ElB × Nat)) (w' : World) (v : Value) : Prop :=
  ∃ l, RowL w' N v l ∧ ((∃ j, R = some (l, j) ∧ i ≤ j ∧ j ≤ s.size ∧ RdAt w' p s ((j : Nat) : Int) true) ∨ (R = none ∧ ∃ k, RdAt w' p s k false))
theorem ElP.note (P : Nat → Prop) (w : World) (k : Int) (t : ByteArray) : ElP P w (.agg #[.int .i64 k, .int .i64 0, .string ⟨#[]⟩, .slice none 0 0, .string t, .slice none 0 0]) (.mk k 0 ⟨#[]⟩ [] t []) :=
  ⟨.slice none 0 0, none, 0, rfl, QP.nil P w, .inl rfl⟩
theorem kid_more {l x : List ElB} {o : Option (List ElB × Nat)} : (o.map fun r => (x ++ r.1, r.2)).map (fun r => (l ++ r.1, r.2)) = o.map fun r => ((l ++ x) ++ r.1, r.2) := by
  cases o <;> simp

set_option maxRecDepth 20000 in
set_option maxHeartbeats 16000000 in
theorem specRdKids (s : ByteArray) (p : Nat) (sp : Int) (deep i : Nat) (el : Nat → Option (ElB × Nat)) (w : World) (h : RdAt w p s (i : Int) true) (hs : s.size ≤ 1073741824) (hi : i ≤ s.size) (hd : 1 ≤ deep) (hd2 : deep ≤ 1000)
    (hE : ∀ (k : Nat) (W : World), i ≤ k → k < s.size → RdAt W p s (k : Int) true → Calls Tryz.prog 18 #[.pointer (some ⟨p, 0, none⟩), .int .i64 sp, .int .i64 ((deep - 1 : Nat) : Int)] W fun r w' => ∃ v, r = .returned v ∧ ElLeft p s k W.heap.size (el k) w' v ∧ Fr p W w') :
    Calls Tryz.prog 39 #[.pointer (some ⟨p, 0, none⟩), .int .i64 sp, .int .i64 (deep : Int)] w fun r w' => ∃ v, r = .returned v ∧ KidsLeft p s i w.heap.size (kidsL s el (s.size + 1) i) w' v ∧ Fr p w w' := by
  obtain ⟨i0, hi0, hz0, hz1, hz2⟩ := info_parts info_el
  have Hi : Hid (Tryz.prog.info? 25 = some i0) := hi0
  have Hz0 : Hid (i0.zero = some (.agg #[.int .i64 0, .int .i64 0, .string ⟨#[]⟩, .slice none 0 0, .string ⟨#[]⟩, .slice none 0 0])) := hz0
  have Hz1 : Hid (i0.size = 6) := hz1
  have Hz2 : Hid (i0.bytes = 96) := hz2
  have hp := h.lt
  have HE : Hid (∀ (k : Nat) (W : World), i ≤ k → k < s.size → RdAt W p s (k : Int) true → Calls Tryz.prog 18 #[.pointer (some ⟨p, 0, none⟩), .int .i64 sp, .int .i64 ((deep : Int) - 1)] W fun r w' => ∃ v, r = .returned v ∧ ElLeft p s k W.heap.size (el k) w' v ∧ Fr p W w') := by
    have e : ((deep - 1 : Nat) : Int) = (deep : Int) - 1 := by omega
    rw [e] at hE
    exact hE
  obtain ⟨R, HR⟩ : ∃ R, Hid (kidsL s el (s.size + 1) i = R) := ⟨_, rfl⟩
  rw [HR.out]
  have bA := (Below.refl w.heap.size w).alloc (Nat.le_refl _) (.cells #[] 25)
  have ow0 : Hid (RowL (w.alloc (.cells #[] 25)) w.heap.size _ []) := RowL.empty w w.heap.size (Nat.le_refl _)
  have HR0 : Hid (RdAt (w.alloc (.cells #[] 25)) p s (i : Int) true) := h.keep bA
  have HF0 : Hid (Fr p w (w.alloc (.cells #[] 25))) := Fr.of_below bA
  have HR1 : Hid ((kidsL s el (s.size + 1) i).map (fun r => ([] ++ r.1, r.2)) = R) := by
    show _ = _
    rw [← HR.out]
    cases kidsL s el (s.size + 1) i <;> simp
  have hi' : Hid (i ≤ s.size) := hi
  clear hi0 hz0 hz1 hz2 h bA hi hE HR
  go_enter Tryz.func39, Tryz.ntmps39
  go_wp2_with fail
  go_loopw [7] (fun ov wr => ∃ l : List ElB, l.length ≤ s.size ∧ Hid (RowL wr w.heap.size ov l) ∧ Hid (Fr p w wr) ∧ ((∃ f k : Nat, i ≤ k ∧ k ≤ s.size ∧ s.size + 1 ≤ f + k ∧ l.length ≤ k ∧ Hid ((kidsL s el f k).map (fun r => (l ++ r.1, r.2)) = R) ∧ Hid (RdAt wr p s (k : Int) true)) ∨ (Hid (R = none) ∧ ∃ k, Hid (RdAt wr p s k false)))) (fun _ wr => rdLeft s p wr)
  case atStart => exact ⟨[], Nat.zero_le _, ow0, HF0, .inl ⟨s.size + 1, i, Nat.le_refl _, hi'.out, by omega, Nat.zero_le _, HR1, HR0⟩⟩
  case round =>
    clear ow0 HR0 HF0 HR1
    obtain ⟨l, hll, HO, HF, hmode⟩ := hrel
    obtain ⟨g, oc, rfl, hg1, hg2⟩ := HO.out.form
    rcases hmode with ⟨f, k, hik, hk, hf, hlk, HRk, HD⟩ | ⟨HN, k, HD⟩
    · have c0 := HD.out.c0
      have c1 := HD.out.c1
      have c2 := HD.out.c2
      have z1 := HD.out.fz 1
      have z2 := HD.out.fz 2
      have HM : Hid (rdLeft s p wr = s.size + 2 - k) := rdLeft_on HD.out
      obtain ⟨f', rfl⟩ : ∃ f', f = f' + 1 := ⟨f - 1, by omega⟩
      have hRk := HRk.out
      rw [kidsL] at hRk
      have HS1 : Hid (∀ W, Calls Tryz.prog 28 #[.string s, .int .i64 (k : Int), .string ⟨#[60, 47]⟩] W fun e w' => e = .returned (.bool (standsB s k ltSlash)) ∧ w' = W) := fun W => specStands s k ltSlash W (by omega) (by omega) (by decide)
      cases hst : standsB s k ltSlash
      · rw [hst] at HS1 hRk
        rw [if_neg (by decide)] at hRk
        go_upto_region 2 with fail
        go_quiet ((go_at_call 28; exact Calls.quiet_of_same (HS1.out _)))
        have bn := drew_kd (Below.refl wr.heap.size wr) nq
        have HO1 : Hid (RowL (wr.drewN nq) w.heap.size _ l) := HO.out.keep bn
        have HF1 : Hid (Fr p w (wr.drewN nq)) := HF.out.trans (Fr.of_below bn)
        have HD1 : Hid (RdAt (wr.drewN nq) p s (k : Int) true) := HD.out.keep bn
        clear bn c0 c1 c2 z1 z2 HO HF HD
        generalize wr.drewN nq = w1 at *
        have c0 := HD1.out.c0
        have c1 := HD1.out.c1
        have c2 := HD1.out.c2
        have z1 := HD1.out.fz 1
        have z2 := HD1.out.fz 2
        clear HS1 HRk hg2
        have hg2 : g < w1.heap.size := by
          obtain ⟨_, _, e, _, h2⟩ := HO1.out.form
          cases e
          exact h2
        by_cases hlt : k < s.size
        · rw [if_neg (by omega)] at hRk
          have g1 : ¬ ((s.size : Int) ≤ (k : Int)) := by omega
          have g1' : decide ((s.size : Int) ≤ (k : Int)) = false := decide_eq_false g1
          go_upto_region 3 with fail
          go_quiet (fail)
          have bn := drew_kd (Below.refl w1.heap.size w1) nq
          have HO2 : Hid (RowL (w1.drewN nq) w.heap.size _ l) := HO1.out.keep bn
          have HF2 : Hid (Fr p w (w1.drewN nq)) := HF1.out.trans (Fr.of_below bn)
          have HD2 : Hid (RdAt (w1.drewN nq) p s (k : Int) true) := HD1.out.keep bn
          clear bn c0 c1 c2 z1 z2 HO1 HF1 HD1
          generalize w1.drewN nq = w2 at *
          have c0 := HD2.out.c0
          have c1 := HD2.out.c1
          have c2 := HD2.out.c2
          have z1 := HD2.out.fz 1
          have z2 := HD2.out.fz 2
          have HS2 : Hid (∀ W, Calls Tryz.prog 28 #[.string s, .int .i64 (k : Int), .string ⟨#[60, 33, 45, 45]⟩] W fun e w' => e = .returned (.bool (standsB s k openNoteB)) ∧ w' = W) := fun W => specStands s k openNoteB W (by omega) (by omega) (by decide)
          cases hno : standsB s k openNoteB
          · rw [hno] at HS2 hRk
            rw [if_neg (by decide)] at hRk
            go_upto_region 5 with fail
            go_quiet ((go_at_call 28; exact Calls.quiet_of_same (HS2.out _)))
            have bn := drew_kd (Below.refl w2.heap.size w2) nq
            have HO3 : Hid (RowL (w2.drewN nq) w.heap.size _ l) := HO2.out.keep bn
            have HF3 : Hid (Fr p w (w2.drewN nq)) := HF2.out.trans (Fr.of_below bn)
            have HD3 : Hid (RdAt (w2.drewN nq) p s (k : Int) true) := HD2.out.keep bn
            clear bn c0 c1 c2 z1 z2 HO2 HF2 HD2
            generalize w2.drewN nq = w3 at *
            have c0 := HD3.out.c0
            have c1 := HD3.out.c1
            have c2 := HD3.out.c2
            have z1 := HD3.out.fz 1
            have z2 := HD3.out.fz 2
            clear HS2
            have g0 : (0 : Int) ≤ (k : Int) := by omega
            have g3 : (k : Int) < (s.size : Int) := by omega
            have ed : s.data[k]? = some (s[k]'hlt) := by
              show s.data[k]? = some (s.data[k]'hlt)
              exact Array.getElem?_eq_getElem hlt
            by_cases h60 : (s[k]'hlt) = 60
            · rw [ed, h60, if_pos rfl] at hRk
              have g60 : (((s[k]'hlt).toNat : Int) == 60) = true := by rw [h60]; rfl
              go_upto_region 10 with fail
              go_quiet (fail)
              have bn := drew_kd (Below.refl w3.heap.size w3) nq
              have HO4 : Hid (RowL (w3.drewN nq) w.heap.size _ l) := HO3.out.keep bn
              have HF4 : Hid (Fr p w (w3.drewN nq)) := HF3.out.trans (Fr.of_below bn)
              have HD4 : Hid (RdAt (w3.drewN nq) p s (k : Int) true) := HD3.out.keep bn
              clear bn c0 c1 c2 z1 z2 HO3 HF3 HD3
              generalize w3.drewN nq = w4 at *
              have c0 := HD4.out.c0
              have c1 := HD4.out.c1
              have c2 := HD4.out.c2
              have z1 := HD4.out.fz 1
              have z2 := HD4.out.fz 2
              have qd : IntKind.i64.wrap ((deep : Int) - 1) = (deep : Int) - 1 := IntWalk.i64_in _ (by omega)
              have HC := HE.out k w4 hik hlt HD4.out
              go_wp2_with fail
              refine HC.mono ?_
              rintro r w5' ⟨v, rfl, hleft, hfr⟩
              have hgN : g < w4.heap.size := by
                obtain ⟨_, _, e, _, h2⟩ := HO4.out.form
                cases e
                exact h2
              have HO6 : Hid (RowL w5' w.heap.size _ l) := HO4.out.fr hfr hp
              have HF6 : Hid (Fr p w w5') := HF4.out.trans hfr
              have hloN : w.heap.size ≤ w4.heap.size := HF4.out.size
              clear HC HO4 HF4 HD4 c0 c1 c2 z1 z2 hfr
              generalize w4.heap.size = N4 at *
              rcases hleft with ⟨e, j, hR, hkj, hjs, heP, hD⟩ | ⟨hR, ⟨e, heP⟩, kx, hD⟩
              · obtain ⟨kd, sq, nm, ats, tx, ks⟩ := e
                have HeP : Hid (ElP (N4 ≤ ·) w5' v (.mk kd sq nm ats tx ks)) := heP
                obtain ⟨av, ka, kc, ev, ⟨xa, xc, eav, _⟩, _⟩ := heP
                subst eav
                subst ev
                rw [hR] at hRk
                have HRn : Hid ((kidsL s el f' j).map (fun r => ((l ++ [ElB.mk kd sq nm ats tx ks]) ++ r.1, r.2)) = R) := by
                  show _ = _
                  rw [← hRk]
                  exact (kid_more (x := [ElB.mk kd sq nm ats tx ks])).symm
                have HD6 : Hid (RdAt w5' p s ((j : Nat) : Int) true) := hD
                clear hRk hR hD
                obtain ⟨gq, capq, C, eV, hown, hels⟩ := HO6.out
                cases eV
                have bA := (Below.refl w5'.heap.size w5').alloc (Nat.le_refl _) (.cells #[.int .i64 kd, .int .i64 sq, .string nm, .slice xa ats.length xc, .string tx, .slice ka ks.length kc] 25)
                have O4 := hown.alloc (.cells #[.int .i64 kd, .int .i64 sq, .string nm, .slice xa ats.length xc, .string tx, .slice ka ks.length kc] 25)
                have hels4 : ∀ i (hi : i < l.length), ElP (fun b => w.heap.size ≤ b ∧ b ≠ g) (w5'.alloc (.cells #[.int .i64 kd, .int .i64 sq, .string nm, .slice xa ats.length xc, .string tx, .slice ka ks.length kc] 25)) (sixV C i) (l[i]'hi) := fun i hi => (hels i hi).stay (fun b _ h2 => bA.block b h2) bA.size
                have he4 : Hid (ElP (N4 ≤ ·) (w5'.alloc (.cells #[.int .i64 kd, .int .i64 sq, .string nm, .slice xa ats.length xc, .string tx, .slice ka ks.length kc] 25)) (.agg #[.int .i64 kd, .int .i64 sq, .string nm, .slice xa ats.length xc, .string tx, .slice ka ks.length kc]) (ElB.mk kd sq nm ats tx ks)) := (HeP.out).stay (fun b _ h2 => bA.block b h2) bA.size
                have F4 : Fr p w (w5'.alloc (.cells #[.int .i64 kd, .int .i64 sq, .string nm, .slice xa ats.length xc, .string tx, .slice ka ks.length kc] 25)) := HF6.out.trans (Fr.of_below bA)
                have D4 : RdAt (w5'.alloc (.cells #[.int .i64 kd, .int .i64 sq, .string nm, .slice xa ats.length xc, .string tx, .slice ka ks.length kc] 25)) p s _ _ := HD6.out.keep bA
                have Hels4 : Hid (∀ i (hi : i < l.length), ElP (fun b => w.heap.size ≤ b ∧ b ≠ g) (w5'.alloc (.cells #[.int .i64 kd, .int .i64 sq, .string nm, .slice xa ats.length xc, .string tx, .slice ka ks.length kc] 25)) (sixV C i) (l[i]'hi)) := hels4
                have hC6 : Hid (C.length = l.length * 6) := hown.1
                have HN' : Hid (g < N4 ∧ w.heap.size ≤ N4) := ⟨hgN, hloN⟩
                clear hels hels4 bA hown
                go_wp2_with (at_builtin; refine wpList_append_at _ rfl (.tmp 88) (.tmp 94) 23 rfl w.heap.size 25 i0 (.agg #[.int .i64 0, .int .i64 0, .string ⟨#[]⟩, .slice none 0 0, .string ⟨#[]⟩, .slice none 0 0]) 6 96 Tryz.underlying23 Hi.out Hz0.out Hz1.out Hz2.out rfl (by decide) _ l.length C rfl O4 ⟨_, 0, none⟩ 1 1 [.int .i64 kd, .int .i64 sq, .string nm, .slice xa ats.length xc, .string tx, .slice ka ks.length kc] rfl rfl (six_cells _ _ _ _ _ _ _ _ _ (by first | rfl | simp | simp [World.setCell])) (by intro u hu; simp only [List.mem_cons, List.not_mem_nil, or_false] at hu; rcases hu with rfl | rfl | rfl | rfl | rfl | rfl <;> rfl) ?x3 ?x4 ?x5 ?_)
                case x3 => unfold maxLen; omega
                case x4 => omega
                case x5 => exact F4.size
                intro v' w5 ho5 hg5 hb5
                have HO5 : Hid (RowL w5 w.heap.size v' (l ++ [(ElB.mk kd sq nm ats tx ks)])) := RowL.more rfl hC6.out Hels4.out HN'.out.1 HN'.out.2 he4.out ho5 hg5 (fun b hb => (hb5 b hb).imp (fun h => h) (fun h => by first | exact h | (simp; omega) | (simp [World.setCell]; omega)))
                have HF5 : Hid (Fr p w w5) := F4.grown O4 hg5
                have HD5 : Hid (RdAt w5 p s _ _) := D4.grown O4 hg5 hp
                have hl1 : (l ++ [(ElB.mk kd sq nm ats tx ks)]).length = l.length + 1 := by simp
                clear ho5 hg5 hb5 O4 F4 D4 Hels4 hC6 he4 HN' HO6 HF6 HD6
                go_wp2_with fail
                go_roundw
                case rel => exact ⟨l ++ [(ElB.mk kd sq nm ats tx ks)], by rw [hl1]; omega, HO5, HF5, .inl ⟨f', j, by omega, by omega, by omega, by rw [hl1]; omega, HRn, HD5⟩⟩
                case measure =>
                  rw [rdLeft_on HD5.out, HM.out]
                  omega
              · obtain ⟨kd, sq, nm, ats, tx, ks⟩ := e
                have HeP : Hid (ElP (N4 ≤ ·) w5' v (.mk kd sq nm ats tx ks)) := heP
                obtain ⟨av, ka, kc, ev, ⟨xa, xc, eav, _⟩, _⟩ := heP
                subst eav
                subst ev
                rw [hR] at hRk
                have HN : Hid (R = none) := hRk.symm
                have HD6 : Hid (RdAt w5' p s kx false) := hD
                clear hRk hR hD
                obtain ⟨gq, capq, C, eV, hown, hels⟩ := HO6.out
                cases eV
                have bA := (Below.refl w5'.heap.size w5').alloc (Nat.le_refl _) (.cells #[.int .i64 kd, .int .i64 sq, .string nm, .slice xa ats.length xc, .string tx, .slice ka ks.length kc] 25)
                have O4 := hown.alloc (.cells #[.int .i64 kd, .int .i64 sq, .string nm, .slice xa ats.length xc, .string tx, .slice ka ks.length kc] 25)
                have hels4 : ∀ i (hi : i < l.length), ElP (fun b => w.heap.size ≤ b ∧ b ≠ g) (w5'.alloc (.cells #[.int .i64 kd, .int .i64 sq, .string nm, .slice xa ats.length xc, .string tx, .slice ka ks.length kc] 25)) (sixV C i) (l[i]'hi) := fun i hi => (hels i hi).stay (fun b _ h2 => bA.block b h2) bA.size
                have he4 : Hid (ElP (N4 ≤ ·) (w5'.alloc (.cells #[.int .i64 kd, .int .i64 sq, .string nm, .slice xa ats.length xc, .string tx, .slice ka ks.length kc] 25)) (.agg #[.int .i64 kd, .int .i64 sq, .string nm, .slice xa ats.length xc, .string tx, .slice ka ks.length kc]) (ElB.mk kd sq nm ats tx ks)) := (HeP.out).stay (fun b _ h2 => bA.block b h2) bA.size
                have F4 : Fr p w (w5'.alloc (.cells #[.int .i64 kd, .int .i64 sq, .string nm, .slice xa ats.length xc, .string tx, .slice ka ks.length kc] 25)) := HF6.out.trans (Fr.of_below bA)
                have D4 : RdAt (w5'.alloc (.cells #[.int .i64 kd, .int .i64 sq, .string nm, .slice xa ats.length xc, .string tx, .slice ka ks.length kc] 25)) p s _ _ := HD6.out.keep bA
                have Hels4 : Hid (∀ i (hi : i < l.length), ElP (fun b => w.heap.size ≤ b ∧ b ≠ g) (w5'.alloc (.cells #[.int .i64 kd, .int .i64 sq, .string nm, .slice xa ats.length xc, .string tx, .slice ka ks.length kc] 25)) (sixV C i) (l[i]'hi)) := hels4
                have hC6 : Hid (C.length = l.length * 6) := hown.1
                have HN' : Hid (g < N4 ∧ w.heap.size ≤ N4) := ⟨hgN, hloN⟩
                clear hels hels4 bA hown
                go_wp2_with (at_builtin; refine wpList_append_at _ rfl (.tmp 88) (.tmp 94) 23 rfl w.heap.size 25 i0 (.agg #[.int .i64 0, .int .i64 0, .string ⟨#[]⟩, .slice none 0 0, .string ⟨#[]⟩, .slice none 0 0]) 6 96 Tryz.underlying23 Hi.out Hz0.out Hz1.out Hz2.out rfl (by decide) _ l.length C rfl O4 ⟨_, 0, none⟩ 1 1 [.int .i64 kd, .int .i64 sq, .string nm, .slice xa ats.length xc, .string tx, .slice ka ks.length kc] rfl rfl (six_cells _ _ _ _ _ _ _ _ _ (by first | rfl | simp | simp [World.setCell])) (by intro u hu; simp only [List.mem_cons, List.not_mem_nil, or_false] at hu; rcases hu with rfl | rfl | rfl | rfl | rfl | rfl <;> rfl) ?x3 ?x4 ?x5 ?_)
                case x3 => unfold maxLen; omega
                case x4 => omega
                case x5 => exact F4.size
                intro v' w5 ho5 hg5 hb5
                have HO5 : Hid (RowL w5 w.heap.size v' (l ++ [(ElB.mk kd sq nm ats tx ks)])) := RowL.more rfl hC6.out Hels4.out HN'.out.1 HN'.out.2 he4.out ho5 hg5 (fun b hb => (hb5 b hb).imp (fun h => h) (fun h => by first | exact h | (simp; omega) | (simp [World.setCell]; omega)))
                have HF5 : Hid (Fr p w w5) := F4.grown O4 hg5
                have HD5 : Hid (RdAt w5 p s _ _) := D4.grown O4 hg5 hp
                have hl1 : (l ++ [(ElB.mk kd sq nm ats tx ks)]).length = l.length + 1 := by simp
                clear ho5 hg5 hb5 O4 F4 D4 Hels4 hC6 he4 HN' HO6 HF6 HD6
                go_wp2_with fail
                go_roundw
                case rel => exact ⟨l ++ [(ElB.mk kd sq nm ats tx ks)], by rw [hl1]; omega, HO5, HF5, .inr ⟨HN, _, HD5⟩⟩
                case measure =>
                  rw [rdLeft_off HD5.out, HM.out]
                  omega
            · rw [ed, if_neg (fun e => h60 (Option.some.inj e))] at hRk
              have g60 : (((s[k]'hlt).toNat : Int) == 60) = false := by
                rw [beq_eq_false_iff_ne]
                intro e
                apply h60
                exact UInt8.toNat_inj.1 (by show (s[k]'hlt).toNat = 60; omega)
              have hxt := xtI_lt hlt (by rw [ed]; exact fun e => h60 (Option.some.inj e))
              go_upto_region 10 with fail
              go_quiet (fail)
              have bn := drew_kd (Below.refl w3.heap.size w3) nq
              have HO4 : Hid (RowL (w3.drewN nq) w.heap.size _ l) := HO3.out.keep bn
              have HF4 : Hid (Fr p w (w3.drewN nq)) := HF3.out.trans (Fr.of_below bn)
              have HD4 : Hid (RdAt (w3.drewN nq) p s (k : Int) true) := HD3.out.keep bn
              clear bn c0 c1 c2 z1 z2 HO3 HF3 HD3
              generalize w3.drewN nq = w4 at *
              have c0 := HD4.out.c0
              have c1 := HD4.out.c1
              have c2 := HD4.out.c2
              have z1 := HD4.out.fz 1
              have z2 := HD4.out.fz 2
              have HX : Hid (∀ W, Calls Tryz.prog 70 #[.string s, .int .i64 (k : Int), .string ⟨#[60]⟩] W fun r w' => r = .returned (.tuple #[.string (xtS s (k : Int) ltS), .int .i64 (xtI s (k : Int) ltS)]) ∧ Below W.heap.size W w') := fun W => specXmlText s _ ltS W hs (by decide)
              generalize xtI s (k : Int) ltS = xi at *
              generalize xtS s (k : Int) ltS = xs at *
              have cN := fun d os => Calls.regrown_of (w := w4) (HX.out (Sort.grow (redrawn w4 d) os))
              have y0 := cell_regrown c0
              have y1 := cell_regrown c1
              go_upto_region 12 with fail
              refine wp_region_quiet_below (by kernel_rfl) (by kernel_rfl) ?_
              repeat (go_big_quiet_step (first | exact cN _ _))
              refine wpQuiet_nil ?_
              intro _ hw'
              obtain ⟨⟨dq, osq⟩, hw''⟩ := hw'
              subst hw''
              have bq := below_regrown w4 dq osq
              have HO5 : Hid (RowL (Sort.grow (redrawn w4 dq) osq) w.heap.size _ l) := HO4.out.keep bq
              have HF5 : Hid (Fr p w (Sort.grow (redrawn w4 dq) osq)) := HF4.out.trans (Fr.of_below bq)
              have HD5 : Hid (RdAt (Sort.grow (redrawn w4 dq) osq) p s (k : Int) true) := HD4.out.keep bq
              clear bq c0 c1 c2 z1 z2 HO4 HF4 HD4 cN y0 y1 HX
              generalize Sort.grow (redrawn w4 dq) osq = w5x at *
              have c2 := HD5.out.c2
              have z2 := HD5.out.fz 2
              have hgN : g < w5x.heap.size := by
                obtain ⟨_, _, e, _, h2⟩ := HO5.out.form
                cases e
                exact h2
              have hloN : w.heap.size ≤ w5x.heap.size := HF5.out.size
              by_cases hx0 : xi < 0
              · rw [if_pos hx0] at hRk
                have HN : Hid (R = none) := hRk.symm
                have gx : ¬ (0 : Int) ≤ xi := by omega
                have gx' : decide ((0 : Int) ≤ xi) = false := decide_eq_false gx
                clear hRk hxt
                have HDs : Hid (RdAt (w5x.setCell ⟨p, 2, none⟩ (.bool false)) p s (k : Int) false) := HD5.out.set2 false
                have HD6 : Hid (RdAt ((w5x.setCell ⟨p, 2, none⟩ (.bool false)).setCell ⟨p, 1, none⟩ (.int .i64 0)) p s 0 false) := HDs.out.set1 _
                have HF6 : Hid (Fr p w ((w5x.setCell ⟨p, 2, none⟩ (.bool false)).setCell ⟨p, 1, none⟩ (.int .i64 0))) := (HF5.out.trans (Fr.set _ _ _)).trans (Fr.set _ _ _)
                have HO6 : Hid (RowL ((w5x.setCell ⟨p, 2, none⟩ (.bool false)).setCell ⟨p, 1, none⟩ (.int .i64 0)) w.heap.size _ l) := (HO5.out.fr (Fr.set _ 2 (.bool false)) hp).fr (Fr.set _ 1 (.int .i64 0)) hp
                have c1 := HDs.out.c1
                have z1 := HDs.out.fz 1
                have HMx := specMaxE xi 0 (w5x.setCell ⟨p, 2, none⟩ (.bool false))
                rw [if_neg (by omega)] at HMx
                clear HO5 HF5 HD5 HDs
                go_wp2_with fail
                refine HMx.mono ?_
                rintro r w6 ⟨rfl, rfl⟩
                clear HMx
                obtain ⟨gq, capq, C, eV, hown, hels⟩ := HO6.out
                cases eV
                have bA := (Below.refl ((w5x.setCell ⟨p, 2, none⟩ (.bool false)).setCell ⟨p, 1, none⟩ (.int .i64 0)).heap.size ((w5x.setCell ⟨p, 2, none⟩ (.bool false)).setCell ⟨p, 1, none⟩ (.int .i64 0))).alloc (Nat.le_refl _) (.cells #[.int .i64 2, .int .i64 0, .string ⟨#[]⟩, .slice none 0 0, .string xs, .slice none 0 0] 25)
                have O4 := hown.alloc (.cells #[.int .i64 2, .int .i64 0, .string ⟨#[]⟩, .slice none 0 0, .string xs, .slice none 0 0] 25)
                have hels4 : ∀ i (hi : i < l.length), ElP (fun b => w.heap.size ≤ b ∧ b ≠ g) (((w5x.setCell ⟨p, 2, none⟩ (.bool false)).setCell ⟨p, 1, none⟩ (.int .i64 0)).alloc (.cells #[.int .i64 2, .int .i64 0, .string ⟨#[]⟩, .slice none 0 0, .string xs, .slice none 0 0] 25)) (sixV C i) (l[i]'hi) := fun i hi => (hels i hi).stay (fun b _ h2 => bA.block b h2) bA.size
                have he4 : Hid (ElP (w5x.heap.size ≤ ·) (((w5x.setCell ⟨p, 2, none⟩ (.bool false)).setCell ⟨p, 1, none⟩ (.int .i64 0)).alloc (.cells #[.int .i64 2, .int .i64 0, .string ⟨#[]⟩, .slice none 0 0, .string xs, .slice none 0 0] 25)) (.agg #[.int .i64 2, .int .i64 0, .string ⟨#[]⟩, .slice none 0 0, .string xs, .slice none 0 0]) (ElB.mk 2 0 ⟨#[]⟩ [] xs [])) := (ElP.note _ _ 2 xs).stay (fun b _ h2 => bA.block b h2) bA.size
                have F4 : Fr p w (((w5x.setCell ⟨p, 2, none⟩ (.bool false)).setCell ⟨p, 1, none⟩ (.int .i64 0)).alloc (.cells #[.int .i64 2, .int .i64 0, .string ⟨#[]⟩, .slice none 0 0, .string xs, .slice none 0 0] 25)) := HF6.out.trans (Fr.of_below bA)
                have D4 : RdAt (((w5x.setCell ⟨p, 2, none⟩ (.bool false)).setCell ⟨p, 1, none⟩ (.int .i64 0)).alloc (.cells #[.int .i64 2, .int .i64 0, .string ⟨#[]⟩, .slice none 0 0, .string xs, .slice none 0 0] 25)) p s _ _ := HD6.out.keep bA
                have Hels4 : Hid (∀ i (hi : i < l.length), ElP (fun b => w.heap.size ≤ b ∧ b ≠ g) (((w5x.setCell ⟨p, 2, none⟩ (.bool false)).setCell ⟨p, 1, none⟩ (.int .i64 0)).alloc (.cells #[.int .i64 2, .int .i64 0, .string ⟨#[]⟩, .slice none 0 0, .string xs, .slice none 0 0] 25)) (sixV C i) (l[i]'hi)) := hels4
                have hC6 : Hid (C.length = l.length * 6) := hown.1
                have HN' : Hid (g < w5x.heap.size ∧ w.heap.size ≤ w5x.heap.size) := ⟨hgN, hloN⟩
                clear hels hels4 bA hown
                go_wp2_with (at_builtin; refine wpList_append_at _ rfl (.tmp 118) (.tmp 121) 23 rfl w.heap.size 25 i0 (.agg #[.int .i64 0, .int .i64 0, .string ⟨#[]⟩, .slice none 0 0, .string ⟨#[]⟩, .slice none 0 0]) 6 96 Tryz.underlying23 Hi.out Hz0.out Hz1.out Hz2.out rfl (by decide) _ l.length C rfl O4 ⟨_, 0, none⟩ 1 1 [.int .i64 2, .int .i64 0, .string ⟨#[]⟩, .slice none 0 0, .string xs, .slice none 0 0] rfl rfl (six_cells _ _ _ _ _ _ _ _ _ (by first | rfl | simp | simp [World.setCell])) (by intro u hu; simp only [List.mem_cons, List.not_mem_nil, or_false] at hu; rcases hu with rfl | rfl | rfl | rfl | rfl | rfl <;> rfl) ?x3 ?x4 ?x5 ?_)
                case x3 => unfold maxLen; omega
                case x4 => omega
                case x5 => exact F4.size
                intro v' w5 ho5 hg5 hb5
                have HO5 : Hid (RowL w5 w.heap.size v' (l ++ [(ElB.mk 2 0 ⟨#[]⟩ [] xs [])])) := RowL.more rfl hC6.out Hels4.out HN'.out.1 HN'.out.2 he4.out ho5 hg5 (fun b hb => (hb5 b hb).imp (fun h => h) (fun h => by first | exact h | (simp; omega) | (simp [World.setCell]; omega)))
                have HF5 : Hid (Fr p w w5) := F4.grown O4 hg5
                have HD5 : Hid (RdAt w5 p s _ _) := D4.grown O4 hg5 hp
                have hl1 : (l ++ [(ElB.mk 2 0 ⟨#[]⟩ [] xs [])]).length = l.length + 1 := by simp
                clear ho5 hg5 hb5 O4 F4 D4 Hels4 hC6 he4 HN' HO6 HF6 HD6
                go_wp2_with fail
                go_roundw
                case rel => exact ⟨l ++ [(ElB.mk 2 0 ⟨#[]⟩ [] xs [])], by rw [hl1]; omega, HO5, HF5, .inr ⟨HN, _, HD5⟩⟩
                case measure =>
                  rw [rdLeft_off HD5.out, HM.out]
                  omega
              · rw [if_neg hx0] at hRk
                obtain ⟨j, rfl, hj1, hj2, hj3⟩ := hxt hx0
                have ej : ((j : Nat) : Int).toNat = j := by omega
                rw [ej] at hRk
                have HRn : Hid ((kidsL s el f' j).map (fun r => ((l ++ [ElB.mk 2 0 ⟨#[]⟩ [] xs []]) ++ r.1, r.2)) = R) := by
                  show _ = _
                  rw [← hRk]
                  exact (kid_more (x := [ElB.mk 2 0 ⟨#[]⟩ [] xs []])).symm
                have gx : (0 : Int) ≤ (j : Int) := by omega
                have gx' : decide ((0 : Int) ≤ (j : Int)) = true := decide_eq_true gx
                clear hRk hxt
                have HDs : Hid (RdAt (w5x.setCell ⟨p, 2, none⟩ (.bool true)) p s (k : Int) true) := HD5.out.set2 true
                have HD6 : Hid (RdAt ((w5x.setCell ⟨p, 2, none⟩ (.bool true)).setCell ⟨p, 1, none⟩ (.int .i64 (j : Int))) p s (j : Int) true) := HDs.out.set1 _
                have HF6 : Hid (Fr p w ((w5x.setCell ⟨p, 2, none⟩ (.bool true)).setCell ⟨p, 1, none⟩ (.int .i64 (j : Int)))) := (HF5.out.trans (Fr.set _ _ _)).trans (Fr.set _ _ _)
                have HO6 : Hid (RowL ((w5x.setCell ⟨p, 2, none⟩ (.bool true)).setCell ⟨p, 1, none⟩ (.int .i64 (j : Int))) w.heap.size _ l) := (HO5.out.fr (Fr.set _ 2 (.bool true)) hp).fr (Fr.set _ 1 (.int .i64 (j : Int))) hp
                have c1 := HDs.out.c1
                have z1 := HDs.out.fz 1
                have HMx := specMaxE (j : Int) 0 (w5x.setCell ⟨p, 2, none⟩ (.bool true))
                rw [if_pos (by omega)] at HMx
                clear HO5 HF5 HD5 HDs
                go_wp2_with fail
                refine HMx.mono ?_
                rintro r w6 ⟨rfl, rfl⟩
                clear HMx
                obtain ⟨gq, capq, C, eV, hown, hels⟩ := HO6.out
                cases eV
                have bA := (Below.refl ((w5x.setCell ⟨p, 2, none⟩ (.bool true)).setCell ⟨p, 1, none⟩ (.int .i64 (j : Int))).heap.size ((w5x.setCell ⟨p, 2, none⟩ (.bool true)).setCell ⟨p, 1, none⟩ (.int .i64 (j : Int)))).alloc (Nat.le_refl _) (.cells #[.int .i64 2, .int .i64 0, .string ⟨#[]⟩, .slice none 0 0, .string xs, .slice none 0 0] 25)
                have O4 := hown.alloc (.cells #[.int .i64 2, .int .i64 0, .string ⟨#[]⟩, .slice none 0 0, .string xs, .slice none 0 0] 25)
                have hels4 : ∀ i (hi : i < l.length), ElP (fun b => w.heap.size ≤ b ∧ b ≠ g) (((w5x.setCell ⟨p, 2, none⟩ (.bool true)).setCell ⟨p, 1, none⟩ (.int .i64 (j : Int))).alloc (.cells #[.int .i64 2, .int .i64 0, .string ⟨#[]⟩, .slice none 0 0, .string xs, .slice none 0 0] 25)) (sixV C i) (l[i]'hi) := fun i hi => (hels i hi).stay (fun b _ h2 => bA.block b h2) bA.size
                have he4 : Hid (ElP (w5x.heap.size ≤ ·) (((w5x.setCell ⟨p, 2, none⟩ (.bool true)).setCell ⟨p, 1, none⟩ (.int .i64 (j : Int))).alloc (.cells #[.int .i64 2, .int .i64 0, .string ⟨#[]⟩, .slice none 0 0, .string xs, .slice none 0 0] 25)) (.agg #[.int .i64 2, .int .i64 0, .string ⟨#[]⟩, .slice none 0 0, .string xs, .slice none 0 0]) (ElB.mk 2 0 ⟨#[]⟩ [] xs [])) := (ElP.note _ _ 2 xs).stay (fun b _ h2 => bA.block b h2) bA.size
                have F4 : Fr p w (((w5x.setCell ⟨p, 2, none⟩ (.bool true)).setCell ⟨p, 1, none⟩ (.int .i64 (j : Int))).alloc (.cells #[.int .i64 2, .int .i64 0, .string ⟨#[]⟩, .slice none 0 0, .string xs, .slice none 0 0] 25)) := HF6.out.trans (Fr.of_below bA)
                have D4 : RdAt (((w5x.setCell ⟨p, 2, none⟩ (.bool true)).setCell ⟨p, 1, none⟩ (.int .i64 (j : Int))).alloc (.cells #[.int .i64 2, .int .i64 0, .string ⟨#[]⟩, .slice none 0 0, .string xs, .slice none 0 0] 25)) p s _ _ := HD6.out.keep bA
                have Hels4 : Hid (∀ i (hi : i < l.length), ElP (fun b => w.heap.size ≤ b ∧ b ≠ g) (((w5x.setCell ⟨p, 2, none⟩ (.bool true)).setCell ⟨p, 1, none⟩ (.int .i64 (j : Int))).alloc (.cells #[.int .i64 2, .int .i64 0, .string ⟨#[]⟩, .slice none 0 0, .string xs, .slice none 0 0] 25)) (sixV C i) (l[i]'hi)) := hels4
                have hC6 : Hid (C.length = l.length * 6) := hown.1
                have HN' : Hid (g < w5x.heap.size ∧ w.heap.size ≤ w5x.heap.size) := ⟨hgN, hloN⟩
                clear hels hels4 bA hown
                go_wp2_with (at_builtin; refine wpList_append_at _ rfl (.tmp 118) (.tmp 121) 23 rfl w.heap.size 25 i0 (.agg #[.int .i64 0, .int .i64 0, .string ⟨#[]⟩, .slice none 0 0, .string ⟨#[]⟩, .slice none 0 0]) 6 96 Tryz.underlying23 Hi.out Hz0.out Hz1.out Hz2.out rfl (by decide) _ l.length C rfl O4 ⟨_, 0, none⟩ 1 1 [.int .i64 2, .int .i64 0, .string ⟨#[]⟩, .slice none 0 0, .string xs, .slice none 0 0] rfl rfl (six_cells _ _ _ _ _ _ _ _ _ (by first | rfl | simp | simp [World.setCell])) (by intro u hu; simp only [List.mem_cons, List.not_mem_nil, or_false] at hu; rcases hu with rfl | rfl | rfl | rfl | rfl | rfl <;> rfl) ?x3 ?x4 ?x5 ?_)
                case x3 => unfold maxLen; omega
                case x4 => omega
                case x5 => exact F4.size
                intro v' w5 ho5 hg5 hb5
                have HO5 : Hid (RowL w5 w.heap.size v' (l ++ [(ElB.mk 2 0 ⟨#[]⟩ [] xs [])])) := RowL.more rfl hC6.out Hels4.out HN'.out.1 HN'.out.2 he4.out ho5 hg5 (fun b hb => (hb5 b hb).imp (fun h => h) (fun h => by first | exact h | (simp; omega) | (simp [World.setCell]; omega)))
                have HF5 : Hid (Fr p w w5) := F4.grown O4 hg5
                have HD5 : Hid (RdAt w5 p s _ _) := D4.grown O4 hg5 hp
                have hl1 : (l ++ [(ElB.mk 2 0 ⟨#[]⟩ [] xs [])]).length = l.length + 1 := by simp
                clear ho5 hg5 hb5 O4 F4 D4 Hels4 hC6 he4 HN' HO6 HF6 HD6
                go_wp2_with fail
                go_roundw
                case rel => exact ⟨l ++ [(ElB.mk 2 0 ⟨#[]⟩ [] xs [])], by rw [hl1]; omega, HO5, HF5, .inl ⟨f', j, by omega, by omega, by omega, by rw [hl1]; omega, HRn, HD5⟩⟩
                case measure =>
                  rw [rdLeft_on HD5.out, HM.out]
                  omega
          · rw [hno] at HS2 hRk
            rw [if_pos rfl] at hRk
            have hxt := xoI_le (s := s) (i := k)
            go_upto_region 5 with fail
            go_quiet ((go_at_call 28; exact Calls.quiet_of_same (HS2.out _)))
            have bn := drew_kd (Below.refl w2.heap.size w2) nq
            have HO3 : Hid (RowL (w2.drewN nq) w.heap.size _ l) := HO2.out.keep bn
            have HF3 : Hid (Fr p w (w2.drewN nq)) := HF2.out.trans (Fr.of_below bn)
            have HD3 : Hid (RdAt (w2.drewN nq) p s (k : Int) true) := HD2.out.keep bn
            clear bn c0 c1 c2 z1 z2 HO2 HF2 HD2
            generalize w2.drewN nq = w3 at *
            have c0 := HD3.out.c0
            have c1 := HD3.out.c1
            have c2 := HD3.out.c2
            have z1 := HD3.out.fz 1
            have z2 := HD3.out.fz 2
            clear HS2
            have HX : Hid (∀ W, Calls Tryz.prog 29 #[.string s, .int .i64 (k : Int)] W fun r w' => r = .returned (.tuple #[.string (xoS s (k : Int)), .int .i64 (xoI s (k : Int))]) ∧ Below W.heap.size W w') := fun W => specXmlNote s _ W hs
            generalize xoI s (k : Int) = xi at *
            generalize xoS s (k : Int) = xs at *
            have cN := fun d os => Calls.regrown_of (w := w3) (HX.out (Sort.grow (redrawn w3 d) os))
            have y0 := cell_regrown c0
            have y1 := cell_regrown c1
            go_upto_region 6 with fail
            refine wp_region_quiet_below (by kernel_rfl) (by kernel_rfl) ?_
            repeat (go_big_quiet_step (first | exact cN _ _))
            refine wpQuiet_nil ?_
            intro _ hw'
            obtain ⟨⟨dq, osq⟩, hw''⟩ := hw'
            subst hw''
            have bq := below_regrown w3 dq osq
            have HO4 : Hid (RowL (Sort.grow (redrawn w3 dq) osq) w.heap.size _ l) := HO3.out.keep bq
            have HF4 : Hid (Fr p w (Sort.grow (redrawn w3 dq) osq)) := HF3.out.trans (Fr.of_below bq)
            have HD4 : Hid (RdAt (Sort.grow (redrawn w3 dq) osq) p s (k : Int) true) := HD3.out.keep bq
            clear bq c0 c1 c2 z1 z2 HO3 HF3 HD3 cN y0 y1 HX
            generalize Sort.grow (redrawn w3 dq) osq = w4 at *
            have c2 := HD4.out.c2
            have z2 := HD4.out.fz 2
            have hgN : g < w4.heap.size := by
              obtain ⟨_, _, e, _, h2⟩ := HO4.out.form
              cases e
              exact h2
            have hloN : w.heap.size ≤ w4.heap.size := HF4.out.size
            by_cases hx0 : xi < 0
            · rw [if_pos hx0] at hRk
              have HN : Hid (R = none) := hRk.symm
              have gx : ¬ (0 : Int) ≤ xi := by omega
              have gx' : decide ((0 : Int) ≤ xi) = false := decide_eq_false gx
              clear hRk hxt
              have HDs : Hid (RdAt (w4.setCell ⟨p, 2, none⟩ (.bool false)) p s (k : Int) false) := HD4.out.set2 false
              have HD6 : Hid (RdAt ((w4.setCell ⟨p, 2, none⟩ (.bool false)).setCell ⟨p, 1, none⟩ (.int .i64 0)) p s 0 false) := HDs.out.set1 _
              have HF6 : Hid (Fr p w ((w4.setCell ⟨p, 2, none⟩ (.bool false)).setCell ⟨p, 1, none⟩ (.int .i64 0))) := (HF4.out.trans (Fr.set _ _ _)).trans (Fr.set _ _ _)
              have HO6 : Hid (RowL ((w4.setCell ⟨p, 2, none⟩ (.bool false)).setCell ⟨p, 1, none⟩ (.int .i64 0)) w.heap.size _ l) := (HO4.out.fr (Fr.set _ 2 (.bool false)) hp).fr (Fr.set _ 1 (.int .i64 0)) hp
              have c1 := HDs.out.c1
              have z1 := HDs.out.fz 1
              have HMx := specMaxE xi 0 (w4.setCell ⟨p, 2, none⟩ (.bool false))
              rw [if_neg (by omega)] at HMx
              clear HO4 HF4 HD4 HDs
              go_wp2_with fail
              refine HMx.mono ?_
              rintro r w6 ⟨rfl, rfl⟩
              clear HMx
              obtain ⟨gq, capq, C, eV, hown, hels⟩ := HO6.out
              cases eV
              have bA := (Below.refl ((w4.setCell ⟨p, 2, none⟩ (.bool false)).setCell ⟨p, 1, none⟩ (.int .i64 0)).heap.size ((w4.setCell ⟨p, 2, none⟩ (.bool false)).setCell ⟨p, 1, none⟩ (.int .i64 0))).alloc (Nat.le_refl _) (.cells #[.int .i64 3, .int .i64 0, .string ⟨#[]⟩, .slice none 0 0, .string xs, .slice none 0 0] 25)
              have O4 := hown.alloc (.cells #[.int .i64 3, .int .i64 0, .string ⟨#[]⟩, .slice none 0 0, .string xs, .slice none 0 0] 25)
              have hels4 : ∀ i (hi : i < l.length), ElP (fun b => w.heap.size ≤ b ∧ b ≠ g) (((w4.setCell ⟨p, 2, none⟩ (.bool false)).setCell ⟨p, 1, none⟩ (.int .i64 0)).alloc (.cells #[.int .i64 3, .int .i64 0, .string ⟨#[]⟩, .slice none 0 0, .string xs, .slice none 0 0] 25)) (sixV C i) (l[i]'hi) := fun i hi => (hels i hi).stay (fun b _ h2 => bA.block b h2) bA.size
              have he4 : Hid (ElP (w4.heap.size ≤ ·) (((w4.setCell ⟨p, 2, none⟩ (.bool false)).setCell ⟨p, 1, none⟩ (.int .i64 0)).alloc (.cells #[.int .i64 3, .int .i64 0, .string ⟨#[]⟩, .slice none 0 0, .string xs, .slice none 0 0] 25)) (.agg #[.int .i64 3, .int .i64 0, .string ⟨#[]⟩, .slice none 0 0, .string xs, .slice none 0 0]) (ElB.mk 3 0 ⟨#[]⟩ [] xs [])) := (ElP.note _ _ 3 xs).stay (fun b _ h2 => bA.block b h2) bA.size
              have F4 : Fr p w (((w4.setCell ⟨p, 2, none⟩ (.bool false)).setCell ⟨p, 1, none⟩ (.int .i64 0)).alloc (.cells #[.int .i64 3, .int .i64 0, .string ⟨#[]⟩, .slice none 0 0, .string xs, .slice none 0 0] 25)) := HF6.out.trans (Fr.of_below bA)
              have D4 : RdAt (((w4.setCell ⟨p, 2, none⟩ (.bool false)).setCell ⟨p, 1, none⟩ (.int .i64 0)).alloc (.cells #[.int .i64 3, .int .i64 0, .string ⟨#[]⟩, .slice none 0 0, .string xs, .slice none 0 0] 25)) p s _ _ := HD6.out.keep bA
              have Hels4 : Hid (∀ i (hi : i < l.length), ElP (fun b => w.heap.size ≤ b ∧ b ≠ g) (((w4.setCell ⟨p, 2, none⟩ (.bool false)).setCell ⟨p, 1, none⟩ (.int .i64 0)).alloc (.cells #[.int .i64 3, .int .i64 0, .string ⟨#[]⟩, .slice none 0 0, .string xs, .slice none 0 0] 25)) (sixV C i) (l[i]'hi)) := hels4
              have hC6 : Hid (C.length = l.length * 6) := hown.1
              have HN' : Hid (g < w4.heap.size ∧ w.heap.size ≤ w4.heap.size) := ⟨hgN, hloN⟩
              clear hels hels4 bA hown
              go_wp2_with (at_builtin; refine wpList_append_at _ rfl (.tmp 73) (.tmp 76) 23 rfl w.heap.size 25 i0 (.agg #[.int .i64 0, .int .i64 0, .string ⟨#[]⟩, .slice none 0 0, .string ⟨#[]⟩, .slice none 0 0]) 6 96 Tryz.underlying23 Hi.out Hz0.out Hz1.out Hz2.out rfl (by decide) _ l.length C rfl O4 ⟨_, 0, none⟩ 1 1 [.int .i64 3, .int .i64 0, .string ⟨#[]⟩, .slice none 0 0, .string xs, .slice none 0 0] rfl rfl (six_cells _ _ _ _ _ _ _ _ _ (by first | rfl | simp | simp [World.setCell])) (by intro u hu; simp only [List.mem_cons, List.not_mem_nil, or_false] at hu; rcases hu with rfl | rfl | rfl | rfl | rfl | rfl <;> rfl) ?x3 ?x4 ?x5 ?_)
              case x3 => unfold maxLen; omega
              case x4 => omega
              case x5 => exact F4.size
              intro v' w5 ho5 hg5 hb5
              have HO5 : Hid (RowL w5 w.heap.size v' (l ++ [(ElB.mk 3 0 ⟨#[]⟩ [] xs [])])) := RowL.more rfl hC6.out Hels4.out HN'.out.1 HN'.out.2 he4.out ho5 hg5 (fun b hb => (hb5 b hb).imp (fun h => h) (fun h => by first | exact h | (simp; omega) | (simp [World.setCell]; omega)))
              have HF5 : Hid (Fr p w w5) := F4.grown O4 hg5
              have HD5 : Hid (RdAt w5 p s _ _) := D4.grown O4 hg5 hp
              have hl1 : (l ++ [(ElB.mk 3 0 ⟨#[]⟩ [] xs [])]).length = l.length + 1 := by simp
              clear ho5 hg5 hb5 O4 F4 D4 Hels4 hC6 he4 HN' HO6 HF6 HD6
              go_wp2_with fail
              go_roundw
              case rel => exact ⟨l ++ [(ElB.mk 3 0 ⟨#[]⟩ [] xs [])], by rw [hl1]; omega, HO5, HF5, .inr ⟨HN, _, HD5⟩⟩
              case measure =>
                rw [rdLeft_off HD5.out, HM.out]
                omega
            · rw [if_neg hx0] at hRk
              obtain ⟨j, rfl, hj1, hj2, hj3⟩ := hxt hx0
              have ej : ((j : Nat) : Int).toNat = j := by omega
              rw [ej] at hRk
              have HRn : Hid ((kidsL s el f' j).map (fun r => ((l ++ [ElB.mk 3 0 ⟨#[]⟩ [] xs []]) ++ r.1, r.2)) = R) := by
                show _ = _
                rw [← hRk]
                exact (kid_more (x := [ElB.mk 3 0 ⟨#[]⟩ [] xs []])).symm
              have gx : (0 : Int) ≤ (j : Int) := by omega
              have gx' : decide ((0 : Int) ≤ (j : Int)) = true := decide_eq_true gx
              clear hRk hxt
              have HDs : Hid (RdAt (w4.setCell ⟨p, 2, none⟩ (.bool true)) p s (k : Int) true) := HD4.out.set2 true
              have HD6 : Hid (RdAt ((w4.setCell ⟨p, 2, none⟩ (.bool true)).setCell ⟨p, 1, none⟩ (.int .i64 (j : Int))) p s (j : Int) true) := HDs.out.set1 _
              have HF6 : Hid (Fr p w ((w4.setCell ⟨p, 2, none⟩ (.bool true)).setCell ⟨p, 1, none⟩ (.int .i64 (j : Int)))) := (HF4.out.trans (Fr.set _ _ _)).trans (Fr.set _ _ _)
              have HO6 : Hid (RowL ((w4.setCell ⟨p, 2, none⟩ (.bool true)).setCell ⟨p, 1, none⟩ (.int .i64 (j : Int))) w.heap.size _ l) := (HO4.out.fr (Fr.set _ 2 (.bool true)) hp).fr (Fr.set _ 1 (.int .i64 (j : Int))) hp
              have c1 := HDs.out.c1
              have z1 := HDs.out.fz 1
              have HMx := specMaxE (j : Int) 0 (w4.setCell ⟨p, 2, none⟩ (.bool true))
              rw [if_pos (by omega)] at HMx
              clear HO4 HF4 HD4 HDs
              go_wp2_with fail
              refine HMx.mono ?_
              rintro r w6 ⟨rfl, rfl⟩
              clear HMx
              obtain ⟨gq, capq, C, eV, hown, hels⟩ := HO6.out
              cases eV
              have bA := (Below.refl ((w4.setCell ⟨p, 2, none⟩ (.bool true)).setCell ⟨p, 1, none⟩ (.int .i64 (j : Int))).heap.size ((w4.setCell ⟨p, 2, none⟩ (.bool true)).setCell ⟨p, 1, none⟩ (.int .i64 (j : Int)))).alloc (Nat.le_refl _) (.cells #[.int .i64 3, .int .i64 0, .string ⟨#[]⟩, .slice none 0 0, .string xs, .slice none 0 0] 25)
              have O4 := hown.alloc (.cells #[.int .i64 3, .int .i64 0, .string ⟨#[]⟩, .slice none 0 0, .string xs, .slice none 0 0] 25)
              have hels4 : ∀ i (hi : i < l.length), ElP (fun b => w.heap.size ≤ b ∧ b ≠ g) (((w4.setCell ⟨p, 2, none⟩ (.bool true)).setCell ⟨p, 1, none⟩ (.int .i64 (j : Int))).alloc (.cells #[.int .i64 3, .int .i64 0, .string ⟨#[]⟩, .slice none 0 0, .string xs, .slice none 0 0] 25)) (sixV C i) (l[i]'hi) := fun i hi => (hels i hi).stay (fun b _ h2 => bA.block b h2) bA.size
              have he4 : Hid (ElP (w4.heap.size ≤ ·) (((w4.setCell ⟨p, 2, none⟩ (.bool true)).setCell ⟨p, 1, none⟩ (.int .i64 (j : Int))).alloc (.cells #[.int .i64 3, .int .i64 0, .string ⟨#[]⟩, .slice none 0 0, .string xs, .slice none 0 0] 25)) (.agg #[.int .i64 3, .int .i64 0, .string ⟨#[]⟩, .slice none 0 0, .string xs, .slice none 0 0]) (ElB.mk 3 0 ⟨#[]⟩ [] xs [])) := (ElP.note _ _ 3 xs).stay (fun b _ h2 => bA.block b h2) bA.size
              have F4 : Fr p w (((w4.setCell ⟨p, 2, none⟩ (.bool true)).setCell ⟨p, 1, none⟩ (.int .i64 (j : Int))).alloc (.cells #[.int .i64 3, .int .i64 0, .string ⟨#[]⟩, .slice none 0 0, .string xs, .slice none 0 0] 25)) := HF6.out.trans (Fr.of_below bA)
              have D4 : RdAt (((w4.setCell ⟨p, 2, none⟩ (.bool true)).setCell ⟨p, 1, none⟩ (.int .i64 (j : Int))).alloc (.cells #[.int .i64 3, .int .i64 0, .string ⟨#[]⟩, .slice none 0 0, .string xs, .slice none 0 0] 25)) p s _ _ := HD6.out.keep bA
              have Hels4 : Hid (∀ i (hi : i < l.length), ElP (fun b => w.heap.size ≤ b ∧ b ≠ g) (((w4.setCell ⟨p, 2, none⟩ (.bool true)).setCell ⟨p, 1, none⟩ (.int .i64 (j : Int))).alloc (.cells #[.int .i64 3, .int .i64 0, .string ⟨#[]⟩, .slice none 0 0, .string xs, .slice none 0 0] 25)) (sixV C i) (l[i]'hi)) := hels4
              have hC6 : Hid (C.length = l.length * 6) := hown.1
              have HN' : Hid (g < w4.heap.size ∧ w.heap.size ≤ w4.heap.size) := ⟨hgN, hloN⟩
              clear hels hels4 bA hown
              go_wp2_with (at_builtin; refine wpList_append_at _ rfl (.tmp 73) (.tmp 76) 23 rfl w.heap.size 25 i0 (.agg #[.int .i64 0, .int .i64 0, .string ⟨#[]⟩, .slice none 0 0, .string ⟨#[]⟩, .slice none 0 0]) 6 96 Tryz.underlying23 Hi.out Hz0.out Hz1.out Hz2.out rfl (by decide) _ l.length C rfl O4 ⟨_, 0, none⟩ 1 1 [.int .i64 3, .int .i64 0, .string ⟨#[]⟩, .slice none 0 0, .string xs, .slice none 0 0] rfl rfl (six_cells _ _ _ _ _ _ _ _ _ (by first | rfl | simp | simp [World.setCell])) (by intro u hu; simp only [List.mem_cons, List.not_mem_nil, or_false] at hu; rcases hu with rfl | rfl | rfl | rfl | rfl | rfl <;> rfl) ?x3 ?x4 ?x5 ?_)
              case x3 => unfold maxLen; omega
              case x4 => omega
              case x5 => exact F4.size
              intro v' w5 ho5 hg5 hb5
              have HO5 : Hid (RowL w5 w.heap.size v' (l ++ [(ElB.mk 3 0 ⟨#[]⟩ [] xs [])])) := RowL.more rfl hC6.out Hels4.out HN'.out.1 HN'.out.2 he4.out ho5 hg5 (fun b hb => (hb5 b hb).imp (fun h => h) (fun h => by first | exact h | (simp; omega) | (simp [World.setCell]; omega)))
              have HF5 : Hid (Fr p w w5) := F4.grown O4 hg5
              have HD5 : Hid (RdAt w5 p s _ _) := D4.grown O4 hg5 hp
              have hl1 : (l ++ [(ElB.mk 3 0 ⟨#[]⟩ [] xs [])]).length = l.length + 1 := by simp
              clear ho5 hg5 hb5 O4 F4 D4 Hels4 hC6 he4 HN' HO6 HF6 HD6
              go_wp2_with fail
              go_roundw
              case rel => exact ⟨l ++ [(ElB.mk 3 0 ⟨#[]⟩ [] xs [])], by rw [hl1]; omega, HO5, HF5, .inl ⟨f', j, by omega, by omega, by omega, by rw [hl1]; omega, HRn, HD5⟩⟩
              case measure =>
                rw [rdLeft_on HD5.out, HM.out]
                omega
        · rw [if_pos (by omega)] at hRk
          have HN : Hid (R = none) := hRk.symm
          have g1 : (s.size : Int) ≤ (k : Int) := by omega
          have g1' : decide ((s.size : Int) ≤ (k : Int)) = true := decide_eq_true g1
          go_upto_region 3 with fail
          go_quiet (fail)
          have bn := drew_kd (Below.refl w1.heap.size w1) nq
          have HO2 : Hid (RowL (w1.drewN nq) w.heap.size _ l) := HO1.out.keep bn
          have HF2 : Hid (Fr p w (w1.drewN nq)) := HF1.out.trans (Fr.of_below bn)
          have HD2 : Hid (RdAt (w1.drewN nq) p s (k : Int) true) := HD1.out.keep bn
          clear bn c0 c1 c2 z1 z2 HO1 HF1 HD1
          generalize w1.drewN nq = w2 at *
          have c0 := HD2.out.c0
          have c1 := HD2.out.c1
          have c2 := HD2.out.c2
          have z1 := HD2.out.fz 1
          have z2 := HD2.out.fz 2
          have HO3 : Hid (RowL (w2.setCell ⟨p, 2, none⟩ (.bool false)) w.heap.size _ l) := HO2.out.fr (Fr.set w2 2 (.bool false)) hp
          have HF3 : Hid (Fr p w (w2.setCell ⟨p, 2, none⟩ (.bool false))) := HF2.out.trans (Fr.set _ _ _)
          have HD3 : Hid (RdAt (w2.setCell ⟨p, 2, none⟩ (.bool false)) p s (k : Int) false) := HD2.out.set2 false
          clear HO2 HF2 HD2 hRk
          go_wp2_with fail
          go_roundw
          case rel => exact ⟨l, hll, HO3, HF3, .inr ⟨HN, _, HD3⟩⟩
          case measure =>
            rw [rdLeft_off HD3.out, HM.out]
            omega
      · rw [hst] at HS1 hRk
        rw [if_pos rfl] at hRk
        have hR : R = some (l, k) := by rw [← hRk]; simp
        go_upto_region 2 with fail
        go_quiet ((go_at_call 28; exact Calls.quiet_of_same (HS1.out _)))
        have bn := drew_kd (Below.refl wr.heap.size wr) nq
        have HO1 : Hid (RowL (wr.drewN nq) w.heap.size _ l) := HO.out.keep bn
        have HF1 : Hid (Fr p w (wr.drewN nq)) := HF.out.trans (Fr.of_below bn)
        have HD1 : Hid (RdAt (wr.drewN nq) p s (k : Int) true) := HD.out.keep bn
        clear bn c0 c1 c2 z1 z2 HO HF HD
        generalize wr.drewN nq = w1 at *
        have c0 := HD1.out.c0
        have c1 := HD1.out.c1
        have c2 := HD1.out.c2
        have z1 := HD1.out.fz 1
        have z2 := HD1.out.fz 2
        clear HS1 HRk hRk
        go_wp2_with fail
        go_ret
        exact ⟨_, rfl, ⟨l, HO1.out, .inl ⟨k, hR, hik, hk, HD1.out⟩⟩, HF1.out⟩
    · have c0 := HD.out.c0
      have c1 := HD.out.c1
      have c2 := HD.out.c2
      have z1 := HD.out.fz 1
      have z2 := HD.out.fz 2
      go_upto_region 2 with fail
      go_quiet (fail)
      have bn := drew_kd (Below.refl wr.heap.size wr) nq
      have HO1 : Hid (RowL (wr.drewN nq) w.heap.size _ l) := HO.out.keep bn
      have HF1 : Hid (Fr p w (wr.drewN nq)) := HF.out.trans (Fr.of_below bn)
      have HD1 : Hid (RdAt (wr.drewN nq) p s k false) := HD.out.keep bn
      clear bn c0 c1 c2 z1 z2 HO HF HD
      generalize wr.drewN nq = w1 at *
      have c0 := HD1.out.c0
      have c1 := HD1.out.c1
      have c2 := HD1.out.c2
      have z1 := HD1.out.fz 1
      have z2 := HD1.out.fz 2
      go_wp2_with fail
      go_ret
      exact ⟨_, rfl, ⟨l, HO1.out, .inr ⟨HN.out, _, HD1.out⟩⟩, HF1.out⟩

end Go.Proofs.YtbmmghkieolpkaaGreatDoor.Sg

namespace Go.Proofs.YtbmmghkieolpkaaGreatDoor.Sg
open Go.ChangeShapes Go.WideShapes Go.ChangeAt Go.RowKit

set_option maxRecDepth 20000 in
set_option maxHeartbeats 4000000 in
theorem kids_off (s : ByteArray) (p : Nat) (sp deep i : Int) (w : World) (h : RdAt w p s i false) :
    Calls Tryz.prog 39 #[.pointer (some ⟨p, 0, none⟩), .int .i64 sp, .int .i64 deep] w fun r w' => ∃ v, r = .returned v ∧ RowL w' w.heap.size v [] ∧ RdAt w' p s i false ∧ Fr p w w' := by
  have bA := (Below.refl w.heap.size w).alloc (Nat.le_refl _) (.cells #[] 25)
  have HO : Hid (RowL (w.alloc (.cells #[] 25)) w.heap.size (.slice (some ⟨w.heap.size, 0, none⟩) 0 0) []) := RowL.empty w w.heap.size (Nat.le_refl _)
  have HD : Hid (RdAt (w.alloc (.cells #[] 25)) p s i false) := h.keep bA
  have HF : Hid (Fr p w (w.alloc (.cells #[] 25))) := Fr.of_below bA
  have c0 := HD.out.c0
  have c1 := HD.out.c1
  have c2 := HD.out.c2
  clear bA h
  go_enter Tryz.func39, Tryz.ntmps39
  go_wp2_with fail
  refine wp_loop_rounds 1 ?_
  rw [rounds_succ]
  go_upto_region 2 with fail
  go_quiet (fail)
  have bn := drew_kd (Below.refl (w.alloc (.cells #[] 25)).heap.size (w.alloc (.cells #[] 25))) nq
  have HO1 : Hid (RowL ((w.alloc (.cells #[] 25)).drewN nq) w.heap.size (.slice (some ⟨w.heap.size, 0, none⟩) 0 0) []) := HO.out.keep bn
  have HF1 : Hid (Fr p w ((w.alloc (.cells #[] 25)).drewN nq)) := HF.out.trans (Fr.of_below bn)
  have HD1 : Hid (RdAt ((w.alloc (.cells #[] 25)).drewN nq) p s i false) := HD.out.keep bn
  clear bn c0 c1 c2 HO HF HD
  generalize (w.alloc (.cells #[] 25)).drewN nq = w1 at *
  go_wp2_with fail
  go_ret
  exact ⟨_, rfl, HO1.out, HD1.out, HF1.out⟩

/-- Six cells are written anew. -/
theorem Many.all6 {w : World} {c : Nat} {f : Nat → Value} (h : Many 6 w c f) (v0 v1 v2 v3 v4 v5 : Value) : Many 6 ((((((w.setCell ⟨c, 0, none⟩ v0).setCell ⟨c, 1, none⟩ v1).setCell ⟨c, 2, none⟩ v2).setCell ⟨c, 3, none⟩ v3).setCell ⟨c, 4, none⟩ v4).setCell ⟨c, 5, none⟩ v5) c (fun i => [v0, v1, v2, v3, v4, v5].getD i undef) := by
  have h1 := ((((((h.set (i := 0) v0).set (i := 1) v1).set (i := 2) v2).set (i := 3) v3).set (i := 4) v4).set (i := 5) v5)
  refine ⟨h1.1, fun i hi => ⟨(h1.2 i hi).1.trans ?_, (h1.2 i hi).2⟩⟩
  match i, hi with
  | 0, _ => rfl
  | 1, _ => rfl
  | 2, _ => rfl
  | 3, _ => rfl
  | 4, _ => rfl
  | 5, _ => rfl
theorem agr_all6 {lo c : Nat} (w : World) (h : c < lo) (v0 v1 v2 v3 v4 v5 : Value) : Agr lo w ((((((w.setCell ⟨c, 0, none⟩ v0).setCell ⟨c, 1, none⟩ v1).setCell ⟨c, 2, none⟩ v2).setCell ⟨c, 3, none⟩ v3).setCell ⟨c, 4, none⟩ v4).setCell ⟨c, 5, none⟩ v5) :=
  (((((Agr.set w 0 v0 h).trans (Agr.set _ 1 v1 h)).trans (Agr.set _ 2 v2 h)).trans (Agr.set _ 3 v3 h)).trans (Agr.set _ 4 v4 h)).trans (Agr.set _ 5 v5 h)

end Go.Proofs.YtbmmghkieolpkaaGreatDoor.Sg

namespace Go.Proofs.YtbmmghkieolpkaaGreatDoor.Sg
open Go.ChangeShapes Go.WideShapes Go.ChangeAt Go.RowKit

theorem Many.fr {n p b : Nat} {w w' : World} {f : Nat → Value} (h : Many n w b f) (hf : Fr p w w') (hb : b ≠ p) : Many n w' b f := by
  have e := hf.block b h.1 hb
  refine ⟨Nat.lt_of_lt_of_le h.1 hf.size, fun i hi => ⟨(cell_agree e).trans (h.2 i hi).1, ?_⟩⟩
  have h2 := (h.2 i hi).2
  unfold World.frozen? at h2 ⊢
  rw [e]
  exact h2
theorem RdAt.other {w : World} {p c i : Nat} {s : ByteArray} {k : Int} {ok : Bool} {v : Value} (h : RdAt w p s k ok) (hc : c ≠ p) : RdAt (w.setCell ⟨c, i, none⟩ v) p s k ok :=
  (Below.heap_setCell _ _ _ _ (by show p ≠ c; omega)).trans h
theorem Fr.later {p c i : Nat} {w a : World} {v : Value} (h : Fr p w a) (hc : w.heap.size ≤ c) : Fr p w (a.setCell ⟨c, i, none⟩ v) :=
  ⟨h.os, h.tape, h.output, by simpa [World.setCell] using h.size, fun k hk hp => (Below.heap_setCell _ _ _ _ (by show k ≠ c; omega)).trans (h.block k hk hp)⟩
/-- What is handed back of an element that was built. -/
theorem el_fin {w W : World} {p : Nat} {s : ByteArray} {k : Int} {ok : Bool} {f : Nat → Value} {v0 v1 v2 v3 v4 v5 : Value} {e : ElB} (hp : p < w.heap.size) (hD : RdAt W p s k ok) (hF : Fr p w W) (h6 : Many 6 W w.heap.size f) (hE : ElP (w.heap.size + 2 ≤ ·) W (.agg #[v0, v1, v2, v3, v4, v5]) e) :
    Many 6 ((((((W.setCell ⟨w.heap.size, 0, none⟩ v0).setCell ⟨w.heap.size, 1, none⟩ v1).setCell ⟨w.heap.size, 2, none⟩ v2).setCell ⟨w.heap.size, 3, none⟩ v3).setCell ⟨w.heap.size, 4, none⟩ v4).setCell ⟨w.heap.size, 5, none⟩ v5) w.heap.size (fun i => [v0, v1, v2, v3, v4, v5].getD i undef) ∧
    ElP (w.heap.size ≤ ·) ((((((W.setCell ⟨w.heap.size, 0, none⟩ v0).setCell ⟨w.heap.size, 1, none⟩ v1).setCell ⟨w.heap.size, 2, none⟩ v2).setCell ⟨w.heap.size, 3, none⟩ v3).setCell ⟨w.heap.size, 4, none⟩ v4).setCell ⟨w.heap.size, 5, none⟩ v5) (.agg #[v0, v1, v2, v3, v4, v5]) e ∧
    RdAt ((((((W.setCell ⟨w.heap.size, 0, none⟩ v0).setCell ⟨w.heap.size, 1, none⟩ v1).setCell ⟨w.heap.size, 2, none⟩ v2).setCell ⟨w.heap.size, 3, none⟩ v3).setCell ⟨w.heap.size, 4, none⟩ v4).setCell ⟨w.heap.size, 5, none⟩ v5) p s k ok ∧
    Fr p w ((((((W.setCell ⟨w.heap.size, 0, none⟩ v0).setCell ⟨w.heap.size, 1, none⟩ v1).setCell ⟨w.heap.size, 2, none⟩ v2).setCell ⟨w.heap.size, 3, none⟩ v3).setCell ⟨w.heap.size, 4, none⟩ v4).setCell ⟨w.heap.size, 5, none⟩ v5) := by
  have hne : w.heap.size ≠ p := by omega
  have hag := agr_all6 (lo := w.heap.size + 2) (c := w.heap.size) W (by omega) v0 v1 v2 v3 v4 v5
  refine ⟨h6.all6 v0 v1 v2 v3 v4 v5, (hE.stay (fun b h1 _ => hag.1 b h1) hag.2).wide (fun b _ h => by omega), ?_, ?_⟩
  · exact (((((hD.other hne).other hne).other hne).other hne).other hne).other hne
  · exact (((((hF.later (Nat.le_refl _)).later (Nat.le_refl _)).later (Nat.le_refl _)).later (Nat.le_refl _)).later (Nat.le_refl _)).later (Nat.le_refl _)

theorem Many.put6 {w : World} {c : Nat} {l : List Value} (h : Many 6 w c (fun i => l.getD i undef)) (i : Nat) (v : Value) (hi : i < l.length) : Many 6 (w.setCell ⟨c, i, none⟩ v) c (fun j => (l.set i v).getD j undef) := by
  have h1 := h.set (i := i) v
  refine ⟨h1.1, fun j hj => ⟨(h1.2 j hj).1.trans ?_, (h1.2 j hj).2⟩⟩
  by_cases e : j = i
  · subst e
    simp [List.getD, hi]
  · simp [List.getD, e, Ne.symm e]
theorem kids_wide {w : World} {lo lo' : Nat} {a : Option Addr} {l : List ElB} (h : KidsIn (QP (lo ≤ ·)) (lo ≤ ·) w a l) (hl : lo' ≤ lo) : KidsIn (QP (lo' ≤ ·)) (lo' ≤ ·) w a l := by
  rcases h with h | ⟨kb, ko, e, hp, h⟩
  · exact .inl h
  · exact .inr ⟨kb, ko, e, Nat.le_trans hl hp, ElsIn.wideP (fun b _ hb => Nat.le_trans hl hb) _ _ _ h⟩
theorem xnI_le {s : ByteArray} {k : Nat} (hk : k ≤ s.size) : ∃ j : Nat, xnI s (k : Int) = (j : Int) ∧ k ≤ j ∧ j ≤ s.size ∧ (xnS s (k : Int)).size = j - k := by
  unfold xnI xnS
  have h1 : 0 ≤ (k : Int) ∧ (k : Int) ≤ s.size := by omega
  rw [if_pos h1, if_pos h1]
  have e : ((k : Int)).toNat = k := by omega
  rw [e]
  have h2 := xnameE_le s (s.size - k) k true (Nat.le_refl _) hk
  refine ⟨_, rfl, h2.1, h2.2, ?_⟩
  rw [ByteArray.size_extract]
  omega

theorem attrsR_ge (s : ByteArray) (about : Int) : ∀ (f i : Nat) (out : List AttrB) (sp : Int) (told : Bool) (r : List AttrB × Int × Nat), attrsR s about f i out sp told = some r → i ≤ r.2.2
  | 0, _, _, _, _, _, h => by cases h
  | f + 1, i, out, sp, told, r, h => by
    rw [attrsR] at h
    split at h
    · split at h
      · cases h
      · rename_i hx
        obtain ⟨j, ej, hj, _, _⟩ := xaI_le hx
        have et : (xaI s ((i : Int) + 1)).toNat = j := by omega
        rw [et] at h
        split at h
        · cases h
        · split at h
          · split at h
            · cases h
            · have := attrsR_ge s about f j _ _ _ r h
              omega
          · have := attrsR_ge s about f j _ _ _ r h
            omega
    · split at h
      · injection h with h
        rw [← h]
        exact Nat.le_refl _
      · cases h

/-- The contract of l19El where so much is left at most. -/
def ElC (s : ByteArray) (p m : Nat) : Prop := ∀ (deep i : Nat) (about : Int) (W : World), RdAt W p s (i : Int) true → i ≤ s.size → s.size + 1 - i ≤ m → deep ≤ 1000 → Calls Tryz.prog 18 #[.pointer (some ⟨p, 0, none⟩), .int .i64 about, .int .i64 (deep : Int)] W fun r w' => ∃ v, r = .returned v ∧ ElLeft p s i W.heap.size (elM s m deep i about) w' v ∧ Fr p W w'

set_option maxRecDepth 20000 in
set_option maxHeartbeats 16000000 in
theorem elC_step (s : ByteArray) (p m : Nat) (hs : s.size ≤ 1073741824) (IH : ElC s p m) : ElC s p (m + 1) := by
  intro deep i about w h hi hm hd
  have hp := h.lt
  have HIH : Hid (ElC s p m) := IH
  obtain ⟨R, HR⟩ : ∃ R, Hid (elM s (m + 1) deep i about = R) := ⟨_, rfl⟩
  rw [HR.out]
  have hR0 := HR.out
  rw [elM] at hR0
  have bA := ((Below.refl w.heap.size w).alloc (Nat.le_refl _) (.cells #[.int .i64 0, .int .i64 0, .string ⟨#[]⟩, .slice none 0 0, .string ⟨#[]⟩, .slice none 0 0] 25)).alloc (by simp) (.cells #[.int .i64 1, .int .i64 0, .string ⟨#[]⟩, .slice none 0 0, .string ⟨#[]⟩, .slice none 0 0] 25)
  have HD2 : RdAt ((w.alloc (.cells #[.int .i64 0, .int .i64 0, .string ⟨#[]⟩, .slice none 0 0, .string ⟨#[]⟩, .slice none 0 0] 25)).alloc (.cells #[.int .i64 1, .int .i64 0, .string ⟨#[]⟩, .slice none 0 0, .string ⟨#[]⟩, .slice none 0 0] 25)) p s (i : Int) true := h.keep bA
  have HF2 : Fr p w ((w.alloc (.cells #[.int .i64 0, .int .i64 0, .string ⟨#[]⟩, .slice none 0 0, .string ⟨#[]⟩, .slice none 0 0] 25)).alloc (.cells #[.int .i64 1, .int .i64 0, .string ⟨#[]⟩, .slice none 0 0, .string ⟨#[]⟩, .slice none 0 0] 25)) := Fr.of_below bA
  have G6 : Many 6 ((w.alloc (.cells #[.int .i64 0, .int .i64 0, .string ⟨#[]⟩, .slice none 0 0, .string ⟨#[]⟩, .slice none 0 0] 25)).alloc (.cells #[.int .i64 1, .int .i64 0, .string ⟨#[]⟩, .slice none 0 0, .string ⟨#[]⟩, .slice none 0 0] 25)) w.heap.size (fun i => [Value.int .i64 0, .int .i64 0, .string ⟨#[]⟩, .slice none 0 0, .string ⟨#[]⟩, .slice none 0 0].getD i undef) := (Many.new w [Value.int .i64 0, .int .i64 0, .string ⟨#[]⟩, .slice none 0 0, .string ⟨#[]⟩, .slice none 0 0] 25 undef).below (B := w.heap.size + 1) (Nat.lt_succ_self _) ((Below.refl _ _).alloc (by simp) _)
  have G7 : Many 6 ((w.alloc (.cells #[.int .i64 0, .int .i64 0, .string ⟨#[]⟩, .slice none 0 0, .string ⟨#[]⟩, .slice none 0 0] 25)).alloc (.cells #[.int .i64 1, .int .i64 0, .string ⟨#[]⟩, .slice none 0 0, .string ⟨#[]⟩, .slice none 0 0] 25)) (w.heap.size + 1) (fun i => [Value.int .i64 1, .int .i64 0, .string ⟨#[]⟩, .slice none 0 0, .string ⟨#[]⟩, .slice none 0 0].getD i undef) := by
    have h := Many.new (w.alloc (.cells #[.int .i64 0, .int .i64 0, .string ⟨#[]⟩, .slice none 0 0, .string ⟨#[]⟩, .slice none 0 0] 25)) [Value.int .i64 1, .int .i64 0, .string ⟨#[]⟩, .slice none 0 0, .string ⟨#[]⟩, .slice none 0 0] 25 undef
    have e : (w.alloc (.cells #[.int .i64 0, .int .i64 0, .string ⟨#[]⟩, .slice none 0 0, .string ⟨#[]⟩, .slice none 0 0] 25)).heap.size = w.heap.size + 1 := by simp
    rw [e] at h
    exact h
  have hz2 : ((w.alloc (.cells #[.int .i64 0, .int .i64 0, .string ⟨#[]⟩, .slice none 0 0, .string ⟨#[]⟩, .slice none 0 0] 25)).alloc (.cells #[.int .i64 1, .int .i64 0, .string ⟨#[]⟩, .slice none 0 0, .string ⟨#[]⟩, .slice none 0 0] 25)).heap.size = w.heap.size + 2 := by simp
  have h6p : w.heap.size ≠ p := by omega
  have h7p : w.heap.size + 1 ≠ p := by omega
  clear HR bA h IH
  cases hst : standsB s i ltS
  · have HT := take_no s ltS i p ((w.alloc (.cells #[.int .i64 0, .int .i64 0, .string ⟨#[]⟩, .slice none 0 0, .string ⟨#[]⟩, .slice none 0 0] 25)).alloc (.cells #[.int .i64 1, .int .i64 0, .string ⟨#[]⟩, .slice none 0 0, .string ⟨#[]⟩, .slice none 0 0] 25)) HD2 (by omega) (by omega) (by decide) hst
    have hR : R = none := by rw [← hR0, if_pos (.inl hst)]
    clear hR0
    go_enter Tryz.func18, Tryz.ntmps18
    go_wp2_with fail
    refine HT.mono ?_
    rintro r w3 ⟨rfl, hD3, hF3⟩
    have HG6 : Hid (Many 6 (w3.setCell ⟨p, 2, none⟩ (.bool false)) w.heap.size (fun i => [Value.int .i64 0, .int .i64 0, .string ⟨#[]⟩, .slice none 0 0, .string ⟨#[]⟩, .slice none 0 0].getD i undef)) := (G6.fr hF3 h6p).fr (Fr.set _ 2 (.bool false)) h6p
    have HG7 : Hid (Many 6 (w3.setCell ⟨p, 2, none⟩ (.bool false)) (w.heap.size + 1) (fun i => [Value.int .i64 1, .int .i64 0, .string ⟨#[]⟩, .slice none 0 0, .string ⟨#[]⟩, .slice none 0 0].getD i undef)) := (G7.fr hF3 h7p).fr (Fr.set _ 2 (.bool false)) h7p
    have HDf : Hid (RdAt (w3.setCell ⟨p, 2, none⟩ (.bool false)) p s (i : Int) false) := hD3.set2 false
    have HFf : Hid (Fr p w (w3.setCell ⟨p, 2, none⟩ (.bool false))) := (HF2.trans hF3).trans (Fr.set _ _ _)
    have HEf : Hid (ElP (w.heap.size + 2 ≤ ·) (w3.setCell ⟨p, 2, none⟩ (.bool false)) (.agg #[.int .i64 1, .int .i64 0, .string ⟨#[]⟩, .slice none 0 0, .string ⟨#[]⟩, .slice none 0 0]) (ElB.mk 1 0 ⟨#[]⟩ [] ⟨#[]⟩ [])) := ElP.note _ _ 1 ⟨#[]⟩
    have c2 := hD3.c2
    have z2 := hD3.fz 2
    clear HT G6 G7 HD2 HF2 hD3 hF3 hz2
    have Y := HG7.out
    have X := HG6.out
    have y0 := (Y.2 0 (by decide)).1
    have y1 := (Y.2 1 (by decide)).1
    have y2 := (Y.2 2 (by decide)).1
    have y3 := (Y.2 3 (by decide)).1
    have y4 := (Y.2 4 (by decide)).1
    have y5 := (Y.2 5 (by decide)).1
    have r0 := (X.2 0 (by decide)).1
    have r1 := (X.2 1 (by decide)).1
    have r2 := (X.2 2 (by decide)).1
    have r3 := (X.2 3 (by decide)).1
    have r4 := (X.2 4 (by decide)).1
    have r5 := (X.2 5 (by decide)).1
    have s0 := (X.2 0 (by decide)).2
    have s1 := (X.2 1 (by decide)).2
    have s2 := (X.2 2 (by decide)).2
    have s3 := (X.2 3 (by decide)).2
    have s4 := (X.2 4 (by decide)).2
    have s5 := (X.2 5 (by decide)).2
    simp at y0 y1 y2 y3 y4 y5 r0 r1 r2 r3 r4 r5
    have HFIN : Hid _ := el_fin hp HDf.out HFf.out HG6.out HEf.out
    clear X Y HG6 HG7 HDf HFf HEf
    go_wp2_with fail
    refine bodyPost_ret (v := .agg #[.int .i64 1, .int .i64 0, .string ⟨#[]⟩, .slice none 0 0, .string ⟨#[]⟩, .slice none 0 0]) ?_ rfl ⟨_, rfl, .inr ⟨hR, ⟨_, HFIN.out.2.1⟩, _, HFIN.out.2.2.1⟩, HFIN.out.2.2.2⟩
    have T := HFIN.out.1
    have t0 := (T.2 0 (by decide)).1
    have t1 := (T.2 1 (by decide)).1
    have t2 := (T.2 2 (by decide)).1
    have t3 := (T.2 3 (by decide)).1
    have t4 := (T.2 4 (by decide)).1
    have t5 := (T.2 5 (by decide)).1
    simp at t0 t1 t2 t3 t4 t5
    simp [results, Tryz.results18, go_sem, t0, t1, t2, t3, t4, t5]
  · have hi1 := stands_le hst
    have e1 : ltS.size = 1 := rfl
    have HT := take_yes s ltS i p ((w.alloc (.cells #[.int .i64 0, .int .i64 0, .string ⟨#[]⟩, .slice none 0 0, .string ⟨#[]⟩, .slice none 0 0] 25)).alloc (.cells #[.int .i64 1, .int .i64 0, .string ⟨#[]⟩, .slice none 0 0, .string ⟨#[]⟩, .slice none 0 0] 25)) HD2 (by omega) (by omega) (by decide) hst
    rw [e1] at HT hi1
    by_cases hdz : deep = 0
    · subst hdz
      have hR : R = none := by rw [← hR0, if_pos (.inr rfl)]
      clear hR0
      go_enter Tryz.func18, Tryz.ntmps18
      go_wp2_with fail
      refine HT.mono ?_
      rintro r w3 ⟨rfl, hD3, hF3⟩
      have HG6 : Hid (Many 6 (w3.setCell ⟨p, 2, none⟩ (.bool false)) w.heap.size (fun i => [Value.int .i64 0, .int .i64 0, .string ⟨#[]⟩, .slice none 0 0, .string ⟨#[]⟩, .slice none 0 0].getD i undef)) := (G6.fr hF3 h6p).fr (Fr.set _ 2 (.bool false)) h6p
      have HG7 : Hid (Many 6 (w3.setCell ⟨p, 2, none⟩ (.bool false)) (w.heap.size + 1) (fun i => [Value.int .i64 1, .int .i64 0, .string ⟨#[]⟩, .slice none 0 0, .string ⟨#[]⟩, .slice none 0 0].getD i undef)) := (G7.fr hF3 h7p).fr (Fr.set _ 2 (.bool false)) h7p
      have HDf : Hid (RdAt (w3.setCell ⟨p, 2, none⟩ (.bool false)) p s _ false) := hD3.set2 false
      have HFf : Hid (Fr p w (w3.setCell ⟨p, 2, none⟩ (.bool false))) := (HF2.trans hF3).trans (Fr.set _ _ _)
      have HEf : Hid (ElP (w.heap.size + 2 ≤ ·) (w3.setCell ⟨p, 2, none⟩ (.bool false)) (.agg #[.int .i64 1, .int .i64 0, .string ⟨#[]⟩, .slice none 0 0, .string ⟨#[]⟩, .slice none 0 0]) (ElB.mk 1 0 ⟨#[]⟩ [] ⟨#[]⟩ [])) := ElP.note _ _ 1 ⟨#[]⟩
      have c2 := hD3.c2
      have z2 := hD3.fz 2
      clear HT G6 G7 HD2 HF2 hD3 hF3 hz2
      have Y := HG7.out
      have X := HG6.out
      have y0 := (Y.2 0 (by decide)).1
      have y1 := (Y.2 1 (by decide)).1
      have y2 := (Y.2 2 (by decide)).1
      have y3 := (Y.2 3 (by decide)).1
      have y4 := (Y.2 4 (by decide)).1
      have y5 := (Y.2 5 (by decide)).1
      have r0 := (X.2 0 (by decide)).1
      have r1 := (X.2 1 (by decide)).1
      have r2 := (X.2 2 (by decide)).1
      have r3 := (X.2 3 (by decide)).1
      have r4 := (X.2 4 (by decide)).1
      have r5 := (X.2 5 (by decide)).1
      have s0 := (X.2 0 (by decide)).2
      have s1 := (X.2 1 (by decide)).2
      have s2 := (X.2 2 (by decide)).2
      have s3 := (X.2 3 (by decide)).2
      have s4 := (X.2 4 (by decide)).2
      have s5 := (X.2 5 (by decide)).2
      simp at y0 y1 y2 y3 y4 y5 r0 r1 r2 r3 r4 r5
      have HFIN : Hid _ := el_fin hp HDf.out HFf.out HG6.out HEf.out
      clear X Y HG6 HG7 HDf HFf HEf
      go_wp2_with fail
      refine bodyPost_ret (v := .agg #[.int .i64 1, .int .i64 0, .string ⟨#[]⟩, .slice none 0 0, .string ⟨#[]⟩, .slice none 0 0]) ?_ rfl ⟨_, rfl, .inr ⟨hR, ⟨_, HFIN.out.2.1⟩, _, HFIN.out.2.2.1⟩, HFIN.out.2.2.2⟩
      have T := HFIN.out.1
      have t0 := (T.2 0 (by decide)).1
      have t1 := (T.2 1 (by decide)).1
      have t2 := (T.2 2 (by decide)).1
      have t3 := (T.2 3 (by decide)).1
      have t4 := (T.2 4 (by decide)).1
      have t5 := (T.2 5 (by decide)).1
      simp at t0 t1 t2 t3 t4 t5
      simp [results, Tryz.results18, go_sem, t0, t1, t2, t3, t4, t5]
    · rw [if_neg (by rintro (h | h); exact absurd (hst.symm.trans h) (by decide); exact hdz h)] at hR0
      have gd : ((deep : Int) == 0) = false := by rw [beq_eq_false_iff_ne]; omega
      have HX : Hid (∀ W, Calls Tryz.prog 37 #[.string s, .int .i64 ((i + 1 : Nat) : Int)] W fun r w' => r = .returned (.tuple #[.string (xnS s ((i + 1 : Nat) : Int)), .int .i64 (xnI s ((i + 1 : Nat) : Int))]) ∧ Below W.heap.size W w') := fun W => specXmlName s _ W hs
      obtain ⟨j1, ej1, hj1, hj2, hj3⟩ := xnI_le (s := s) (k := i + 1) hi1
      rw [ej1] at hR0 HX
      have etn : ((j1 : Nat) : Int).toNat = j1 := by omega
      rw [etn] at hR0
      generalize xnS s ((i + 1 : Nat) : Int) = xn at *
      go_enter Tryz.func18, Tryz.ntmps18
      go_wp2_with fail
      refine HT.mono ?_
      rintro r w3 ⟨rfl, hD3, hF3⟩
      have A6 := G6.fr hF3 h6p
      have A7 : Many 6 w3 (w.heap.size + 1) (fun i => [Value.int .i64 1, .int .i64 0, .string ⟨#[]⟩, .slice none 0 0, .string ⟨#[]⟩, .slice none 0 0].getD i undef) := G7.fr hF3 h7p
      have AF := HF2.trans hF3
      have hsz : w.heap.size + 2 ≤ w3.heap.size := by rw [← hz2]; exact hF3.size
      have c0 := hD3.c0
      have c1 := hD3.c1
      have c2 := hD3.c2
      clear HT G6 G7 HD2 HF2 hF3 hz2 hst ej1 etn e1
      have cN := fun d os => Calls.regrown_of (w := w3) (HX.out (Sort.grow (redrawn w3 d) os))
      have y0 := cell_regrown c0
      have y1 := cell_regrown c1
      go_upto_region 6 with fail
      refine wp_region_quiet_below (by kernel_rfl) (by kernel_rfl) ?_
      repeat (go_big_quiet_step (first | exact cN _ _))
      refine wpQuiet_nil ?_
      intro _ hw'
      obtain ⟨⟨dq, osq⟩, hw''⟩ := hw'
      subst hw''
      have bq := below_regrown w3 dq osq
      have B6 : Many 6 (Sort.grow (redrawn w3 dq) osq) w.heap.size _ := A6.below A6.1 bq
      have B7 : Many 6 (Sort.grow (redrawn w3 dq) osq) (w.heap.size + 1) (fun i => [Value.int .i64 1, .int .i64 0, .string ⟨#[]⟩, .slice none 0 0, .string ⟨#[]⟩, .slice none 0 0].getD i undef) := A7.below A7.1 bq
      have BF : Fr p w (Sort.grow (redrawn w3 dq) osq) := AF.trans (Fr.of_below bq)
      have BD : RdAt (Sort.grow (redrawn w3 dq) osq) p s ((i + 1 : Nat) : Int) true := hD3.keep bq
      have hsz4 : w.heap.size + 2 ≤ (Sort.grow (redrawn w3 dq) osq).heap.size := Nat.le_trans hsz bq.size
      clear A6 A7 AF hD3 hsz c0 c1 c2 cN y0 y1 bq HX
      generalize Sort.grow (redrawn w3 dq) osq = w4 at *
      have c2 := BD.c2
      have z2 := BD.fz 2
      by_cases hn0 : xn.size = 0
      · have hR : R = none := by rw [← hR0, if_pos hn0]
        have en : xn = ⟨#[]⟩ := by
          cases xn with
          | mk d =>
            have : d = #[] := Array.eq_empty_of_size_eq_zero hn0
            rw [this]
        subst en
        have HG6 : Hid (Many 6 (w4.setCell ⟨p, 2, none⟩ (.bool false)) w.heap.size (fun i => [Value.int .i64 0, .int .i64 0, .string ⟨#[]⟩, .slice none 0 0, .string ⟨#[]⟩, .slice none 0 0].getD i undef)) := B6.fr (Fr.set _ 2 (.bool false)) h6p
        have HG7 : Hid (Many 6 (w4.setCell ⟨p, 2, none⟩ (.bool false)) (w.heap.size + 1) (fun i => [Value.int .i64 1, .int .i64 0, .string ⟨#[]⟩, .slice none 0 0, .string ⟨#[]⟩, .slice none 0 0].getD i undef)) := B7.fr (Fr.set _ 2 (.bool false)) h7p
        have HDf : Hid (RdAt (w4.setCell ⟨p, 2, none⟩ (.bool false)) p s _ false) := BD.set2 false
        have HFf : Hid (Fr p w (w4.setCell ⟨p, 2, none⟩ (.bool false))) := BF.trans (Fr.set _ _ _)
        have HEf : Hid (ElP (w.heap.size + 2 ≤ ·) (w4.setCell ⟨p, 2, none⟩ (.bool false)) (.agg #[.int .i64 1, .int .i64 0, .string ⟨#[]⟩, .slice none 0 0, .string ⟨#[]⟩, .slice none 0 0]) (ElB.mk 1 0 ⟨#[]⟩ [] ⟨#[]⟩ [])) := ElP.note _ _ 1 ⟨#[]⟩
        clear B6 B7 BD BF hR0
        have Y := HG7.out
        have X := HG6.out
        have y0 := (Y.2 0 (by decide)).1
        have y1 := (Y.2 1 (by decide)).1
        have y2 := (Y.2 2 (by decide)).1
        have y3 := (Y.2 3 (by decide)).1
        have y4 := (Y.2 4 (by decide)).1
        have y5 := (Y.2 5 (by decide)).1
        have r0 := (X.2 0 (by decide)).1
        have r1 := (X.2 1 (by decide)).1
        have r2 := (X.2 2 (by decide)).1
        have r3 := (X.2 3 (by decide)).1
        have r4 := (X.2 4 (by decide)).1
        have r5 := (X.2 5 (by decide)).1
        have s0 := (X.2 0 (by decide)).2
        have s1 := (X.2 1 (by decide)).2
        have s2 := (X.2 2 (by decide)).2
        have s3 := (X.2 3 (by decide)).2
        have s4 := (X.2 4 (by decide)).2
        have s5 := (X.2 5 (by decide)).2
        simp at y0 y1 y2 y3 y4 y5 r0 r1 r2 r3 r4 r5
        have HFIN : Hid _ := el_fin hp HDf.out HFf.out HG6.out HEf.out
        clear X Y HG6 HG7 HDf HFf HEf
        go_wp2_with fail
        refine bodyPost_ret (v := .agg #[.int .i64 1, .int .i64 0, .string ⟨#[]⟩, .slice none 0 0, .string ⟨#[]⟩, .slice none 0 0]) ?_ rfl ⟨_, rfl, .inr ⟨hR, ⟨_, HFIN.out.2.1⟩, _, HFIN.out.2.2.1⟩, HFIN.out.2.2.2⟩
        have T := HFIN.out.1
        have t0 := (T.2 0 (by decide)).1
        have t1 := (T.2 1 (by decide)).1
        have t2 := (T.2 2 (by decide)).1
        have t3 := (T.2 3 (by decide)).1
        have t4 := (T.2 4 (by decide)).1
        have t5 := (T.2 5 (by decide)).1
        simp at t0 t1 t2 t3 t4 t5
        simp [results, Tryz.results18, go_sem, t0, t1, t2, t3, t4, t5]
      · rw [if_neg hn0] at hR0
        have gname : xn.toList.isEmpty = false := by
          rw [ByteArray.toList_eq] at *
          cases hd2 : xn.data.toList with
          | nil =>
            have : xn.size = xn.data.toList.length := Array.length_toList.symm
            rw [hd2] at this
            exact absurd this hn0
          | cons x l => rfl
        have z72 := (B7.2 2 (by decide)).2
        have y72 := (B7.2 2 (by decide)).1
        simp at y72
        have c1 := (BD.other (c := w.heap.size + 1) (i := 2) (v := .string xn) h7p).c1
        have z1 := (BD.other (c := w.heap.size + 1) (i := 2) (v := .string xn) h7p).fz 1
        have D5 : RdAt ((w4.setCell ⟨w.heap.size + 1, 2, none⟩ (.string xn)).setCell ⟨p, 1, none⟩ (.int .i64 (j1 : Int))) p s (j1 : Int) true := (BD.other h7p).set1 _
        have F5 : Fr p w ((w4.setCell ⟨w.heap.size + 1, 2, none⟩ (.string xn)).setCell ⟨p, 1, none⟩ (.int .i64 (j1 : Int))) := (BF.later (by omega)).trans (Fr.set _ _ _)
        have M6 : Many 6 ((w4.setCell ⟨w.heap.size + 1, 2, none⟩ (.string xn)).setCell ⟨p, 1, none⟩ (.int .i64 (j1 : Int))) w.heap.size _ := (B6.other (by omega) _).fr (Fr.set _ 1 _) h6p
        have M7 : Many 6 ((w4.setCell ⟨w.heap.size + 1, 2, none⟩ (.string xn)).setCell ⟨p, 1, none⟩ (.int .i64 (j1 : Int))) (w.heap.size + 1) (fun i => [Value.int .i64 1, .int .i64 0, .string xn, .slice none 0 0, .string ⟨#[]⟩, .slice none 0 0].getD i undef) := (B7.put6 2 (.string xn) (by simp)).fr (Fr.set _ 1 _) h7p
        have hsz5 : w.heap.size + 2 ≤ ((w4.setCell ⟨w.heap.size + 1, 2, none⟩ (.string xn)).setCell ⟨p, 1, none⟩ (.int .i64 (j1 : Int))).heap.size := by simpa [World.setCell] using hsz4
        have HAt := specRdAttrs s p about j1 ((w4.setCell ⟨w.heap.size + 1, 2, none⟩ (.string xn)).setCell ⟨p, 1, none⟩ (.int .i64 (j1 : Int))) D5 hs hj2
        clear B6 B7 BD BF
        go_wp2_with fail
        refine HAt.mono ?_
        rintro r w5 ⟨v, sp, rfl, hleft, hF5⟩
        obtain ⟨l, hown, hll, hvn, hcase⟩ := hleft
        obtain ⟨xa, xc, ev, _⟩ := attrs_of_own hown
        subst ev
        have N6 := M6.fr hF5 h6p
        have N7 := M7.fr hF5 h7p
        have z73 := (N7.2 3 (by decide)).2
        have y73 := (N7.2 3 (by decide)).1
        have z71 := (N7.2 1 (by decide)).2
        have y71 := (N7.2 1 (by decide)).1
        simp at y73 y71
        have A6 : Many 6 ((w5.setCell ⟨w.heap.size + 1, 3, none⟩ (.slice xa l.length xc)).setCell ⟨w.heap.size + 1, 1, none⟩ (.int .i64 sp)) w.heap.size _ := (N6.other (by omega) _).other (by omega) _
        have A7 : Many 6 ((w5.setCell ⟨w.heap.size + 1, 3, none⟩ (.slice xa l.length xc)).setCell ⟨w.heap.size + 1, 1, none⟩ (.int .i64 sp)) (w.heap.size + 1) (fun i => [Value.int .i64 1, .int .i64 sp, .string xn, .slice xa l.length xc, .string ⟨#[]⟩, .slice none 0 0].getD i undef) := (N7.put6 3 (.slice xa l.length xc) (by simp)).put6 1 (.int .i64 sp) (by simp)
        have AF : Fr p w ((w5.setCell ⟨w.heap.size + 1, 3, none⟩ (.slice xa l.length xc)).setCell ⟨w.heap.size + 1, 1, none⟩ (.int .i64 sp)) := ((F5.trans hF5).later (by omega)).later (by omega)
        have AQ : QP (w.heap.size + 2 ≤ ·) ((w5.setCell ⟨w.heap.size + 1, 3, none⟩ (.slice xa l.length xc)).setCell ⟨w.heap.size + 1, 1, none⟩ (.int .i64 sp)) (.slice xa l.length xc) l := by
          have h := (QP.of_own hown).wide (P' := (w.heap.size + 2 ≤ ·)) (fun b _ hb => Nat.le_trans hsz5 hb)
          have ag := (Agr.set w5 3 (.slice xa l.length xc) (show w.heap.size + 1 < w.heap.size + 2 by omega)).trans (Agr.set _ 1 (.int .i64 sp) (show w.heap.size + 1 < w.heap.size + 2 by omega))
          exact h.stay (fun b h1 _ => ag.1 b h1) ag.2
        have hsz : w.heap.size + 2 ≤ ((w5.setCell ⟨w.heap.size + 1, 3, none⟩ (.slice xa l.length xc)).setCell ⟨w.heap.size + 1, 1, none⟩ (.int .i64 sp)).heap.size := by
          have := Nat.le_trans hsz5 hF5.size
          simpa [World.setCell] using this
        rcases hcase with ⟨j, hRs, hjs, hDx⟩ | ⟨hRn, kx, hDx⟩
        · have hjj : j1 ≤ j := attrsR_ge s about _ _ _ _ _ _ hRs
          rw [hRs] at hR0
          simp only at hR0
          have AD : RdAt ((w5.setCell ⟨w.heap.size + 1, 3, none⟩ (.slice xa l.length xc)).setCell ⟨w.heap.size + 1, 1, none⟩ (.int .i64 sp)) p s (j : Int) true := (hDx.other h7p).other h7p
          clear HAt D5 F5 M6 M7 N6 N7 hown hvn hDx hF5 hRs
          go_upto_region 13 with fail
          generalize ((w5.setCell ⟨w.heap.size + 1, 3, none⟩ (.slice xa l.length xc)).setCell ⟨w.heap.size + 1, 1, none⟩ (.int .i64 sp)) = w6 at *
          have HS1 : Hid (∀ W, Calls Tryz.prog 28 #[.string s, .int .i64 (j : Int), .string ⟨#[47, 62]⟩] W fun e w' => e = .returned (.bool (standsB s j slashGt)) ∧ w' = W) := fun W => specStands s j slashGt W (by omega) (by omega) (by decide)
          cases hsl : standsB s j slashGt
          · rw [hsl] at HS1 hR0
            rw [if_neg (by decide)] at hR0
            have c0 := AD.c0
            have c1 := AD.c1
            have c2 := AD.c2
            go_upto_region 13 with fail
            go_quiet ((go_at_call 28; exact Calls.quiet_of_same (HS1.out _)))
            have bn := drew_kd (Below.refl w6.heap.size w6) nq
            have A6' : Many 6 (w6.drewN nq) w.heap.size _ := A6.below A6.1 bn
            have A7' : Many 6 (w6.drewN nq) (w.heap.size + 1) (fun i => [Value.int .i64 1, .int .i64 sp, .string xn, .slice xa l.length xc, .string ⟨#[]⟩, .slice none 0 0].getD i undef) := A7.below A7.1 bn
            have AF' : Fr p w (w6.drewN nq) := AF.trans (Fr.of_below bn)
            have AQ' : QP (w.heap.size + 2 ≤ ·) (w6.drewN nq) (.slice xa l.length xc) l := AQ.stay (fun b _ h2 => bn.block b h2) bn.size
            have AD' : RdAt (w6.drewN nq) p s (j : Int) true := AD.keep bn
            have hsz' : w.heap.size + 2 ≤ (w6.drewN nq).heap.size := Nat.le_trans hsz bn.size
            clear A6 A7 AF AQ AD hsz bn c0 c1 c2
            generalize w6.drewN nq = w7 at *
            clear HS1
            cases hgt : standsB s j gtS
            · rw [if_pos hgt] at hR0
              have hR : R = none := hR0.symm
              have HT := take_no s gtS j p w7 AD' (by omega) (by omega) (by decide) hgt
              go_wp2_with fail
              refine HT.mono ?_
              rintro r w8 ⟨rfl, AD, hFt⟩
              have A6 := A6'.fr hFt h6p
              have A7 : Many 6 w8 (w.heap.size + 1) (fun i => [Value.int .i64 1, .int .i64 sp, .string xn, .slice xa l.length xc, .string ⟨#[]⟩, .slice none 0 0].getD i undef) := A7'.fr hFt h7p
              have AF := AF'.trans hFt
              have AQ : QP (w.heap.size + 2 ≤ ·) w8 (.slice xa l.length xc) l := AQ'.stay (fun b h1 h2 => hFt.block b h2 (by omega)) hFt.size
              have hsz : w.heap.size + 2 ≤ w8.heap.size := Nat.le_trans hsz' hFt.size
              clear A6' A7' AF' AQ' AD' hsz' hFt
              clear HT hR0
              have HK := kids_off s p sp deep (j : Int) w8 AD
              have hKlo : w.heap.size + 2 ≤ w8.heap.size := hsz
              have x1 := (A7.2 1 (by decide)).1
              simp at x1
              go_wp2_with fail
              refine HK.mono ?_
              rintro r wk ⟨vk, rfl, hrow, Dk, hFk⟩
              have Gk6 := A6.fr hFk h6p
              have Gk7 : Many 6 wk (w.heap.size + 1) (fun i => [Value.int .i64 1, .int .i64 sp, .string xn, .slice xa l.length xc, .string ⟨#[]⟩, .slice none 0 0].getD i undef) := A7.fr hFk h7p
              have Fk := AF.trans hFk
              have Qk : QP (w.heap.size + 2 ≤ ·) wk (.slice xa l.length xc) l := AQ.stay (fun b h1 h2 => hFk.block b h2 (by omega)) hFk.size
              obtain ⟨lk, elk⟩ : ∃ lk : List ElB, lk = [] := ⟨_, rfl⟩
              rw [← elk] at hrow
              clear elk
              have t1 : ¬ 9223372036854775807 < 2 + xn.size := by omega
              have t2 : ¬ 9223372036854775807 < 2 + xn.size + 1 := by omega
              have x5 := (Gk7.2 5 (by decide)).1
              have q5 := (Gk7.2 5 (by decide)).2
              simp at x5
              clear HK A6 A7 AD AF AQ hFk x1
              obtain ⟨gk, ck, evk, hkk⟩ := RowL.kids hrow
              subst evk
              have W9s : Fr p w (wk.setCell ⟨w.heap.size + 1, 5, none⟩ (.slice (some ⟨gk, 0, none⟩) lk.length ck)) := Fk.later (by omega)
              have D9 := Dk.other (c := w.heap.size + 1) (i := 5) (v := .slice (some ⟨gk, 0, none⟩) lk.length ck) h7p
              have G69 : Many 6 (wk.setCell ⟨w.heap.size + 1, 5, none⟩ (.slice (some ⟨gk, 0, none⟩) lk.length ck)) w.heap.size _ := Gk6.other (by omega) _
              have G79 : Many 6 (wk.setCell ⟨w.heap.size + 1, 5, none⟩ (.slice (some ⟨gk, 0, none⟩) lk.length ck)) (w.heap.size + 1) (fun i => [Value.int .i64 1, .int .i64 sp, .string xn, .slice xa l.length xc, .string ⟨#[]⟩, .slice (some ⟨gk, 0, none⟩) lk.length ck].getD i undef) := Gk7.put6 5 _ (by simp)
              have E9 : ElP (w.heap.size + 2 ≤ ·) (wk.setCell ⟨w.heap.size + 1, 5, none⟩ (.slice (some ⟨gk, 0, none⟩) lk.length ck)) (.agg #[.int .i64 1, .int .i64 sp, .string xn, .slice xa l.length xc, .string ⟨#[]⟩, .slice (some ⟨gk, 0, none⟩) lk.length ck]) (ElB.mk 1 sp xn l ⟨#[]⟩ lk) := by
                have h : ElP (w.heap.size + 2 ≤ ·) wk (.agg #[.int .i64 1, .int .i64 sp, .string xn, .slice xa l.length xc, .string ⟨#[]⟩, .slice (some ⟨gk, 0, none⟩) lk.length ck]) (ElB.mk 1 sp xn l ⟨#[]⟩ lk) := ⟨_, _, _, rfl, Qk, kids_wide hkk hKlo⟩
                exact h.stay (fun b h1 _ => (Agr.set wk 5 _ (show w.heap.size + 1 < w.heap.size + 2 by omega)).1 b h1) (Agr.set wk 5 _ (show w.heap.size + 1 < w.heap.size + 2 by omega)).2
              clear Gk6 Gk7 Dk Fk Qk hkk hrow
              go_upto_region 18 with fail
              generalize wk.setCell ⟨w.heap.size + 1, 5, none⟩ (.slice (some ⟨gk, 0, none⟩) lk.length ck) = w9 at *
              have y2 := (G79.2 2 (by decide)).1
              simp at y2
              go_wp2_with fail
              refine (take_off s _ _ p w9 D9).mono ?_
              rintro r wz ⟨rfl, hDz, hFz⟩
              have HG6 : Hid (Many 6 wz w.heap.size _) := G69.fr hFz h6p
              have HG7 : Hid (Many 6 wz (w.heap.size + 1) (fun i => [Value.int .i64 1, .int .i64 sp, .string xn, .slice xa l.length xc, .string ⟨#[]⟩, .slice (some ⟨gk, 0, none⟩) lk.length ck].getD i undef)) := G79.fr hFz h7p
              have HDf : Hid (RdAt wz p s _ _) := hDz
              have HFf : Hid (Fr p w wz) := W9s.trans hFz
              have HEf : Hid (ElP (w.heap.size + 2 ≤ ·) wz (.agg #[.int .i64 1, .int .i64 sp, .string xn, .slice xa l.length xc, .string ⟨#[]⟩, .slice (some ⟨gk, 0, none⟩) lk.length ck]) (ElB.mk 1 sp xn l ⟨#[]⟩ lk)) := E9.fr hFz (by intro h; omega)
              clear G69 G79 D9 W9s E9 hDz hFz y2
              have Y := HG7.out
              have X := HG6.out
              have y0 := (Y.2 0 (by decide)).1
              have y1 := (Y.2 1 (by decide)).1
              have y2 := (Y.2 2 (by decide)).1
              have y3 := (Y.2 3 (by decide)).1
              have y4 := (Y.2 4 (by decide)).1
              have y5 := (Y.2 5 (by decide)).1
              have r0 := (X.2 0 (by decide)).1
              have r1 := (X.2 1 (by decide)).1
              have r2 := (X.2 2 (by decide)).1
              have r3 := (X.2 3 (by decide)).1
              have r4 := (X.2 4 (by decide)).1
              have r5 := (X.2 5 (by decide)).1
              have s0 := (X.2 0 (by decide)).2
              have s1 := (X.2 1 (by decide)).2
              have s2 := (X.2 2 (by decide)).2
              have s3 := (X.2 3 (by decide)).2
              have s4 := (X.2 4 (by decide)).2
              have s5 := (X.2 5 (by decide)).2
              simp at y0 y1 y2 y3 y4 y5 r0 r1 r2 r3 r4 r5
              have HFIN : Hid _ := el_fin hp HDf.out HFf.out HG6.out HEf.out
              clear X Y HG6 HG7 HDf HFf HEf
              go_wp2_with fail
              refine bodyPost_ret (v := .agg #[.int .i64 1, .int .i64 sp, .string xn, .slice xa l.length xc, .string ⟨#[]⟩, .slice (some ⟨gk, 0, none⟩) lk.length ck]) ?_ rfl ⟨_, rfl, .inr ⟨hR, ⟨_, HFIN.out.2.1⟩, _, HFIN.out.2.2.1⟩, HFIN.out.2.2.2⟩
              have T := HFIN.out.1
              have t0 := (T.2 0 (by decide)).1
              have t1 := (T.2 1 (by decide)).1
              have t2 := (T.2 2 (by decide)).1
              have t3 := (T.2 3 (by decide)).1
              have t4 := (T.2 4 (by decide)).1
              have t5 := (T.2 5 (by decide)).1
              simp at t0 t1 t2 t3 t4 t5
              simp [results, Tryz.results18, go_sem, t0, t1, t2, t3, t4, t5]
            · rw [if_neg (by rw [hgt]; decide)] at hR0
              have HT := take_yes s gtS j p w7 AD' (by omega) (by omega) (by decide) hgt
              have hj1s := stands_le hgt
              have eg : gtS.size = 1 := rfl
              rw [eg] at HT hj1s
              go_wp2_with fail
              refine HT.mono ?_
              rintro r w8 ⟨rfl, AD, hFt⟩
              have A6 := A6'.fr hFt h6p
              have A7 : Many 6 w8 (w.heap.size + 1) (fun i => [Value.int .i64 1, .int .i64 sp, .string xn, .slice xa l.length xc, .string ⟨#[]⟩, .slice none 0 0].getD i undef) := A7'.fr hFt h7p
              have AF := AF'.trans hFt
              have AQ : QP (w.heap.size + 2 ≤ ·) w8 (.slice xa l.length xc) l := AQ'.stay (fun b h1 h2 => hFt.block b h2 (by omega)) hFt.size
              have hsz : w.heap.size + 2 ≤ w8.heap.size := Nat.le_trans hsz' hFt.size
              clear A6' A7' AF' AQ' AD' hsz' hFt
              clear HT
              have HK := specRdKids s p sp deep (j + 1) (fun q => elM s m (deep - 1) q sp) w8 AD hs hj1s (by omega) hd (fun k W hk1 hk2 hD => HIH.out (deep - 1) k sp W hD (by omega) (by omega) (by omega))
              have hKlo : w.heap.size + 2 ≤ w8.heap.size := hsz
              have x1 := (A7.2 1 (by decide)).1
              simp at x1
              go_wp2_with fail
              refine HK.mono ?_
              rintro r wk ⟨vk, rfl, ⟨lk, hrow, hcase2⟩, hFk⟩
              have Gk6 := A6.fr hFk h6p
              have Gk7 : Many 6 wk (w.heap.size + 1) (fun i => [Value.int .i64 1, .int .i64 sp, .string xn, .slice xa l.length xc, .string ⟨#[]⟩, .slice none 0 0].getD i undef) := A7.fr hFk h7p
              have Fk := AF.trans hFk
              have Qk : QP (w.heap.size + 2 ≤ ·) wk (.slice xa l.length xc) l := AQ.stay (fun b h1 h2 => hFk.block b h2 (by omega)) hFk.size
              have x5 := (Gk7.2 5 (by decide)).1
              have q5 := (Gk7.2 5 (by decide)).2
              simp at x5
              have t1 : ¬ 9223372036854775807 < 2 + xn.size := by omega
              have t2 : ¬ 9223372036854775807 < 2 + xn.size + 1 := by omega
              clear HK A6 A7 AD AF AQ hFk x1
              rcases hcase2 with ⟨jk, hRk, hjg, hjk, Dk⟩ | ⟨hRk, kx, Dk⟩
              · rw [hRk] at hR0
                simp only at hR0
                cases hcl : standsB s jk (ltSlash ++ xn ++ gtS)
                · rw [hcl, if_neg (by decide)] at hR0
                  have hR : R = none := hR0.symm
                  clear hR0
                  obtain ⟨gk, ck, evk, hkk⟩ := RowL.kids hrow
                  subst evk
                  have W9s : Fr p w (wk.setCell ⟨w.heap.size + 1, 5, none⟩ (.slice (some ⟨gk, 0, none⟩) lk.length ck)) := Fk.later (by omega)
                  have D9 := Dk.other (c := w.heap.size + 1) (i := 5) (v := .slice (some ⟨gk, 0, none⟩) lk.length ck) h7p
                  have G69 : Many 6 (wk.setCell ⟨w.heap.size + 1, 5, none⟩ (.slice (some ⟨gk, 0, none⟩) lk.length ck)) w.heap.size _ := Gk6.other (by omega) _
                  have G79 : Many 6 (wk.setCell ⟨w.heap.size + 1, 5, none⟩ (.slice (some ⟨gk, 0, none⟩) lk.length ck)) (w.heap.size + 1) (fun i => [Value.int .i64 1, .int .i64 sp, .string xn, .slice xa l.length xc, .string ⟨#[]⟩, .slice (some ⟨gk, 0, none⟩) lk.length ck].getD i undef) := Gk7.put6 5 _ (by simp)
                  have E9 : ElP (w.heap.size + 2 ≤ ·) (wk.setCell ⟨w.heap.size + 1, 5, none⟩ (.slice (some ⟨gk, 0, none⟩) lk.length ck)) (.agg #[.int .i64 1, .int .i64 sp, .string xn, .slice xa l.length xc, .string ⟨#[]⟩, .slice (some ⟨gk, 0, none⟩) lk.length ck]) (ElB.mk 1 sp xn l ⟨#[]⟩ lk) := by
                    have h : ElP (w.heap.size + 2 ≤ ·) wk (.agg #[.int .i64 1, .int .i64 sp, .string xn, .slice xa l.length xc, .string ⟨#[]⟩, .slice (some ⟨gk, 0, none⟩) lk.length ck]) (ElB.mk 1 sp xn l ⟨#[]⟩ lk) := ⟨_, _, _, rfl, Qk, kids_wide hkk hKlo⟩
                    exact h.stay (fun b h1 _ => (Agr.set wk 5 _ (show w.heap.size + 1 < w.heap.size + 2 by omega)).1 b h1) (Agr.set wk 5 _ (show w.heap.size + 1 < w.heap.size + 2 by omega)).2
                  clear Gk6 Gk7 Dk Fk Qk hkk hrow
                  go_upto_region 18 with fail
                  generalize wk.setCell ⟨w.heap.size + 1, 5, none⟩ (.slice (some ⟨gk, 0, none⟩) lk.length ck) = w9 at *
                  have y2 := (G79.2 2 (by decide)).1
                  simp at y2
                  go_wp2_with fail
                  refine (take_no s (ltSlash ++ xn ++ gtS) jk p w9 D9 (by omega) (by omega) (by simp only [ByteArray.size_append]; have a1 : ltSlash.size = 2 := rfl; have a2 : gtS.size = 1 := rfl; omega) hcl).mono ?_
                  rintro r wz ⟨rfl, hDz, hFz⟩
                  have HG6 : Hid (Many 6 wz w.heap.size _) := G69.fr hFz h6p
                  have HG7 : Hid (Many 6 wz (w.heap.size + 1) (fun i => [Value.int .i64 1, .int .i64 sp, .string xn, .slice xa l.length xc, .string ⟨#[]⟩, .slice (some ⟨gk, 0, none⟩) lk.length ck].getD i undef)) := G79.fr hFz h7p
                  have HDf : Hid (RdAt wz p s _ _) := hDz
                  have HFf : Hid (Fr p w wz) := W9s.trans hFz
                  have HEf : Hid (ElP (w.heap.size + 2 ≤ ·) wz (.agg #[.int .i64 1, .int .i64 sp, .string xn, .slice xa l.length xc, .string ⟨#[]⟩, .slice (some ⟨gk, 0, none⟩) lk.length ck]) (ElB.mk 1 sp xn l ⟨#[]⟩ lk)) := E9.fr hFz (by intro h; omega)
                  clear G69 G79 D9 W9s E9 hDz hFz y2
                  have Y := HG7.out
                  have X := HG6.out
                  have y0 := (Y.2 0 (by decide)).1
                  have y1 := (Y.2 1 (by decide)).1
                  have y2 := (Y.2 2 (by decide)).1
                  have y3 := (Y.2 3 (by decide)).1
                  have y4 := (Y.2 4 (by decide)).1
                  have y5 := (Y.2 5 (by decide)).1
                  have r0 := (X.2 0 (by decide)).1
                  have r1 := (X.2 1 (by decide)).1
                  have r2 := (X.2 2 (by decide)).1
                  have r3 := (X.2 3 (by decide)).1
                  have r4 := (X.2 4 (by decide)).1
                  have r5 := (X.2 5 (by decide)).1
                  have s0 := (X.2 0 (by decide)).2
                  have s1 := (X.2 1 (by decide)).2
                  have s2 := (X.2 2 (by decide)).2
                  have s3 := (X.2 3 (by decide)).2
                  have s4 := (X.2 4 (by decide)).2
                  have s5 := (X.2 5 (by decide)).2
                  simp at y0 y1 y2 y3 y4 y5 r0 r1 r2 r3 r4 r5
                  have HFIN : Hid _ := el_fin hp HDf.out HFf.out HG6.out HEf.out
                  clear X Y HG6 HG7 HDf HFf HEf
                  go_wp2_with fail
                  refine bodyPost_ret (v := .agg #[.int .i64 1, .int .i64 sp, .string xn, .slice xa l.length xc, .string ⟨#[]⟩, .slice (some ⟨gk, 0, none⟩) lk.length ck]) ?_ rfl ⟨_, rfl, .inr ⟨hR, ⟨_, HFIN.out.2.1⟩, _, HFIN.out.2.2.1⟩, HFIN.out.2.2.2⟩
                  have T := HFIN.out.1
                  have t0 := (T.2 0 (by decide)).1
                  have t1 := (T.2 1 (by decide)).1
                  have t2 := (T.2 2 (by decide)).1
                  have t3 := (T.2 3 (by decide)).1
                  have t4 := (T.2 4 (by decide)).1
                  have t5 := (T.2 5 (by decide)).1
                  simp at t0 t1 t2 t3 t4 t5
                  simp [results, Tryz.results18, go_sem, t0, t1, t2, t3, t4, t5]
                · rw [hcl, if_pos rfl] at hR0
                  have hcs := stands_le hcl
                  have HIJ : Hid (i < jk + (ltSlash ++ xn ++ gtS).size) := by show i < jk + _; omega
                  have hR := hR0.symm
                  clear hR0
                  obtain ⟨gk, ck, evk, hkk⟩ := RowL.kids hrow
                  subst evk
                  have W9s : Fr p w (wk.setCell ⟨w.heap.size + 1, 5, none⟩ (.slice (some ⟨gk, 0, none⟩) lk.length ck)) := Fk.later (by omega)
                  have D9 := Dk.other (c := w.heap.size + 1) (i := 5) (v := .slice (some ⟨gk, 0, none⟩) lk.length ck) h7p
                  have G69 : Many 6 (wk.setCell ⟨w.heap.size + 1, 5, none⟩ (.slice (some ⟨gk, 0, none⟩) lk.length ck)) w.heap.size _ := Gk6.other (by omega) _
                  have G79 : Many 6 (wk.setCell ⟨w.heap.size + 1, 5, none⟩ (.slice (some ⟨gk, 0, none⟩) lk.length ck)) (w.heap.size + 1) (fun i => [Value.int .i64 1, .int .i64 sp, .string xn, .slice xa l.length xc, .string ⟨#[]⟩, .slice (some ⟨gk, 0, none⟩) lk.length ck].getD i undef) := Gk7.put6 5 _ (by simp)
                  have E9 : ElP (w.heap.size + 2 ≤ ·) (wk.setCell ⟨w.heap.size + 1, 5, none⟩ (.slice (some ⟨gk, 0, none⟩) lk.length ck)) (.agg #[.int .i64 1, .int .i64 sp, .string xn, .slice xa l.length xc, .string ⟨#[]⟩, .slice (some ⟨gk, 0, none⟩) lk.length ck]) (ElB.mk 1 sp xn l ⟨#[]⟩ lk) := by
                    have h : ElP (w.heap.size + 2 ≤ ·) wk (.agg #[.int .i64 1, .int .i64 sp, .string xn, .slice xa l.length xc, .string ⟨#[]⟩, .slice (some ⟨gk, 0, none⟩) lk.length ck]) (ElB.mk 1 sp xn l ⟨#[]⟩ lk) := ⟨_, _, _, rfl, Qk, kids_wide hkk hKlo⟩
                    exact h.stay (fun b h1 _ => (Agr.set wk 5 _ (show w.heap.size + 1 < w.heap.size + 2 by omega)).1 b h1) (Agr.set wk 5 _ (show w.heap.size + 1 < w.heap.size + 2 by omega)).2
                  clear Gk6 Gk7 Dk Fk Qk hkk hrow
                  go_upto_region 18 with fail
                  generalize wk.setCell ⟨w.heap.size + 1, 5, none⟩ (.slice (some ⟨gk, 0, none⟩) lk.length ck) = w9 at *
                  have y2 := (G79.2 2 (by decide)).1
                  simp at y2
                  go_wp2_with fail
                  refine (take_yes s (ltSlash ++ xn ++ gtS) jk p w9 D9 (by omega) (by omega) (by simp only [ByteArray.size_append]; have a1 : ltSlash.size = 2 := rfl; have a2 : gtS.size = 1 := rfl; omega) hcl).mono ?_
                  rintro r wz ⟨rfl, hDz, hFz⟩
                  have HG6 : Hid (Many 6 wz w.heap.size _) := G69.fr hFz h6p
                  have HG7 : Hid (Many 6 wz (w.heap.size + 1) (fun i => [Value.int .i64 1, .int .i64 sp, .string xn, .slice xa l.length xc, .string ⟨#[]⟩, .slice (some ⟨gk, 0, none⟩) lk.length ck].getD i undef)) := G79.fr hFz h7p
                  have HDf : Hid (RdAt wz p s _ _) := hDz
                  have HFf : Hid (Fr p w wz) := W9s.trans hFz
                  have HEf : Hid (ElP (w.heap.size + 2 ≤ ·) wz (.agg #[.int .i64 1, .int .i64 sp, .string xn, .slice xa l.length xc, .string ⟨#[]⟩, .slice (some ⟨gk, 0, none⟩) lk.length ck]) (ElB.mk 1 sp xn l ⟨#[]⟩ lk)) := E9.fr hFz (by intro h; omega)
                  clear G69 G79 D9 W9s E9 hDz hFz y2
                  have Y := HG7.out
                  have X := HG6.out
                  have y0 := (Y.2 0 (by decide)).1
                  have y1 := (Y.2 1 (by decide)).1
                  have y2 := (Y.2 2 (by decide)).1
                  have y3 := (Y.2 3 (by decide)).1
                  have y4 := (Y.2 4 (by decide)).1
                  have y5 := (Y.2 5 (by decide)).1
                  have r0 := (X.2 0 (by decide)).1
                  have r1 := (X.2 1 (by decide)).1
                  have r2 := (X.2 2 (by decide)).1
                  have r3 := (X.2 3 (by decide)).1
                  have r4 := (X.2 4 (by decide)).1
                  have r5 := (X.2 5 (by decide)).1
                  have s0 := (X.2 0 (by decide)).2
                  have s1 := (X.2 1 (by decide)).2
                  have s2 := (X.2 2 (by decide)).2
                  have s3 := (X.2 3 (by decide)).2
                  have s4 := (X.2 4 (by decide)).2
                  have s5 := (X.2 5 (by decide)).2
                  simp at y0 y1 y2 y3 y4 y5 r0 r1 r2 r3 r4 r5
                  have HFIN : Hid _ := el_fin hp HDf.out HFf.out HG6.out HEf.out
                  clear X Y HG6 HG7 HDf HFf HEf
                  go_wp2_with fail
                  refine bodyPost_ret (v := .agg #[.int .i64 1, .int .i64 sp, .string xn, .slice xa l.length xc, .string ⟨#[]⟩, .slice (some ⟨gk, 0, none⟩) lk.length ck]) ?_ rfl ⟨_, rfl, .inl ⟨_, _, hR, HIJ.out, hcs, HFIN.out.2.1, HFIN.out.2.2.1⟩, HFIN.out.2.2.2⟩
                  have T := HFIN.out.1
                  have t0 := (T.2 0 (by decide)).1
                  have t1 := (T.2 1 (by decide)).1
                  have t2 := (T.2 2 (by decide)).1
                  have t3 := (T.2 3 (by decide)).1
                  have t4 := (T.2 4 (by decide)).1
                  have t5 := (T.2 5 (by decide)).1
                  simp at t0 t1 t2 t3 t4 t5
                  simp [results, Tryz.results18, go_sem, t0, t1, t2, t3, t4, t5]
              · rw [hRk] at hR0
                have hR : R = none := hR0.symm
                clear hR0
                obtain ⟨gk, ck, evk, hkk⟩ := RowL.kids hrow
                subst evk
                have W9s : Fr p w (wk.setCell ⟨w.heap.size + 1, 5, none⟩ (.slice (some ⟨gk, 0, none⟩) lk.length ck)) := Fk.later (by omega)
                have D9 := Dk.other (c := w.heap.size + 1) (i := 5) (v := .slice (some ⟨gk, 0, none⟩) lk.length ck) h7p
                have G69 : Many 6 (wk.setCell ⟨w.heap.size + 1, 5, none⟩ (.slice (some ⟨gk, 0, none⟩) lk.length ck)) w.heap.size _ := Gk6.other (by omega) _
                have G79 : Many 6 (wk.setCell ⟨w.heap.size + 1, 5, none⟩ (.slice (some ⟨gk, 0, none⟩) lk.length ck)) (w.heap.size + 1) (fun i => [Value.int .i64 1, .int .i64 sp, .string xn, .slice xa l.length xc, .string ⟨#[]⟩, .slice (some ⟨gk, 0, none⟩) lk.length ck].getD i undef) := Gk7.put6 5 _ (by simp)
                have E9 : ElP (w.heap.size + 2 ≤ ·) (wk.setCell ⟨w.heap.size + 1, 5, none⟩ (.slice (some ⟨gk, 0, none⟩) lk.length ck)) (.agg #[.int .i64 1, .int .i64 sp, .string xn, .slice xa l.length xc, .string ⟨#[]⟩, .slice (some ⟨gk, 0, none⟩) lk.length ck]) (ElB.mk 1 sp xn l ⟨#[]⟩ lk) := by
                  have h : ElP (w.heap.size + 2 ≤ ·) wk (.agg #[.int .i64 1, .int .i64 sp, .string xn, .slice xa l.length xc, .string ⟨#[]⟩, .slice (some ⟨gk, 0, none⟩) lk.length ck]) (ElB.mk 1 sp xn l ⟨#[]⟩ lk) := ⟨_, _, _, rfl, Qk, kids_wide hkk hKlo⟩
                  exact h.stay (fun b h1 _ => (Agr.set wk 5 _ (show w.heap.size + 1 < w.heap.size + 2 by omega)).1 b h1) (Agr.set wk 5 _ (show w.heap.size + 1 < w.heap.size + 2 by omega)).2
                clear Gk6 Gk7 Dk Fk Qk hkk hrow
                go_upto_region 18 with fail
                generalize wk.setCell ⟨w.heap.size + 1, 5, none⟩ (.slice (some ⟨gk, 0, none⟩) lk.length ck) = w9 at *
                have y2 := (G79.2 2 (by decide)).1
                simp at y2
                go_wp2_with fail
                refine (take_off s _ _ p w9 D9).mono ?_
                rintro r wz ⟨rfl, hDz, hFz⟩
                have HG6 : Hid (Many 6 wz w.heap.size _) := G69.fr hFz h6p
                have HG7 : Hid (Many 6 wz (w.heap.size + 1) (fun i => [Value.int .i64 1, .int .i64 sp, .string xn, .slice xa l.length xc, .string ⟨#[]⟩, .slice (some ⟨gk, 0, none⟩) lk.length ck].getD i undef)) := G79.fr hFz h7p
                have HDf : Hid (RdAt wz p s _ _) := hDz
                have HFf : Hid (Fr p w wz) := W9s.trans hFz
                have HEf : Hid (ElP (w.heap.size + 2 ≤ ·) wz (.agg #[.int .i64 1, .int .i64 sp, .string xn, .slice xa l.length xc, .string ⟨#[]⟩, .slice (some ⟨gk, 0, none⟩) lk.length ck]) (ElB.mk 1 sp xn l ⟨#[]⟩ lk)) := E9.fr hFz (by intro h; omega)
                clear G69 G79 D9 W9s E9 hDz hFz y2
                have Y := HG7.out
                have X := HG6.out
                have y0 := (Y.2 0 (by decide)).1
                have y1 := (Y.2 1 (by decide)).1
                have y2 := (Y.2 2 (by decide)).1
                have y3 := (Y.2 3 (by decide)).1
                have y4 := (Y.2 4 (by decide)).1
                have y5 := (Y.2 5 (by decide)).1
                have r0 := (X.2 0 (by decide)).1
                have r1 := (X.2 1 (by decide)).1
                have r2 := (X.2 2 (by decide)).1
                have r3 := (X.2 3 (by decide)).1
                have r4 := (X.2 4 (by decide)).1
                have r5 := (X.2 5 (by decide)).1
                have s0 := (X.2 0 (by decide)).2
                have s1 := (X.2 1 (by decide)).2
                have s2 := (X.2 2 (by decide)).2
                have s3 := (X.2 3 (by decide)).2
                have s4 := (X.2 4 (by decide)).2
                have s5 := (X.2 5 (by decide)).2
                simp at y0 y1 y2 y3 y4 y5 r0 r1 r2 r3 r4 r5
                have HFIN : Hid _ := el_fin hp HDf.out HFf.out HG6.out HEf.out
                clear X Y HG6 HG7 HDf HFf HEf
                go_wp2_with fail
                refine bodyPost_ret (v := .agg #[.int .i64 1, .int .i64 sp, .string xn, .slice xa l.length xc, .string ⟨#[]⟩, .slice (some ⟨gk, 0, none⟩) lk.length ck]) ?_ rfl ⟨_, rfl, .inr ⟨hR, ⟨_, HFIN.out.2.1⟩, _, HFIN.out.2.2.1⟩, HFIN.out.2.2.2⟩
                have T := HFIN.out.1
                have t0 := (T.2 0 (by decide)).1
                have t1 := (T.2 1 (by decide)).1
                have t2 := (T.2 2 (by decide)).1
                have t3 := (T.2 3 (by decide)).1
                have t4 := (T.2 4 (by decide)).1
                have t5 := (T.2 5 (by decide)).1
                simp at t0 t1 t2 t3 t4 t5
                simp [results, Tryz.results18, go_sem, t0, t1, t2, t3, t4, t5]
          · rw [hsl] at HS1 hR0
            rw [if_pos rfl] at hR0
            have hR := hR0.symm
            have hsz2 := stands_le hsl
            have esl : slashGt.size = 2 := rfl
            rw [esl] at hsz2
            clear hR0
            have c0 := AD.c0
            have c1 := AD.c1
            have c2 := AD.c2
            go_upto_region 13 with fail
            go_quiet ((go_at_call 28; exact Calls.quiet_of_same (HS1.out _)))
            have bn := drew_kd (Below.refl w6.heap.size w6) nq
            have A6' : Many 6 (w6.drewN nq) w.heap.size _ := A6.below A6.1 bn
            have A7' : Many 6 (w6.drewN nq) (w.heap.size + 1) (fun i => [Value.int .i64 1, .int .i64 sp, .string xn, .slice xa l.length xc, .string ⟨#[]⟩, .slice none 0 0].getD i undef) := A7.below A7.1 bn
            have AF' : Fr p w (w6.drewN nq) := AF.trans (Fr.of_below bn)
            have AQ' : QP (w.heap.size + 2 ≤ ·) (w6.drewN nq) (.slice xa l.length xc) l := AQ.stay (fun b _ h2 => bn.block b h2) bn.size
            have AD' : RdAt (w6.drewN nq) p s (j : Int) true := AD.keep bn
            have hsz' : w.heap.size + 2 ≤ (w6.drewN nq).heap.size := Nat.le_trans hsz bn.size
            clear A6 A7 AF AQ AD hsz bn c0 c1 c2
            generalize w6.drewN nq = w7 at *
            clear HS1
            have c1 := AD'.c1
            have z1 := AD'.fz 1
            have q1 : IntKind.i64.wrap ((j : Int) + 2) = (j : Int) + 2 := IntWalk.i64_in _ (by omega)
            have e2 : ((j + 2 : Nat) : Int) = (j : Int) + 2 := by omega
            have HG6 : Hid (Many 6 (w7.setCell ⟨p, 1, none⟩ (.int .i64 ((j : Int) + 2))) w.heap.size _) := A6'.fr (Fr.set _ 1 _) h6p
            have HG7 : Hid (Many 6 (w7.setCell ⟨p, 1, none⟩ (.int .i64 ((j : Int) + 2))) (w.heap.size + 1) (fun i => [Value.int .i64 1, .int .i64 sp, .string xn, .slice xa l.length xc, .string ⟨#[]⟩, .slice none 0 0].getD i undef)) := A7'.fr (Fr.set _ 1 _) h7p
            have HDf : Hid (RdAt (w7.setCell ⟨p, 1, none⟩ (.int .i64 ((j : Int) + 2))) p s ((j + 2 : Nat) : Int) true) := by rw [e2]; exact AD'.set1 _
            have HFf : Hid (Fr p w (w7.setCell ⟨p, 1, none⟩ (.int .i64 ((j : Int) + 2)))) := AF'.trans (Fr.set _ _ _)
            have HEf : Hid (ElP (w.heap.size + 2 ≤ ·) (w7.setCell ⟨p, 1, none⟩ (.int .i64 ((j : Int) + 2))) (.agg #[.int .i64 1, .int .i64 sp, .string xn, .slice xa l.length xc, .string ⟨#[]⟩, .slice none 0 0]) (ElB.mk 1 sp xn l ⟨#[]⟩ [])) := ⟨_, _, _, rfl, AQ'.stay (fun b h1 h2 => (Fr.set w7 1 (.int .i64 ((j : Int) + 2))).block b h2 (show b ≠ p by omega)) (Fr.set (p := p) w7 1 (.int .i64 ((j : Int) + 2))).size, .inl rfl⟩
            have HIJ : Hid (i < j + 2) := by show _ < _; omega
            clear A6' A7' AF' AQ' AD' e2 hsz'
            have Y := HG7.out
            have X := HG6.out
            have y0 := (Y.2 0 (by decide)).1
            have y1 := (Y.2 1 (by decide)).1
            have y2 := (Y.2 2 (by decide)).1
            have y3 := (Y.2 3 (by decide)).1
            have y4 := (Y.2 4 (by decide)).1
            have y5 := (Y.2 5 (by decide)).1
            have r0 := (X.2 0 (by decide)).1
            have r1 := (X.2 1 (by decide)).1
            have r2 := (X.2 2 (by decide)).1
            have r3 := (X.2 3 (by decide)).1
            have r4 := (X.2 4 (by decide)).1
            have r5 := (X.2 5 (by decide)).1
            have s0 := (X.2 0 (by decide)).2
            have s1 := (X.2 1 (by decide)).2
            have s2 := (X.2 2 (by decide)).2
            have s3 := (X.2 3 (by decide)).2
            have s4 := (X.2 4 (by decide)).2
            have s5 := (X.2 5 (by decide)).2
            simp at y0 y1 y2 y3 y4 y5 r0 r1 r2 r3 r4 r5
            have HFIN : Hid _ := el_fin hp HDf.out HFf.out HG6.out HEf.out
            clear X Y HG6 HG7 HDf HFf HEf
            go_wp2_with fail
            refine bodyPost_ret (v := .agg #[.int .i64 1, .int .i64 sp, .string xn, .slice xa l.length xc, .string ⟨#[]⟩, .slice none 0 0]) ?_ rfl ⟨_, rfl, .inl ⟨_, _, hR, HIJ.out, hsz2, HFIN.out.2.1, HFIN.out.2.2.1⟩, HFIN.out.2.2.2⟩
            have T := HFIN.out.1
            have t0 := (T.2 0 (by decide)).1
            have t1 := (T.2 1 (by decide)).1
            have t2 := (T.2 2 (by decide)).1
            have t3 := (T.2 3 (by decide)).1
            have t4 := (T.2 4 (by decide)).1
            have t5 := (T.2 5 (by decide)).1
            simp at t0 t1 t2 t3 t4 t5
            simp [results, Tryz.results18, go_sem, t0, t1, t2, t3, t4, t5]
        · rw [hRn] at hR0
          have hR : R = none := hR0.symm
          have AD : RdAt ((w5.setCell ⟨w.heap.size + 1, 3, none⟩ (.slice xa l.length xc)).setCell ⟨w.heap.size + 1, 1, none⟩ (.int .i64 sp)) p s kx false := (hDx.other h7p).other h7p
          clear HAt D5 F5 M6 M7 N6 N7 hown hvn hDx hF5 hRn hR0
          go_upto_region 13 with fail
          generalize ((w5.setCell ⟨w.heap.size + 1, 3, none⟩ (.slice xa l.length xc)).setCell ⟨w.heap.size + 1, 1, none⟩ (.int .i64 sp)) = w6 at *
          have c0 := AD.c0
          have c1 := AD.c1
          have c2 := AD.c2
          go_upto_region 13 with fail
          go_quiet (fail)
          have bn := drew_kd (Below.refl w6.heap.size w6) nq
          have A6' : Many 6 (w6.drewN nq) w.heap.size _ := A6.below A6.1 bn
          have A7' : Many 6 (w6.drewN nq) (w.heap.size + 1) (fun i => [Value.int .i64 1, .int .i64 sp, .string xn, .slice xa l.length xc, .string ⟨#[]⟩, .slice none 0 0].getD i undef) := A7.below A7.1 bn
          have AF' : Fr p w (w6.drewN nq) := AF.trans (Fr.of_below bn)
          have AQ' : QP (w.heap.size + 2 ≤ ·) (w6.drewN nq) (.slice xa l.length xc) l := AQ.stay (fun b _ h2 => bn.block b h2) bn.size
          have AD' : RdAt (w6.drewN nq) p s kx false := AD.keep bn
          have hsz' : w.heap.size + 2 ≤ (w6.drewN nq).heap.size := Nat.le_trans hsz bn.size
          clear A6 A7 AF AQ AD hsz bn c0 c1 c2
          generalize w6.drewN nq = w7 at *
          have HT := take_off s ⟨#[62]⟩ kx p w7 AD'
          go_wp2_with fail
          refine HT.mono ?_
          rintro r w8 ⟨rfl, AD, hFt⟩
          have A6 := A6'.fr hFt h6p
          have A7 : Many 6 w8 (w.heap.size + 1) (fun i => [Value.int .i64 1, .int .i64 sp, .string xn, .slice xa l.length xc, .string ⟨#[]⟩, .slice none 0 0].getD i undef) := A7'.fr hFt h7p
          have AF := AF'.trans hFt
          have AQ : QP (w.heap.size + 2 ≤ ·) w8 (.slice xa l.length xc) l := AQ'.stay (fun b h1 h2 => hFt.block b h2 (by omega)) hFt.size
          have hsz : w.heap.size + 2 ≤ w8.heap.size := Nat.le_trans hsz' hFt.size
          clear A6' A7' AF' AQ' AD' hsz' hFt
          clear HT
          have HK := kids_off s p sp deep kx w8 AD
          have hKlo : w.heap.size + 2 ≤ w8.heap.size := hsz
          have x1 := (A7.2 1 (by decide)).1
          simp at x1
          go_wp2_with fail
          refine HK.mono ?_
          rintro r wk ⟨vk, rfl, hrow, Dk, hFk⟩
          have Gk6 := A6.fr hFk h6p
          have Gk7 : Many 6 wk (w.heap.size + 1) (fun i => [Value.int .i64 1, .int .i64 sp, .string xn, .slice xa l.length xc, .string ⟨#[]⟩, .slice none 0 0].getD i undef) := A7.fr hFk h7p
          have Fk := AF.trans hFk
          have Qk : QP (w.heap.size + 2 ≤ ·) wk (.slice xa l.length xc) l := AQ.stay (fun b h1 h2 => hFk.block b h2 (by omega)) hFk.size
          obtain ⟨lk, elk⟩ : ∃ lk : List ElB, lk = [] := ⟨_, rfl⟩
          rw [← elk] at hrow
          clear elk
          have t1 : ¬ 9223372036854775807 < 2 + xn.size := by omega
          have t2 : ¬ 9223372036854775807 < 2 + xn.size + 1 := by omega
          have x5 := (Gk7.2 5 (by decide)).1
          have q5 := (Gk7.2 5 (by decide)).2
          simp at x5
          clear HK A6 A7 AD AF AQ hFk x1
          obtain ⟨gk, ck, evk, hkk⟩ := RowL.kids hrow
          subst evk
          have W9s : Fr p w (wk.setCell ⟨w.heap.size + 1, 5, none⟩ (.slice (some ⟨gk, 0, none⟩) lk.length ck)) := Fk.later (by omega)
          have D9 := Dk.other (c := w.heap.size + 1) (i := 5) (v := .slice (some ⟨gk, 0, none⟩) lk.length ck) h7p
          have G69 : Many 6 (wk.setCell ⟨w.heap.size + 1, 5, none⟩ (.slice (some ⟨gk, 0, none⟩) lk.length ck)) w.heap.size _ := Gk6.other (by omega) _
          have G79 : Many 6 (wk.setCell ⟨w.heap.size + 1, 5, none⟩ (.slice (some ⟨gk, 0, none⟩) lk.length ck)) (w.heap.size + 1) (fun i => [Value.int .i64 1, .int .i64 sp, .string xn, .slice xa l.length xc, .string ⟨#[]⟩, .slice (some ⟨gk, 0, none⟩) lk.length ck].getD i undef) := Gk7.put6 5 _ (by simp)
          have E9 : ElP (w.heap.size + 2 ≤ ·) (wk.setCell ⟨w.heap.size + 1, 5, none⟩ (.slice (some ⟨gk, 0, none⟩) lk.length ck)) (.agg #[.int .i64 1, .int .i64 sp, .string xn, .slice xa l.length xc, .string ⟨#[]⟩, .slice (some ⟨gk, 0, none⟩) lk.length ck]) (ElB.mk 1 sp xn l ⟨#[]⟩ lk) := by
            have h : ElP (w.heap.size + 2 ≤ ·) wk (.agg #[.int .i64 1, .int .i64 sp, .string xn, .slice xa l.length xc, .string ⟨#[]⟩, .slice (some ⟨gk, 0, none⟩) lk.length ck]) (ElB.mk 1 sp xn l ⟨#[]⟩ lk) := ⟨_, _, _, rfl, Qk, kids_wide hkk hKlo⟩
            exact h.stay (fun b h1 _ => (Agr.set wk 5 _ (show w.heap.size + 1 < w.heap.size + 2 by omega)).1 b h1) (Agr.set wk 5 _ (show w.heap.size + 1 < w.heap.size + 2 by omega)).2
          clear Gk6 Gk7 Dk Fk Qk hkk hrow
          go_upto_region 18 with fail
          generalize wk.setCell ⟨w.heap.size + 1, 5, none⟩ (.slice (some ⟨gk, 0, none⟩) lk.length ck) = w9 at *
          have y2 := (G79.2 2 (by decide)).1
          simp at y2
          go_wp2_with fail
          refine (take_off s _ _ p w9 D9).mono ?_
          rintro r wz ⟨rfl, hDz, hFz⟩
          have HG6 : Hid (Many 6 wz w.heap.size _) := G69.fr hFz h6p
          have HG7 : Hid (Many 6 wz (w.heap.size + 1) (fun i => [Value.int .i64 1, .int .i64 sp, .string xn, .slice xa l.length xc, .string ⟨#[]⟩, .slice (some ⟨gk, 0, none⟩) lk.length ck].getD i undef)) := G79.fr hFz h7p
          have HDf : Hid (RdAt wz p s _ _) := hDz
          have HFf : Hid (Fr p w wz) := W9s.trans hFz
          have HEf : Hid (ElP (w.heap.size + 2 ≤ ·) wz (.agg #[.int .i64 1, .int .i64 sp, .string xn, .slice xa l.length xc, .string ⟨#[]⟩, .slice (some ⟨gk, 0, none⟩) lk.length ck]) (ElB.mk 1 sp xn l ⟨#[]⟩ lk)) := E9.fr hFz (by intro h; omega)
          clear G69 G79 D9 W9s E9 hDz hFz y2
          have Y := HG7.out
          have X := HG6.out
          have y0 := (Y.2 0 (by decide)).1
          have y1 := (Y.2 1 (by decide)).1
          have y2 := (Y.2 2 (by decide)).1
          have y3 := (Y.2 3 (by decide)).1
          have y4 := (Y.2 4 (by decide)).1
          have y5 := (Y.2 5 (by decide)).1
          have r0 := (X.2 0 (by decide)).1
          have r1 := (X.2 1 (by decide)).1
          have r2 := (X.2 2 (by decide)).1
          have r3 := (X.2 3 (by decide)).1
          have r4 := (X.2 4 (by decide)).1
          have r5 := (X.2 5 (by decide)).1
          have s0 := (X.2 0 (by decide)).2
          have s1 := (X.2 1 (by decide)).2
          have s2 := (X.2 2 (by decide)).2
          have s3 := (X.2 3 (by decide)).2
          have s4 := (X.2 4 (by decide)).2
          have s5 := (X.2 5 (by decide)).2
          simp at y0 y1 y2 y3 y4 y5 r0 r1 r2 r3 r4 r5
          have HFIN : Hid _ := el_fin hp HDf.out HFf.out HG6.out HEf.out
          clear X Y HG6 HG7 HDf HFf HEf
          go_wp2_with fail
          refine bodyPost_ret (v := .agg #[.int .i64 1, .int .i64 sp, .string xn, .slice xa l.length xc, .string ⟨#[]⟩, .slice (some ⟨gk, 0, none⟩) lk.length ck]) ?_ rfl ⟨_, rfl, .inr ⟨hR, ⟨_, HFIN.out.2.1⟩, _, HFIN.out.2.2.1⟩, HFIN.out.2.2.2⟩
          have T := HFIN.out.1
          have t0 := (T.2 0 (by decide)).1
          have t1 := (T.2 1 (by decide)).1
          have t2 := (T.2 2 (by decide)).1
          have t3 := (T.2 3 (by decide)).1
          have t4 := (T.2 4 (by decide)).1
          have t5 := (T.2 5 (by decide)).1
          simp at t0 t1 t2 t3 t4 t5
          simp [results, Tryz.results18, go_sem, t0, t1, t2, t3, t4, t5]

theorem elC_all (s : ByteArray) (p : Nat) (hs : s.size ≤ 1073741824) : ∀ m, ElC s p m
  | 0 => fun deep i about W h hi hm hd => absurd hm (by omega)
  | m + 1 => elC_step s p m hs (elC_all s p hs m)

end Go.Proofs.YtbmmghkieolpkaaGreatDoor.Sg

namespace Go.Proofs.YtbmmghkieolpkaaGreatDoor.Sg
open Go.ChangeShapes Go.WideShapes Go.ChangeAt Go.RowKit

theorem attrsW_more (l : List AttrB) (p : AttrB) : attrsW (l ++ [p]) = attrsW l + 1 + (p.1.size + p.2.size) := by
  unfold attrsW attrW
  simp
  omega
theorem attrsR_size (s : ByteArray) (about : Int) : ∀ (f i : Nat) (out : List AttrB) (sp : Int) (told : Bool) (r : List AttrB × Int × Nat), attrsR s about f i out sp told = some r → i ≤ s.size → i ≤ r.2.2 ∧ r.2.2 ≤ s.size ∧ attrsW r.1 ≤ attrsW out + 5 * (r.2.2 - i)
  | 0, _, _, _, _, _, h, _ => by cases h
  | f + 1, i, out, sp, told, r, h, hi => by
    rw [attrsR] at h
    split at h
    · split at h
      · cases h
      · rename_i hx
        obtain ⟨j, ej, hj, hj2, hj3⟩ := xaI_le hx
        have et : (xaI s ((i : Int) + 1)).toNat = j := by omega
        rw [et] at h
        split at h
        · cases h
        · split at h
          · split at h
            · cases h
            · have := attrsR_size s about f j _ _ _ r h hj2
              omega
          · have h2 := attrsR_size s about f j _ _ _ r h hj2
            rw [attrsW_more] at h2
            simp only at h2
            omega
    · split at h
      · injection h with h
        rw [← h]
        exact ⟨Nat.le_refl _, hi, by simp⟩
      · cases h
theorem elW_bare (k : Int) (t : ByteArray) : elW (.mk k 0 ⟨#[]⟩ [] t []) = t.size := by
  have e0 : (⟨#[]⟩ : ByteArray).size = 0 := rfl
  have e1 : attrsW ([] : List AttrB) = 0 := rfl
  have e2 : elsW ([] : List ElB) = 0 := by unfold elsW; rfl
  unfold elW
  rw [e0, e1, e2, List.length_nil]
  omega
/-- What is read of one element is no more than five times what it takes. -/
def ElSz (s : ByteArray) (el : Nat → Option (ElB × Nat)) : Prop := ∀ k e j, k ≤ s.size → el k = some (e, j) → k < j ∧ j ≤ s.size ∧ elW e + 1 ≤ 5 * (j - k)
theorem kids_size (s : ByteArray) (el : Nat → Option (ElB × Nat)) (hE : ElSz s el) : ∀ (f i : Nat) (r : List ElB × Nat), kidsL s el f i = some r → i ≤ s.size → i ≤ r.2 ∧ r.2 ≤ s.size ∧ r.1.length + elsW r.1 ≤ 5 * (r.2 - i)
  | 0, _, _, h, _ => by cases h
  | f + 1, i, r, h, hi => by
    rw [kidsL] at h
    split at h
    · injection h with h
      rw [← h]
      exact ⟨Nat.le_refl _, hi, by simp [elsW]⟩
    · split at h
      · cases h
      · rename_i hlt
        have hlt' : i < s.size := by omega
        split at h
        · split at h
          · cases h
          · rename_i hx
            obtain ⟨j, ej, hj, hj2, hj3⟩ := xoI_le hx
            have et : (xoI s (i : Int)).toNat = j := by omega
            rw [et] at h
            obtain ⟨r', hr', rfl⟩ := Option.map_eq_some_iff.1 h
            have h2 := kids_size s el hE f j r' hr' hj2
            have hw : elW (.mk 3 0 ⟨#[]⟩ [] (xoS s (i : Int)) []) ≤ (xoS s (i : Int)).size := by
              exact Nat.le_of_eq (elW_bare 3 _)
            simp only [List.length_cons, elsW]
            omega
        · split at h
          · split at h
            · cases h
            · rename_i x hx
              obtain ⟨e, j⟩ := x
              have h1 := hE i e j hi hx
              obtain ⟨r', hr', rfl⟩ := Option.map_eq_some_iff.1 h
              have h2 := kids_size s el hE f j r' hr' h1.2.1
              simp only [List.length_cons, elsW]
              omega
          · rename_i h60
            split at h
            · cases h
            · rename_i hx
              obtain ⟨j, ej, hj, hj2, hj3⟩ := xtI_lt hlt' h60 hx
              have et : (xtI s (i : Int) ltS).toNat = j := by omega
              rw [et] at h
              obtain ⟨r', hr', rfl⟩ := Option.map_eq_some_iff.1 h
              have h2 := kids_size s el hE f j r' hr' hj2
              have hw : elW (.mk 2 0 ⟨#[]⟩ [] (xtS s (i : Int) ltS) []) ≤ (xtS s (i : Int) ltS).size := by
                exact Nat.le_of_eq (elW_bare 2 _)
              simp only [List.length_cons, elsW]
              omega
theorem el_size (s : ByteArray) : ∀ (m deep : Nat) (about : Int), ElSz s (fun i => elM s m deep i about)
  | 0, _, _ => fun k e j _ h => by cases h
  | m + 1, deep, about => fun i e j hi h => by
    simp only [elM] at h
    split at h
    · cases h
    · rename_i h1
      have hst : standsB s i ltS = true := by
        cases e : standsB s i ltS
        · exact absurd (.inl e) h1
        · rfl
      have hi1 := stands_le hst
      have u1 : ltS.size = 1 := rfl
      rw [u1] at hi1
      split at h
      · cases h
      · obtain ⟨j1, ej1, hj1, hj2, hj3⟩ := xnI_le (s := s) (k := i + 1) hi1
        have et : (xnI s ((i + 1 : Nat) : Int)).toNat = j1 := by omega
        rw [et] at h
        have e0 : (⟨#[]⟩ : ByteArray).size = 0 := rfl
        have e1 : attrsW ([] : List AttrB) = 0 := rfl
        have e2 : elsW ([] : List ElB) = 0 := by unfold elsW; rfl
        split at h
        · cases h
        · rename_i r hr
          have ha := attrsR_size s about _ _ _ _ _ r hr hj2
          rw [e1] at ha
          split at h
          · rename_i hsl
            have h2 := stands_le hsl
            have u2 : slashGt.size = 2 := rfl
            injection h with h
            injection h with h3 h4
            rw [← h3, ← h4]
            unfold elW
            rw [e0, e2, List.length_nil]
            omega
          · split at h
            · cases h
            · rename_i hgt
              have hgt' : standsB s r.2.2 gtS = true := by
                cases e : standsB s r.2.2 gtS
                · exact absurd e hgt
                · rfl
              have h2 := stands_le hgt'
              have u2 : gtS.size = 1 := rfl
              split at h
              · cases h
              · rename_i k hk
                have h5 := kids_size s (fun q => elM s m (deep - 1) q r.2.1) (el_size s m (deep - 1) r.2.1) _ _ k hk (by omega)
                split at h
                · rename_i hcl
                  have h6 := stands_le hcl
                  have u3 : ltSlash.size = 2 := rfl
                  have u4 : (ltSlash ++ xnS s ((i + 1 : Nat) : Int) ++ gtS).size = 2 + (xnS s ((i + 1 : Nat) : Int)).size + 1 := by
                    simp only [ByteArray.size_append]
                    rw [u2, u3]
                  injection h with h
                  injection h with h3 h4
                  rw [← h3, ← h4]
                  unfold elW
                  rw [e0]
                  omega
                · cases h

end Go.Proofs.YtbmmghkieolpkaaGreatDoor.Sg

namespace Go.Proofs.YtbmmghkieolpkaaGreatDoor.Sg
open Go.ChangeShapes Go.WideShapes Go.ChangeAt Go.RowKit

def EqEl (e : ElB) : Prop := ∀ (lo1 lo2 : Nat) (v1 v2 : Value) (w : World), ElV (QA lo1) (lo1 ≤ ·) w v1 e → ElV (QA lo2) (lo2 ≤ ·) w v2 e → ElLight e → Calls Tryz.prog 8 #[v1, v2] w fun r w' => r = .returned (.bool true) ∧ Below w.heap.size w w'
def EqElS (es : List ElB) : Prop := ∀ (lo1 lo2 : Nat) (a b : Option Addr) (n ca cb : Nat) (w : World), KidsIn (QA lo1) (lo1 ≤ ·) w a es → KidsIn (QA lo2) (lo2 ≤ ·) w b es → es.length = n → n ≤ 1099511627776 → ElsLight es → Calls Tryz.prog 13 #[.slice a n ca, .slice b n cb] w fun r w' => r = .returned (.bool true) ∧ Below w.heap.size w w'

set_option maxRecDepth 20000 in
set_option maxHeartbeats 4000000 in
theorem eqEl_of (kd sp : Int) (nm : ByteArray) (ats : List AttrB) (tx : ByteArray) (ks : List ElB) (hB : EqElS ks) : EqEl (.mk kd sp nm ats tx ks) := by
  intro lo1 lo2 v1 v2 w h1 h2 hl
  obtain ⟨av1, p1, r1, rfl, ⟨b1, c1, rfl, _, _, A1, _⟩, K1⟩ := h1
  obtain ⟨av2, p2, r2, rfl, ⟨b2, c2, rfl, _, _, A2, _⟩, K2⟩ := h2
  unfold ElLight at hl
  obtain ⟨hn, hk, hkl⟩ := hl
  have g0 : (kd != kd) = false := by simp
  have g5 : (sp != sp) = false := by simp
  have g1 : (nm.toList == nm.toList) = true := by simp
  have g2 : (tx.toList == tx.toList) = true := by simp
  have HA1 : Hid (AttrsAt w b1 ats) := A1
  have HA2 : Hid (AttrsAt w b2 ats) := A2
  have HK : Hid (∀ W, Below w.heap.size w W → Calls Tryz.prog 13 #[.slice p1 ks.length r1, .slice p2 ks.length r2] W fun r w' => r = .returned (.bool true) ∧ Below W.heap.size W w') := fun W hW => hB lo1 lo2 p1 p2 ks.length r1 r2 W (K1.keep (QA.lies _) hW) (K2.keep (QA.lies _) hW) rfl hk hkl
  clear A1 A2 K1 K2 hB hkl
  obtain ⟨X1, hX1⟩ : ∃ X : Obj, X = .cells #[.int .i64 kd, .int .i64 sp, .string nm, .slice b1 ats.length c1, .string tx, .slice p1 ks.length r1] 25 := ⟨_, rfl⟩
  obtain ⟨X2, hX2⟩ : ∃ X : Obj, X = .cells #[.int .i64 kd, .int .i64 sp, .string nm, .slice b2 ats.length c2, .string tx, .slice p2 ks.length r2] 25 := ⟨_, rfl⟩
  have bb : Below w.heap.size w ((w.alloc X1).alloc X2) := ((Below.refl _ _).alloc (Nat.le_refl _) _).alloc (by simp) _
  have hz : ((w.alloc X1).alloc X2).heap.size = w.heap.size + 1 + 1 := by simp
  subst hX1 hX2
  go_enter Tryz.func8, Tryz.ntmps8
  go_wp2_with fail
  refine (eqAttrS_same ats _ _ ats.length c1 c2 _ (HA1.out.below bb) (HA2.out.below bb) rfl (by omega)).mono ?_
  rintro e w1 ⟨rfl, b1'⟩
  rw [hz] at b1'
  have l1 : w.heap.size < w.heap.size + 1 + 1 := by omega
  have l2 : w.heap.size + 1 < w.heap.size + 1 + 1 := by omega
  have d4 : w1.cell? ⟨w.heap.size, 4, none⟩ = some (.string tx) := (b1'.cell l1).trans (by simp)
  have d5 : w1.cell? ⟨w.heap.size, 5, none⟩ = some (.slice p1 ks.length r1) := (b1'.cell l1).trans (by simp)
  have f4 : w1.cell? ⟨w.heap.size + 1, 4, none⟩ = some (.string tx) := (b1'.cell l2).trans (by simp)
  have f5 : w1.cell? ⟨w.heap.size + 1, 5, none⟩ = some (.slice p2 ks.length r2) := (b1'.cell l2).trans (by simp)
  have bb1 : Below w.heap.size w w1 := bb.trans (b1'.mono (by omega))
  clear b1' bb
  go_wp2_with fail
  refine (HK.out _ bb1).mono ?_
  rintro e w2 ⟨rfl, b2'⟩
  have bb2 : Below w.heap.size w w2 := bb1.trans (b2'.mono bb1.size)
  clear b2' bb1 d4 d5 f4 f5
  go_wp2_with fail
  go_ret
  exact ⟨rfl, bb2⟩

set_option maxRecDepth 20000 in
set_option maxHeartbeats 4000000 in
theorem eqElS_of (l : List ElB) (hA : ∀ e ∈ l, EqEl e) : EqElS l := by
  intro lo1 lo2 a b n ca cb w ha hb hl hn hli
  have Ha : Hid (KidsIn (QA lo1) (lo1 ≤ ·) w a l) := ha
  have Hb : Hid (KidsIn (QA lo2) (lo2 ≤ ·) w b l) := hb
  have Hl : Hid (l.length = n) := hl
  have HL : Hid (ElsLight l) := hli
  have HA : Hid (∀ e ∈ l, EqEl e) := hA
  clear ha hb hl hli hA
  go_enter Tryz.func13, Tryz.ntmps13
  go_wp2
  go_loopw [5] (fun i wr => ∃ k : Nat, k ≤ n ∧ i = .int .i64 k ∧ Below w.heap.size w wr) (fun i _ => n - (intOf i).toNat)
  case atStart => exact ⟨0, Nat.zero_le _, rfl, Below.refl _ _⟩
  case round =>
    obtain ⟨k, hk, rfl, hbel⟩ := hrel
    by_cases hlt : k < n
    · have hkl : k < l.length := by rw [Hl.out]; exact hlt
      rcases Ha.out.keep (QA.lies _) hbel with h | ⟨ba, oa, rfl, _, hca⟩
      · rw [h] at hkl
        exact absurd hkl (Nat.not_lt_zero _)
      rcases Hb.out.keep (QA.lies _) hbel with h | ⟨bb, ob, rfl, _, hcb⟩
      · rw [h] at hkl
        exact absurd hkl (Nat.not_lt_zero _)
      obtain ⟨v0, v1, v2, v3, v4, v5, c0, c1, c2, c3, c4, c5, hV⟩ := (hca.get k hkl).cells
      obtain ⟨u0, u1, u2, u3, u4, u5, d0, d1, d2, d3, d4, d5, hU⟩ := (hcb.get k hkl).cells
      have hlen := HL.out.get _ (List.getElem_mem hkl)
      have hE := HA.out _ (List.getElem_mem hkl)
      have Htok : ∀ d os, Calls Tryz.prog 8 #[.agg #[v0, v1, v2, v3, v4, v5], .agg #[u0, u1, u2, u3, u4, u5]] (Sort.grow (redrawn wr d) os) fun e w'' => e = .returned (.bool true) ∧ ∃ p : Regrown, w'' = Sort.grow (redrawn wr p.d) p.os := fun d os => Calls.regrown_of (hE lo1 lo2 _ _ _ (hV.keep (QA.lies _) (below_regrown wr d os)) (hU.keep (QA.lies _) (below_regrown wr d os)) hlen)
      have k0 : (0 : Int) ≤ (k : Int) := by omega
      have k1 : (k : Int) < (n : Int) := by omega
      have x0 := cell_regrown c0
      have x1 := cell_regrown c1
      have x2 := cell_regrown c2
      have x3 := cell_regrown c3
      have x4 := cell_regrown c4
      have x5 := cell_regrown c5
      have y0 := cell_regrown d0
      have y1 := cell_regrown d1
      have y2 := cell_regrown d2
      have y3 := cell_regrown d3
      have y4 := cell_regrown d4
      have y5 := cell_regrown d5
      clear c0 c1 c2 c3 c4 c5 d0 d1 d2 d3 d4 d5 hV hU hlen hE hca hcb
      go_upto_region 6 with fail
      refine wp_region_quiet_below (by kernel_rfl) (by kernel_rfl) ?_
      repeat (go_big_quiet_step (first | exact Htok _ _))
      refine wpQuiet_nil ?_
      intro _ hw'
      obtain ⟨⟨dq, osq⟩, hw''⟩ := hw'
      subst hw''
      have bf := hbel.trans ((below_regrown wr dq osq).mono hbel.size)
      generalize Sort.grow (redrawn wr dq) osq = W at *
      clear x0 x1 x2 x3 x4 x5 y0 y1 y2 y3 y4 y5 Htok
      go_wp2_with fail
      go_roundw
      case rel => exact ⟨k + 1, by omega, by go_num, bf⟩
      case measure => simp [intOf]; omega
    · have g1 : decide ((k : Int) < (n : Int)) = false := decide_eq_false (by omega)
      go_wp2
      go_ret
      exact ⟨rfl, hbel⟩

mutual
theorem eqEl_any : ∀ e : ElB, EqEl e
  | .mk kd sp nm ats tx ks => eqEl_of kd sp nm ats tx ks (eqElS_of ks (eqEl_all ks))
theorem eqEl_all : ∀ es : List ElB, ∀ e ∈ es, EqEl e
  | [], _, h => nomatch h
  | x :: xs, e, h => (List.mem_cons.1 h).elim (fun he => he ▸ eqEl_any x) (fun hm => eqEl_all xs e hm)
end
end Go.Proofs.YtbmmghkieolpkaaGreatDoor.Sg

namespace Go.Proofs.YtbmmghkieolpkaaGreatDoor.Sg
open Go.ChangeShapes Go.WideShapes Go.ChangeAt Go.RowKit

theorem Many.six {w : World} {b : Nat} {v0 v1 v2 v3 v4 v5 : Value} (h : Many 6 w b (fun i => [v0, v1, v2, v3, v4, v5].getD i undef)) :
    w.cell? ⟨b, 0, none⟩ = some v0 ∧ w.cell? ⟨b, 1, none⟩ = some v1 ∧ w.cell? ⟨b, 2, none⟩ = some v2 ∧ w.cell? ⟨b, 3, none⟩ = some v3 ∧ w.cell? ⟨b, 4, none⟩ = some v4 ∧ w.cell? ⟨b, 5, none⟩ = some v5 :=
  ⟨(h.2 0 (by omega)).1, (h.2 1 (by omega)).1, (h.2 2 (by omega)).1, (h.2 3 (by omega)).1, (h.2 4 (by omega)).1, (h.2 5 (by omega)).1⟩
theorem Many.kept {n : Nat} {w w' : World} {b : Nat} {f : Nat → Value} (h : Many n w b f) (hb : Below w.heap.size w w') : Many n w' b f := h.below h.1 hb
theorem attrsW_len (l : List AttrB) : l.length ≤ attrsW l := by unfold attrsW; omega
mutual
theorem el_light : ∀ e : ElB, elW e ≤ 16777216 → ElLight e
  | .mk kd sp nm ats tx ks, h => by
    unfold elW at h
    have := attrsW_len ats
    unfold ElLight
    exact ⟨by omega, by omega, els_light ks (by omega)⟩
theorem els_light : ∀ es : List ElB, elsW es ≤ 16777216 → ElsLight es
  | [], _ => by unfold ElsLight; trivial
  | e :: es, h => by
    unfold elsW at h
    unfold ElsLight
    exact ⟨el_light e (by omega), els_light es (by omega)⟩
end
end Go.Proofs.YtbmmghkieolpkaaGreatDoor.Sg

namespace Go.Proofs.YtbmmghkieolpkaaGreatDoor.Sg
open Go.ChangeShapes Go.WideShapes Go.ChangeAt Go.RowKit

def plainE (sp : Int) (nm : ByteArray) (ats : List AttrB) (n : Nat) : Bool := decide (sp = 0) && (decide (nm.size = 0) && (decide (ats.length = 0) && decide (n = 0)))
/-- An element is strict by itself. -/
def okSelf (kd sp : Int) (nm : ByteArray) (ats : List AttrB) (tx : ByteArray) (n : Nat) : Bool :=
  if kd = 1 then inP sp (0, 2) && (stNameB nm && (attrsSt ats 0 && decide (tx.size = 0)))
  else if kd = 2 then plainE sp nm ats n && (decide (tx.size ≠ 0) && stTextB tx)
  else if kd = 3 then plainE sp nm ats n && stNoteB tx else false
mutual
/-- An element is strict, however deep. -/
def okE : ElB → Bool
  | .mk kd sp nm ats tx ks => okEs 0 ks && okSelf kd sp nm ats tx ks.length
def okEs : Int → List ElB → Bool
  | _, [] => true
  | pk, e :: es => (okE e && !(decide (kindE e = 2) && decide (pk = 2))) && okEs (kindE e) es
end
theorem okEs_drop (es : List ElB) (k : Nat) (h : k < es.length) (pk : Int) : okEs pk (es.drop k) = ((okE (es[k]'h) && !(decide (kindE (es[k]'h) = 2) && decide (pk = 2))) && okEs (kindE (es[k]'h)) (es.drop (k + 1))) := by
  rw [List.drop_eq_getElem_cons h, okEs]
mutual
/-- Texts and lists that are small. -/
def ElSmall : ElB → Prop
  | .mk _ _ nm ats tx ks => nm.size ≤ 16777216 ∧ tx.size ≤ 16777216 ∧ ats.length ≤ 16777216 ∧ (∀ p ∈ ats, p.1.size ≤ 16777216 ∧ p.2.size ≤ 16777216) ∧ ks.length ≤ 16777216 ∧ ElsSmall ks
def ElsSmall : List ElB → Prop
  | [] => True
  | e :: es => ElSmall e ∧ ElsSmall es
end
theorem ElsSmall.get : ∀ {es : List ElB}, ElsSmall es → ∀ e ∈ es, ElSmall e
  | [], _, _, h => nomatch h
  | x :: xs, h, e, hm => by
    unfold ElsSmall at h
    rcases List.mem_cons.1 hm with rfl | hm
    · exact h.1
    · exact h.2.get e hm
theorem ElIn.cellsK {Q : World → Value → List AttrB → Prop} {P : Nat → Prop} {W : World} {e : ElB} {b o : Nat} (h : ElIn Q P W e b o) : ∃ v1 v2 v3 v4 v5, W.cell? ⟨b, o, none⟩ = some (.int .i64 (kindE e)) ∧ W.cell? ⟨b, o + 1, none⟩ = some v1 ∧ W.cell? ⟨b, o + 2, none⟩ = some v2 ∧ W.cell? ⟨b, o + 3, none⟩ = some v3 ∧ W.cell? ⟨b, o + 4, none⟩ = some v4 ∧ W.cell? ⟨b, o + 5, none⟩ = some v5 ∧ ElV Q P W (.agg #[.int .i64 (kindE e), v1, v2, v3, v4, v5]) e := by
  obtain ⟨kd, sp, nm, ats, tx, ks⟩ := e
  unfold ElIn at h
  obtain ⟨c0, c1, c2, ⟨av, c3, hq⟩, c4, ka, kc, c5, hk⟩ := h
  exact ⟨_, _, _, _, _, c0, c1, c2, c3, c4, c5, av, ka, kc, rfl, hq, hk⟩
def SpOk (e : ElB) : Prop := ∀ (lo : Nat) (v : Value) (w : World), ElV (QA lo) (lo ≤ ·) w v e → ElSmall e → Calls Tryz.prog 41 #[v] w fun r w' => r = .returned (.bool (okE e)) ∧ Below w.heap.size w w'

set_option maxRecDepth 20000 in
set_option maxHeartbeats 8000000 in
theorem l15El_of (kd sp : Int) (nm : ByteArray) (ats : List AttrB) (tx : ByteArray) (ks : List ElB) (hA : ∀ e ∈ ks, SpOk e) : SpOk (.mk kd sp nm ats tx ks) := by
  intro lo v w hv hsm
  obtain ⟨av, ka, kc, rfl, ⟨ab, ac, rfl, _, _, A0, hcap⟩, hk⟩ := hv
  unfold ElSmall at hsm
  obtain ⟨hnm, htx, han, hap, hkn, hks⟩ := hsm
  have HK : Hid (KidsIn (QA lo) (lo ≤ ·) w ka ks) := hk
  have HA : Hid (∀ e ∈ ks, SpOk e) := hA
  have HS : Hid (ElsSmall ks) := hks
  have HAt : Hid (AttrsAt w ab ats) := A0
  have Hap : Hid (∀ p ∈ ats, p.1.size ≤ 16777216 ∧ p.2.size ≤ 16777216) := hap
  obtain ⟨R, HR⟩ : ∃ R, Hid (okE (.mk kd sp nm ats tx ks) = R) := ⟨_, rfl⟩
  have HR0 : Hid ((okEs 0 (ks.drop 0) && okSelf kd sp nm ats tx ks.length) = R) := by
    show _ = _
    rw [← HR.out, List.drop_zero, okE]
  rw [HR.out]
  clear hk hA hks A0 hap HR
  have HN : Hid (∀ W, Calls Tryz.prog 71 #[.string nm] W fun r w' => r = .returned (.bool (stNameB nm)) ∧ Below W.heap.size W w') := fun W => specNameOk nm W (by omega)
  have HT : Hid (∀ W, Calls Tryz.prog 73 #[.string tx] W fun r w' => r = .returned (.bool (stTextB tx)) ∧ Below W.heap.size W w') := fun W => specTextOk tx W (by omega)
  have HO : Hid (∀ W, Calls Tryz.prog 52 #[.string tx] W fun r w' => r = .returned (.bool (stNoteB tx)) ∧ Below W.heap.size W w') := fun W => specNoteOk tx W (by omega)
  have HT15 : Hid (∀ W, Below w.heap.size w W → Calls Tryz.prog 72 #[.slice ab ats.length ac] W fun r w' => r = .returned (.bool (attrsSt ats 0)) ∧ Below W.heap.size W w') := fun W hW => specAttrsSt ats _ ats.length ac W (HAt.out.below hW) rfl han hcap Hap.out
  clear HAt Hap hcap han
  have e0 : (⟨#[]⟩ : ByteArray).toList = [] := ByteArray.toList_mk _
  have HM0 : Hid (Many 6 (w.alloc (.cells #[.int .i64 kd, .int .i64 sp, .string nm, .slice ab ats.length ac, .string tx, .slice ka ks.length kc] 25)) w.heap.size (fun i => [Value.int .i64 kd, .int .i64 sp, .string nm, .slice ab ats.length ac, .string tx, .slice ka ks.length kc].getD i undef)) := Many.new w [Value.int .i64 kd, .int .i64 sp, .string nm, .slice ab ats.length ac, .string tx, .slice ka ks.length kc] 25 undef
  have hb0 := (Below.refl w.heap.size w).alloc (Nat.le_refl _) (.cells #[.int .i64 kd, .int .i64 sp, .string nm, .slice ab ats.length ac, .string tx, .slice ka ks.length kc] 25)
  have q0 : (w.alloc (.cells #[.int .i64 kd, .int .i64 sp, .string nm, .slice ab ats.length ac, .string tx, .slice ka ks.length kc] 25)).cell? ⟨w.heap.size, 5, none⟩ = some (.slice ka ks.length kc) := by simp
  go_enter Tryz.func41, Tryz.ntmps41
  go_wp2_with fail
  go_loopw [3] (fun iv wr => ∃ (k : Nat) (pk : Int), k ≤ ks.length ∧ iv = .int .i64 (k : Int) ∧ Hid ((okEs pk (ks.drop k) && okSelf kd sp nm ats tx ks.length) = R) ∧ ((k = 0 ∧ pk = 0) ∨ ∃ m, k = m + 1 ∧ ∃ h : m < ks.length, pk = kindE (ks[m]'h)) ∧ wr.cell? ⟨w.heap.size, 5, none⟩ = some (.slice ka ks.length kc) ∧ Hid (Many 6 wr w.heap.size (fun i => [Value.int .i64 kd, .int .i64 sp, .string nm, .slice ab ats.length ac, .string tx, .slice ka ks.length kc].getD i undef)) ∧ Hid (Below w.heap.size w wr)) (fun iv _ => ks.length - (intOf iv).toNat)
  case atStart => exact ⟨0, 0, Nat.zero_le _, rfl, HR0, .inl ⟨rfl, rfl⟩, q0, HM0, hb0⟩
  case round =>
    clear HR0 q0 HM0 hb0
    obtain ⟨k, pk, hk, rfl, HRk, hpk, q5, HM, HB⟩ := hrel
    by_cases hlt : k < ks.length
    · clear HN HT HO HT15 e0
      rcases HK.out.keep (QA.lies _) HB.out with h | ⟨b, off, rfl, _, hc⟩
      · omega
      obtain ⟨v1, v2, v3, v4, v5, c0, c1, c2, c3, c4, c5, hV⟩ := (hc.get k hlt).cellsK
      have Hs := HA.out _ (List.getElem_mem hlt) lo _ wr hV (HS.out.get _ (List.getElem_mem hlt))
      have hdr := okEs_drop ks k hlt pk
      have hRk := HRk.out
      rw [hdr] at hRk
      have hprev : ∀ m, k = m + 1 → wr.cell? ⟨b, off + m * 6, none⟩ = some (.int .i64 pk) := fun m hm => by
        rcases hpk with ⟨h0, _⟩ | ⟨m', hm', hlt', e⟩
        · omega
        · obtain rfl : m = m' := by omega
          rw [e]
          obtain ⟨_, _, _, _, _, c, _⟩ := (hc.get m hlt').cellsK
          exact c
      have hpk0 : k = 0 → pk = 0 := fun h => by
        rcases hpk with ⟨_, h0⟩ | ⟨m', hm', _⟩
        · exact h0
        · omega
      have Hnext : Hid ((k + 1 = 0 ∧ kindE (ks[k]'hlt) = 0) ∨ ∃ m, k + 1 = m + 1 ∧ ∃ h : m < ks.length, kindE (ks[k]'hlt) = kindE (ks[m]'h)) := .inr ⟨k, rfl, hlt, rfl⟩
      clear hc hV hdr HRk hpk
      generalize okE (ks[k]'hlt) = sb at *
      generalize kindE (ks[k]'hlt) = kk at *
      have hk1 : k + 1 ≤ ks.length := hlt
      have k0 : (0 : Int) ≤ (k : Int) := by omega
      have k1 : (k : Int) < (ks.length : Int) := by omega
      have hbk : b < wr.heap.size := block_lt_of_cell c0
      have hbw : w.heap.size < wr.heap.size := block_lt_of_cell q5
      go_wp2_with fail
      refine Hs.mono ?_
      rintro e w1 ⟨rfl, b1⟩
      have q5' := (b1.cell (by exact hbw)).trans q5
      have c0' := (b1.cell (by exact hbk)).trans c0
      have hprev' : ∀ m, k = m + 1 → w1.cell? ⟨b, off + m * 6, none⟩ = some (.int .i64 pk) := fun m hm => (b1.cell (by exact hbk)).trans (hprev m hm)
      have HM' : Hid (Many 6 w1 w.heap.size _) := HM.out.kept b1
      have HB' : Hid (Below w.heap.size w w1) := HB.out.trans (b1.mono HB.out.size)
      clear b1 q5 c0 c1 c2 c3 c4 c5 hprev HM HB Hs
      cases sb
      · have Hf : Hid (R = false) := by show _ = _; rw [← hRk]; rfl
        clear hRk
        go_wp2_with fail
        go_ret
        exact ⟨ret_st Hf.out.symm, HB'.out⟩
      · by_cases hz : k = 0
        · have hp := hpk0 hz
          subst hz
          subst hp
          have HRn : Hid ((okEs kk (ks.drop (0 + 1)) && okSelf kd sp nm ats tx ks.length) = R) := by show _ = _; rw [← hRk]; simp
          clear hRk hpk0 hprev'
          go_wp2_with fail
          go_roundw
          case rel => exact ⟨0 + 1, kk, hk1, by go_num, HRn, Hnext.out, q5', HM', HB'⟩
          case measure => simp [intOf]; omega
        · obtain ⟨m, hm⟩ : ∃ m, k = m + 1 := ⟨k - 1, by omega⟩
          subst hm
          have cp := hprev' m rfl
          have gpos : decide ((0 : Int) < ((m + 1 : Nat) : Int)) = true := decide_eq_true (by omega)
          have km1 : IntKind.i64.wrap (((m + 1 : Nat) : Int) - 1) = (m : Int) := by rw [show ((m + 1 : Nat) : Int) - 1 = (m : Int) by omega]; exact IntWalk.i64_in _ (by omega)
          have km2 : IntKind.i64.wrap (m : Int) = (m : Int) := IntWalk.i64_in _ (by omega)
          have m0 : (0 : Int) ≤ (m : Int) := by omega
          have m1 : (m : Int) < (ks.length : Int) := by omega
          clear hprev' hpk0 hz
          by_cases h2 : kk = 2
          · have g2 : (kk == 2) = true := by rw [h2]; rfl
            have d2 : decide (kk = 2) = true := decide_eq_true h2
            by_cases h3 : pk = 2
            · have g3 : (pk == 2) = true := by rw [h3]; rfl
              have Hf : Hid (R = false) := by show _ = _; rw [← hRk, d2, decide_eq_true h3]; rfl
              clear hRk h2 h3
              go_wp2_with fail
              go_ret
              exact ⟨ret_st Hf.out.symm, HB'.out⟩
            · have g3 : (pk == 2) = false := by rw [beq_eq_false_iff_ne]; exact h3
              have HRn : Hid ((okEs kk (ks.drop (m + 1 + 1)) && okSelf kd sp nm ats tx ks.length) = R) := by show _ = _; rw [← hRk, d2, decide_eq_false h3]; simp
              clear hRk h2 h3 d2
              go_wp2_with fail
              go_roundw
              case rel => exact ⟨m + 1 + 1, kk, hk1, by go_num, HRn, Hnext.out, q5', HM', HB'⟩
              case measure => simp [intOf]; omega
          · have g2 : (kk == 2) = false := by rw [beq_eq_false_iff_ne]; exact h2
            have HRn : Hid ((okEs kk (ks.drop (m + 1 + 1)) && okSelf kd sp nm ats tx ks.length) = R) := by show _ = _; rw [← hRk, decide_eq_false h2]; simp
            clear hRk h2
            go_wp2_with fail
            go_roundw
            case rel => exact ⟨m + 1 + 1, kk, hk1, by go_num, HRn, Hnext.out, q5', HM', HB'⟩
            case measure => simp [intOf]; omega
    · have HRs : Hid (okSelf kd sp nm ats tx ks.length = R) := by
        show _ = _
        have := HRk.out
        rw [List.drop_eq_nil_of_le (by omega), okEs, Bool.true_and] at this
        exact this
      have g1 : decide ((k : Int) < (ks.length : Int)) = false := decide_eq_false (by omega)
      clear HRk hpk HA HS HK
      obtain ⟨p0, p1, p2, p3, p4, p5⟩ := HM.out.six
      obtain ⟨pl, Hpl⟩ : ∃ pl, Hid (plainE sp nm ats ks.length = pl) := ⟨_, rfl⟩
      go_upto_region 6 with fail
      go_cut [4] from 42 to 61 (fun r wx => r = .bool pl ∧ wx = wr)
      case first =>
        have hpl : (decide (sp = 0) && (decide (nm.size = 0) && (decide (ats.length = 0) && decide (ks.length = 0)))) = pl := Hpl.out
        by_cases s0 : sp = 0
        · have a0 : (sp == 0) = true := by rw [s0]; rfl
          by_cases s1 : nm.size = 0
          · have en := empty_of s1
            have a1 : (nm.toList == []) = true := by rw [en, e0]; rfl
            by_cases s2 : ats.length = 0
            · have a2 : ((ats.length : Int) == 0) = true := by rw [s2]; rfl
              by_cases s3 : ks.length = 0
              · have a3 : ((ks.length : Int) == 0) = true := by rw [s3]; rfl
                obtain rfl : true = pl := by rw [← hpl, decide_eq_true s0, decide_eq_true s1, decide_eq_true s2, decide_eq_true s3]; rfl
                clear hpl s0 s1 s2 s3 en
                go_wp2_with fail
                go_meet
                case rel => exact ⟨rfl, rfl⟩
              · have a3 : ((ks.length : Int) == 0) = false := by rw [beq_eq_false_iff_ne]; omega
                obtain rfl : false = pl := by rw [← hpl, decide_eq_false s3]; simp
                clear hpl s0 s1 s2 s3 en
                go_wp2_with fail
                go_meet
                case rel => exact ⟨rfl, rfl⟩
            · have a2 : ((ats.length : Int) == 0) = false := by rw [beq_eq_false_iff_ne]; omega
              obtain rfl : false = pl := by rw [← hpl, decide_eq_false s2]; simp
              clear hpl s0 s1 s2 en
              go_wp2_with fail
              go_meet
              case rel => exact ⟨rfl, rfl⟩
          · have a1 : (nm.toList == []) = false := not_empty s1
            obtain rfl : false = pl := by rw [← hpl, decide_eq_false s1]; simp
            clear hpl s0 s1
            go_wp2_with fail
            go_meet
            case rel => exact ⟨rfl, rfl⟩
        · have a0 : (sp == 0) = false := by rw [beq_eq_false_iff_ne]; exact s0
          obtain rfl : false = pl := by rw [← hpl, decide_eq_false s0]; simp
          clear hpl s0
          go_wp2_with fail
          go_meet
          case rel => exact ⟨rfl, rfl⟩
      case rest =>
        obtain ⟨rfl, rfl⟩ := hcut
        have hpw : w.heap.size < _ := block_lt_of_cell p0
        by_cases h1 : kd = 1
        · have g1' : (kd == 1) = true := by rw [h1]; rfl
          have HR1 : Hid ((inP sp (0, 2) && (stNameB nm && (attrsSt ats 0 && decide (tx.size = 0)))) = R) := by show _ = _; rw [← HRs.out]; unfold okSelf; rw [if_pos h1]
          clear HRs h1 HT HO Hpl
          have Hin := fun W => l1In_kd sp 0 2 W
          go_wp2_with fail
          refine (Hin _).mono ?_
          rintro e w1 ⟨rfl, rfl⟩
          clear Hin
          cases hin : inP sp (0, 2)
          · rw [hin] at HR1
            go_wp2_with fail
            go_ret
            exact ⟨ret_st HR1.out, HB.out⟩
          rw [hin] at HR1
          clear hin
          go_wp2_with fail
          refine (HN.out _).mono ?_
          rintro e w2 ⟨rfl, b2⟩
          have p3' := (b2.cell (by exact hpw)).trans p3
          have p4' := (b2.cell (by exact hpw)).trans p4
          have HB2 : Hid (Below w.heap.size w w2) := HB.out.trans (b2.mono HB.out.size)
          have hpw2 := Nat.lt_of_lt_of_le hpw b2.size
          clear b2 p0 p1 p2 p3 p4 p5 HB HN hpw HM
          cases hnm' : stNameB nm
          · rw [hnm'] at HR1
            go_wp2_with fail
            go_ret
            exact ⟨ret_st HR1.out, HB2.out⟩
          rw [hnm'] at HR1
          clear hnm'
          go_wp2_with fail
          refine (HT15.out _ HB2.out).mono ?_
          rintro e w3 ⟨rfl, b3⟩
          have p4'' := (b3.cell (by exact hpw2)).trans p4'
          have HB3 : Hid (Below w.heap.size w w3) := HB2.out.trans (b3.mono HB2.out.size)
          clear b3 p3' p4' HB2 HT15 hpw2
          cases hat : attrsSt ats 0
          · rw [hat] at HR1
            go_wp2_with fail
            go_ret
            exact ⟨ret_st HR1.out, HB3.out⟩
          rw [hat] at HR1
          clear hat
          by_cases ht : tx.size = 0
          · have et := empty_of ht
            have a1 : (tx.toList == []) = true := by rw [et, e0]; rfl
            rw [decide_eq_true ht] at HR1
            clear ht et
            go_wp2_with fail
            go_ret
            exact ⟨ret_st HR1.out, HB3.out⟩
          · have a1 : (tx.toList == []) = false := not_empty ht
            rw [decide_eq_false ht] at HR1
            clear ht
            go_wp2_with fail
            go_ret
            exact ⟨ret_st HR1.out, HB3.out⟩
        have g1' : (kd == 1) = false := by rw [beq_eq_false_iff_ne]; exact h1
        by_cases h2 : kd = 2
        · have g2' : (kd == 2) = true := by rw [h2]; rfl
          have HR1 : Hid ((pl && (decide (tx.size ≠ 0) && stTextB tx)) = R) := by show _ = _; rw [← HRs.out, ← Hpl.out]; unfold okSelf; rw [if_neg h1, if_pos h2]
          clear HRs h1 h2 HN HO HT15 Hpl
          cases pl
          · go_wp2_with fail
            go_ret
            exact ⟨ret_st HR1.out, HB.out⟩
          by_cases ht : tx.size = 0
          · have et := empty_of ht
            have a1 : (tx.toList == []) = true := by rw [et, e0]; rfl
            rw [decide_eq_false (fun h => h ht)] at HR1
            clear ht et
            go_wp2_with fail
            go_ret
            exact ⟨ret_st HR1.out, HB.out⟩
          have a1 : (tx.toList == []) = false := not_empty ht
          rw [decide_eq_true ht] at HR1
          clear ht
          go_wp2_with fail
          refine (HT.out _).mono ?_
          rintro e w2 ⟨rfl, b2⟩
          have HB2 : Hid (Below w.heap.size w w2) := HB.out.trans (b2.mono HB.out.size)
          clear b2
          cases htt : stTextB tx
          · rw [htt] at HR1
            go_wp2_with fail
            go_ret
            exact ⟨ret_st HR1.out, HB2.out⟩
          · rw [htt] at HR1
            go_wp2_with fail
            go_ret
            exact ⟨ret_st HR1.out, HB2.out⟩
        have g2' : (kd == 2) = false := by rw [beq_eq_false_iff_ne]; exact h2
        by_cases h3 : kd = 3
        · have g3' : (kd == 3) = true := by rw [h3]; rfl
          have HR1 : Hid ((pl && stNoteB tx) = R) := by show _ = _; rw [← HRs.out, ← Hpl.out]; unfold okSelf; rw [if_neg h1, if_neg h2, if_pos h3]
          clear HRs h1 h2 h3 HN HT HT15 Hpl
          cases pl
          · go_wp2_with fail
            go_ret
            exact ⟨ret_st HR1.out, HB.out⟩
          go_wp2_with fail
          refine (HO.out _).mono ?_
          rintro e w2 ⟨rfl, b2⟩
          have HB2 : Hid (Below w.heap.size w w2) := HB.out.trans (b2.mono HB.out.size)
          clear b2
          cases htt : stNoteB tx
          · rw [htt] at HR1
            go_wp2_with fail
            go_ret
            exact ⟨ret_st HR1.out, HB2.out⟩
          · rw [htt] at HR1
            go_wp2_with fail
            go_ret
            exact ⟨ret_st HR1.out, HB2.out⟩
        have g3' : (kd == 3) = false := by rw [beq_eq_false_iff_ne]; exact h3
        have HR1 : Hid (false = R) := by show _ = _; rw [← HRs.out]; unfold okSelf; rw [if_neg h1, if_neg h2, if_neg h3]
        clear HRs h1 h2 h3
        go_wp2_with fail
        go_ret
        exact ⟨ret_st HR1.out, HB.out⟩

mutual
theorem specL15El : ∀ e : ElB, SpOk e
  | .mk kd sp nm ats tx ks => l15El_of kd sp nm ats tx ks (specL15El_all ks)
theorem specL15El_all : ∀ es : List ElB, ∀ e ∈ es, SpOk e
  | [], _, h => nomatch h
  | x :: xs, e, h => (List.mem_cons.1 h).elim (fun he => he ▸ specL15El x) (fun hm => specL15El_all xs e hm)
end

mutual
theorem el_small : ∀ e : ElB, elW e ≤ 16777216 → ElSmall e
  | .mk kd sp nm ats tx ks, h => by
    unfold elW at h
    have ha : ats.length ≤ attrsW ats ∧ ∀ p ∈ ats, p.1.size + p.2.size ≤ attrsW ats := by
      unfold attrsW
      refine ⟨by omega, fun p hp => ?_⟩
      have h2 : attrW p ≤ (ats.map attrW).sum := by
        clear h
        induction ats with
        | nil => cases hp
        | cons q l ih =>
          rw [List.map_cons, List.sum_cons]
          rcases List.mem_cons.1 hp with rfl | hp
          · omega
          · have := ih hp
            omega
      have h3 : attrW p = p.1.size + p.2.size := rfl
      omega
    unfold ElSmall
    refine ⟨by omega, by omega, by omega, fun p hp => ?_, by omega, els_small ks (by omega)⟩
    have := ha.2 p hp
    omega
theorem els_small : ∀ es : List ElB, elsW es ≤ 16777216 → ElsSmall es
  | [], _ => by unfold ElsSmall; trivial
  | e :: es, h => by
    unfold elsW at h
    unfold ElsSmall
    exact ⟨el_small e (by omega), els_small es (by omega)⟩
end

set_option maxHeartbeats 2000000 in
theorem specElOk (e : ElB) (lo : Nat) (v : Value) (w : World) (hv : ElV (QA lo) (lo ≤ ·) w v e) (hs : ElSmall e) (hn : elN e ≤ 1099511627776) :
    Calls Tryz.prog 19 #[v] w fun r w' => r = .returned (.bool (decide (elD e ≤ 60) && okE e)) ∧ Below w.heap.size w w' := by
  have HD : Hid (∀ W, Below w.heap.size w W → Calls Tryz.prog 40 #[v] W fun r w' => r = .returned (.int .i64 (elD e : Int)) ∧ Below W.heap.size W w') := fun W hW => specElDeep e lo v W (hv.keep (QA.lies _) hW) hn
  have HL : Hid (∀ W, Below w.heap.size w W → Calls Tryz.prog 41 #[v] W fun r w' => r = .returned (.bool (okE e)) ∧ Below W.heap.size W w') := fun W hW => specL15El e lo v W (hv.keep (QA.lies _) hW) hs
  obtain ⟨kd, sp, nm, ats, tx, ks⟩ := e
  obtain ⟨av, ka, kc, rfl, ⟨ab, ac, rfl, _⟩, _⟩ := hv
  have HM0 : Hid (Many 6 (w.alloc (.cells #[.int .i64 kd, .int .i64 sp, .string nm, .slice ab ats.length ac, .string tx, .slice ka ks.length kc] 25)) w.heap.size (fun i => [Value.int .i64 kd, .int .i64 sp, .string nm, .slice ab ats.length ac, .string tx, .slice ka ks.length kc].getD i undef)) := Many.new w [Value.int .i64 kd, .int .i64 sp, .string nm, .slice ab ats.length ac, .string tx, .slice ka ks.length kc] 25 undef
  have hb0 := (Below.refl w.heap.size w).alloc (Nat.le_refl _) (.cells #[.int .i64 kd, .int .i64 sp, .string nm, .slice ab ats.length ac, .string tx, .slice ka ks.length kc] 25)
  generalize okE (.mk kd sp nm ats tx ks) = ok at *
  generalize elD (.mk kd sp nm ats tx ks) = d at *
  obtain ⟨R, HR⟩ : ∃ R, Hid ((decide (d ≤ 60) && ok) = R) := ⟨_, rfl⟩
  rw [HR.out]
  go_enter Tryz.func19, Tryz.ntmps19
  go_wp2_with fail
  refine (HD.out _ hb0).mono ?_
  rintro r w1 ⟨rfl, b1⟩
  have HB1 : Hid (Below w.heap.size w w1) := hb0.trans (b1.mono (by simp))
  obtain ⟨p0, p1, p2, p3, p4, p5⟩ := (HM0.out.kept b1).six
  clear b1 hb0 HM0 HD
  by_cases h : d ≤ 60
  · have g : (d : Int) ≤ 60 := by omega
    have HRt : Hid (ok = R) := by show _ = _; rw [← HR.out, decide_eq_true h, Bool.true_and]
    clear h HR
    go_wp2_with fail
    refine (HL.out _ HB1.out).mono ?_
    rintro r w2 ⟨rfl, b2⟩
    have HB2 : Hid (Below w.heap.size w w2) := HB1.out.trans (b2.mono HB1.out.size)
    clear b2
    go_wp2_with fail
    go_ret
    exact ⟨ret_st HRt.out, HB2.out⟩
  · have g : ¬ (d : Int) ≤ 60 := by omega
    have g' : decide ((d : Int) ≤ 60) = false := decide_eq_false g
    have HRt : Hid (false = R) := by show _ = _; rw [← HR.out, decide_eq_false h, Bool.false_and]
    clear h HL HR
    go_wp2_with fail
    go_ret
    exact ⟨ret_st HRt.out, HB1.out⟩

end Go.Proofs.YtbmmghkieolpkaaGreatDoor.Sg

namespace Go.Proofs.YtbmmghkieolpkaaGreatDoor.Sg
open Go.ChangeShapes Go.WideShapes Go.ChangeAt Go.RowKit

/-- An element is strict, and no deeper than it may be. -/
def strictE (e : ElB) : Bool := decide (elD e ≤ 60) && okE e
/-- Elements are a document, behind so many tags and so many in all. -/
def docF : Nat → Nat → List ElB → Bool
  | t, s, [] => decide (t = 1) && decide (s ≤ 3000)
  | t, s, e :: es => if strictE e = true ∧ kindE e ≠ 2 then docF (t + (if kindE e = 1 then 1 else 0)) (s + elN e) es else false
theorem docF_yes {es : List ElB} {k : Nat} (h : k < es.length) {t s : Nat} (h1 : strictE (es[k]'h) = true) (h2 : kindE (es[k]'h) ≠ 2) : docF t s (es.drop k) = docF (t + (if kindE (es[k]'h) = 1 then 1 else 0)) (s + elN (es[k]'h)) (es.drop (k + 1)) := by
  rw [List.drop_eq_getElem_cons h, docF, if_pos ⟨h1, h2⟩]
theorem docF_no {es : List ElB} {k : Nat} (h : k < es.length) {t s : Nat} (h1 : ¬ (strictE (es[k]'h) = true ∧ kindE (es[k]'h) ≠ 2)) : docF t s (es.drop k) = false := by
  rw [List.drop_eq_getElem_cons h, docF, if_neg h1]

set_option maxHeartbeats 1000000 in
theorem specBitE (b : Bool) (w : World) : Calls Tryz.prog 53 #[.bool b] w fun e w' => e = .returned (.int .i64 (if b then 1 else 0)) ∧ w' = w := by
  cases b
  · go_enter Tryz.func53, Tryz.ntmps53
    go_wp2
    go_ret
    exact ⟨rfl, rfl⟩
  · go_enter Tryz.func53, Tryz.ntmps53
    go_wp2
    go_ret
    exact ⟨rfl, rfl⟩

set_option maxRecDepth 20000 in
set_option maxHeartbeats 8000000 in
theorem specDocOk (l : List ElB) (lo : Nat) (a : Option Addr) (n cap : Nat) (w : World) (hk : KidsIn (QA lo) (lo ≤ ·) w a l) (hl : l.length = n) (hs : ElsSmall l) (hN : elsN l ≤ 1099511627776) :
    Calls Tryz.prog 31 #[.slice a n cap] w fun r w' => r = .returned (.bool (docF 0 0 l)) ∧ Below w.heap.size w w' := by
  have HK : Hid (KidsIn (QA lo) (lo ≤ ·) w a l) := hk
  have HS : Hid (ElsSmall l) := hs
  have Hl : Hid (l.length = n) := hl
  have hlen : n ≤ 1099511627776 := by have := elsN_len l; omega
  obtain ⟨R, HR⟩ : ∃ R, Hid (docF 0 0 (l.drop 0) = R) := ⟨_, rfl⟩
  have HR0 : docF 0 0 l = R := HR.out
  rw [HR0]
  clear hk hs hl HR0
  go_enter Tryz.func31, Tryz.ntmps31
  go_wp2_with fail
  go_loopw [3, 4, 5] (fun tv sv iv wr => ∃ k t s : Nat, k ≤ n ∧ t ≤ k ∧ s + elsN (l.drop k) = elsN l ∧ iv = .int .i64 (k : Int) ∧ tv = .int .i64 (t : Int) ∧ sv = .int .i64 (s : Int) ∧ Hid (docF t s (l.drop k) = R) ∧ Hid (Below w.heap.size w wr)) (fun _ _ iv _ => n - (intOf iv).toNat)
  case atStart => exact ⟨0, 0, 0, Nat.zero_le _, Nat.le_refl _, by simp, rfl, rfl, rfl, HR, Below.refl _ _⟩
  case round =>
    clear HR
    obtain ⟨k, t, s, hk, ht, hsum, rfl, rfl, rfl, HRk, HB⟩ := hrel
    by_cases hlt : k < n
    · have hkl : k < l.length := by rw [Hl.out]; exact hlt
      rcases HK.out.keep (QA.lies _) HB.out with h | ⟨b, off, rfl, _, hc⟩
      · omega
      obtain ⟨v1, v2, v3, v4, v5, c0, c1, c2, c3, c4, c5, hV⟩ := (hc.get k hkl).cellsK
      have hNk := elsN_get l k hkl
      have Hok := specElOk _ lo _ wr hV (HS.out.get _ (List.getElem_mem hkl)) (by omega)
      have Hsz : Hid (∀ W, Below wr.heap.size wr W → Calls Tryz.prog 54 #[.agg #[.int .i64 (kindE (l[k]'hkl)), v1, v2, v3, v4, v5]] W fun r w' => r = .returned (.int .i64 (elN (l[k]'hkl) : Int)) ∧ Below W.heap.size W w') := fun W hW => specElSize _ lo _ W (hV.keep (QA.lies _) hW) (by omega)
      have hyes := docF_yes hkl (t := t) (s := s)
      have hno := docF_no hkl (t := t) (s := s)
      have hdr := elsN_drop l k hkl
      rw [hdr] at hsum
      have est : (decide (elD (l[k]'hkl) ≤ 60) && okE (l[k]'hkl)) = strictE (l[k]'hkl) := rfl
      rw [est] at Hok
      clear hc hV hdr est
      generalize strictE (l[k]'hkl) = sb at *
      generalize kindE (l[k]'hkl) = kk at *
      generalize elN (l[k]'hkl) = m at *
      have hbk : b < wr.heap.size := block_lt_of_cell c0
      have k0 : (0 : Int) ≤ (k : Int) := by omega
      have k1 : (k : Int) < (n : Int) := by omega
      go_wp2_with fail
      refine Hok.mono ?_
      rintro r w1 ⟨rfl, b1⟩
      have d0 := (b1.cell (by exact hbk)).trans c0
      have d1 := (b1.cell (by exact hbk)).trans c1
      have d2 := (b1.cell (by exact hbk)).trans c2
      have d3 := (b1.cell (by exact hbk)).trans c3
      have d4 := (b1.cell (by exact hbk)).trans c4
      have d5 := (b1.cell (by exact hbk)).trans c5
      have HS1 := Hsz.out w1 b1
      have HB1 : Hid (Below w.heap.size w w1) := HB.out.trans (b1.mono HB.out.size)
      clear b1 c0 c1 c2 c3 c4 c5 Hok HB Hsz
      cases sb
      · have Hf : Hid (R = false) := by show _ = _; rw [← HRk.out]; exact hno (fun h => by cases h.1)
        clear hyes hno HRk HS1
        go_wp2_with fail
        go_ret
        exact ⟨ret_st Hf.out.symm, HB1.out⟩
      · by_cases h2 : kk = 2
        · have g2 : (kk == 2) = true := by rw [h2]; rfl
          have Hf : Hid (R = false) := by show _ = _; rw [← HRk.out]; exact hno (fun h => h.2 h2)
          clear hyes hno HRk HS1 h2
          go_wp2_with fail
          go_ret
          exact ⟨ret_st Hf.out.symm, HB1.out⟩
        · have g2 : (kk == 2) = false := by rw [beq_eq_false_iff_ne]; exact h2
          obtain ⟨u, hu⟩ : ∃ u : Nat, (if kk = 1 then 1 else 0) = u := ⟨_, rfl⟩
          have hu1 : u ≤ 1 := by rw [← hu]; split <;> omega
          have HRn : Hid (docF (t + u) (s + m) (l.drop (k + 1)) = R) := by show _ = _; rw [← HRk.out, hyes rfl h2, hu]
          have hbit : (if (kk == 1) = true then (1 : Int) else 0) = (u : Int) := by
            rw [← hu]
            by_cases h1 : kk = 1
            · rw [if_pos h1, if_pos (by rw [h1]; rfl)]
              rfl
            · rw [if_neg h1, if_neg (by simpa using h1)]
              rfl
          have q1 : IntKind.i64.wrap ((t : Int) + (u : Int)) = (t : Int) + (u : Int) := IntWalk.i64_in _ (by omega)
          have q2 : IntKind.i64.wrap ((s : Int) + (m : Int)) = (s : Int) + (m : Int) := IntWalk.i64_in _ (by omega)
          have Hb := fun W => specBitE (kk == 1) W
          rw [hbit] at Hb
          clear hyes hno HRk h2 hu hbit
          go_wp2_with fail
          refine (Hb _).mono ?_
          rintro r w2 ⟨rfl, rfl⟩
          clear Hb
          go_wp2_with fail
          refine HS1.mono ?_
          rintro r w3 ⟨rfl, b3⟩
          have HB3 : Hid (Below w.heap.size w w3) := HB1.out.trans (b3.mono HB1.out.size)
          clear b3 HS1 d0 d1 d2 d3 d4 d5 HB1
          go_wp2_with fail
          go_roundw
          case rel => exact ⟨k + 1, t + u, s + m, by omega, by omega, by omega, by go_num, by go_num, by go_num, HRn, HB3⟩
          case measure => simp [intOf]; omega
    · have hf : (decide (t = 1) && decide (s ≤ 3000)) = R := by
        have := HRk.out
        rw [List.drop_eq_nil_of_le (by rw [Hl.out]; omega), docF] at this
        exact this
      have g1 : decide ((k : Int) < (n : Int)) = false := decide_eq_false (by omega)
      clear HRk
      by_cases h1 : t = 1
      · have a1 : ((t : Int) == 1) = true := by rw [h1]; rfl
        rw [decide_eq_true h1, Bool.true_and] at hf
        clear h1
        by_cases h2 : s ≤ 3000
        · have a2 : decide ((s : Int) ≤ 3000) = true := decide_eq_true (by omega)
          have Hf : Hid (true = R) := by show _ = _; rw [← hf, decide_eq_true h2]
          clear hf h2
          go_wp2_with fail
          go_ret
          exact ⟨ret_st Hf.out, HB.out⟩
        · have a2 : decide ((s : Int) ≤ 3000) = false := decide_eq_false (by omega)
          have Hf : Hid (false = R) := by show _ = _; rw [← hf, decide_eq_false h2]
          clear hf h2
          go_wp2_with fail
          go_ret
          exact ⟨ret_st Hf.out, HB.out⟩
      · have a1 : ((t : Int) == 1) = false := by rw [beq_eq_false_iff_ne]; omega
        have Hf : Hid (false = R) := by show _ = _; rw [← hf, decide_eq_false h1]; rfl
        clear hf h1
        go_wp2_with fail
        go_ret
        exact ⟨ret_st Hf.out, HB.out⟩

end Go.Proofs.YtbmmghkieolpkaaGreatDoor.Sg
