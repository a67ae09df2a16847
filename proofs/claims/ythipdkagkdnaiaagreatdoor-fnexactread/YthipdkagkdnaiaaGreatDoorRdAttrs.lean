/- Contract of the model's l19Attrs. -/
import Derived.Test.YthipdkagkdnaiaaGreatDoorMRD04
import Derived.Test.YthipdkagkdnaiaaGreatDoorMRD07
import Derived.Lib.QuietBelow
import Derived.Deep.RegionHeld3
import Derived.Deep.Cut
import Derived.Deep.CutRange
import Derived.Deep.DeepCutAuto
import Derived.Deep.RegionWith
namespace Go.Proofs.YthipdkagkdnaiaaGreatDoor.Sg
open Go.ChangeShapes Go.WideShapes Go.ChangeAt Go.RowKit

def okOf : Option Value → Bool
  | some (.bool b) => b
  | _ => false
/-- How far a reader can still go. -/
def rdLeft (s : ByteArray) (p : Nat) (w : World) : Nat := if okOf (w.cell? ⟨p, 2, none⟩) then s.size + 2 - (intOf ((w.cell? ⟨p, 1, none⟩).getD undef)).toNat else 0
theorem rdLeft_on {w : World} {p : Nat} {s : ByteArray} {k : Nat} (h : RdAt w p s (k : Int) true) : rdLeft s p w = s.size + 2 - k := by
  unfold rdLeft
  rw [h.c2, h.c1]
  show (if true = true then s.size + 2 - k else 0) = _
  rw [if_pos rfl]
theorem rdLeft_off {w : World} {p : Nat} {s : ByteArray} {k : Int} (h : RdAt w p s k false) : rdLeft s p w = 0 := by
  unfold rdLeft
  rw [h.c2]
  rfl

theorem info_pairR : (Tryz.prog.info? 73).map (fun i => (i.zero, i.size, i.bytes)) = some (some (.agg #[.string ⟨#[]⟩, .string ⟨#[]⟩]), 2, 32) := by kernel_rfl
theorem empty_attrs (w : World) (B : Nat) (h : B ≤ w.heap.size) (t : TypeId) : (w.alloc (.cells #[] t)).ownsRow B t 2 (.slice (some ⟨w.heap.size, 0, none⟩) 0 0) 0 (attrCells []) :=
  ⟨rfl, .inr ⟨w.heap.size, 0, #[], rfl, h, by show (w.heap.push _)[w.heap.size]? = _; simp, Nat.le_refl _, Nat.zero_le _, rfl, rfl⟩⟩

theorem cell_al {w : World} {b o : Nat} {v : Value} {x : Obj} (h : w.cell? ⟨b, o, none⟩ = some v) : (w.alloc x).cell? ⟨b, o, none⟩ = some v := keep_cell ((Below.refl w.heap.size w).alloc (Nat.le_refl _) _) h

theorem cell_set2 {w : World} {g p o : Nat} {x y v : Value} (hg : g ≠ p) (h : w.cell? ⟨p, o, none⟩ = some v) : ((w.setCell ⟨g, 0, none⟩ x).setCell ⟨g, 1, none⟩ y).cell? ⟨p, o, none⟩ = some v :=
  (World.cell?_setCell_other _ _ _ _ (fun e => hg (congrArg Addr.block e))).trans ((World.cell?_setCell_other _ _ _ _ (fun e => hg (congrArg Addr.block e))).trans h)
theorem below_set {B c i : Nat} {a b : World} {v : Value} (h : Below B a b) (hc : B ≤ c) : Below B a (b.setCell ⟨c, i, none⟩ v) :=
  ⟨h.os, h.tape, h.output, by simpa [World.setCell] using h.size, fun k hk => (Below.heap_setCell _ _ _ _ (by show k ≠ c; omega)).trans (h.block k hk)⟩
theorem pair_set {w : World} {g : Nat} {a b x y : Value} (h0 : w.cell? ⟨g, 0, none⟩ = some a) (h1 : w.cell? ⟨g, 1, none⟩ = some b) : ((w.setCell ⟨g, 0, none⟩ x).setCell ⟨g, 1, none⟩ y).cell? ⟨g, 0, none⟩ = some x ∧ ((w.setCell ⟨g, 0, none⟩ x).setCell ⟨g, 1, none⟩ y).cell? ⟨g, 1, none⟩ = some y := by
  have e1 : (w.setCell ⟨g, 0, none⟩ x).cell? ⟨g, 1, none⟩ = some b := (World.cell?_setCell_other _ _ _ _ (by intro e; cases e)).trans h1
  exact ⟨(World.cell?_setCell_other _ _ _ _ (by intro e; cases e)).trans (World.cell?_setCell_same _ _ _ h0), World.cell?_setCell_same _ _ _ e1⟩
theorem pair_new {w1 w' : World} {x y : Value} {t : TypeId} (hb : Below w1.drew.heap.size w1.drew w') : ∃ g : Nat, Value.pointer (some ⟨w'.heap.size, 0, none⟩) = .pointer (some ⟨g, 0, none⟩) ∧ (w'.alloc (.cells #[x, y] t)).cell? ⟨g, 0, none⟩ = some x ∧ (w'.alloc (.cells #[x, y] t)).cell? ⟨g, 1, none⟩ = some y ∧ w1.heap.size ≤ g ∧ Below w1.heap.size w1 (w'.alloc (.cells #[x, y] t)) := by
  have h1 : Below w1.heap.size w1 w' := ((Below.refl _ _).drew).trans hb
  exact ⟨w'.heap.size, rfl, by simp, by simp, h1.size, h1.alloc h1.size _⟩
theorem pair_old {w1 w' : World} {a b x y : Value} {t : TypeId} (hb : Below (w1.alloc (.cells #[a, b] t)).drew.heap.size (w1.alloc (.cells #[a, b] t)).drew w') (h0 : w'.cell? ⟨w1.heap.size, 0, none⟩ = some a) (h1 : w'.cell? ⟨w1.heap.size, 1, none⟩ = some b) : ∃ g : Nat, Value.pointer (some ⟨w1.heap.size, 0, none⟩) = .pointer (some ⟨g, 0, none⟩) ∧ ((w'.setCell ⟨w1.heap.size, 0, none⟩ x).setCell ⟨w1.heap.size, 1, none⟩ y).cell? ⟨g, 0, none⟩ = some x ∧ ((w'.setCell ⟨w1.heap.size, 0, none⟩ x).setCell ⟨w1.heap.size, 1, none⟩ y).cell? ⟨g, 1, none⟩ = some y ∧ w1.heap.size ≤ g ∧ Below w1.heap.size w1 ((w'.setCell ⟨w1.heap.size, 0, none⟩ x).setCell ⟨w1.heap.size, 1, none⟩ y) := by
  have h2 : Below w1.heap.size w1 w' := (((Below.refl w1.heap.size w1).alloc (Nat.le_refl _) _).drew).trans (hb.mono (by show w1.heap.size ≤ (w1.heap.push _).size; simp))
  obtain ⟨e0, e1⟩ := pair_set (x := x) (y := y) h0 h1
  exact ⟨w1.heap.size, rfl, e0, e1, Nat.le_refl _, below_set (below_set h2 (Nat.le_refl _)) (Nat.le_refl _)⟩
theorem inP_rd {x lo hi : Int} : inP x (lo, hi) = true ↔ lo ≤ x ∧ x ≤ hi := by
  unfold inP
  simp
theorem own_base {w : World} {B : Nat} {e : TypeId} {z : Nat} {v : Value} {n : Nat} {xs : List Value} (h : w.ownsRow B e z v n xs) {r : Nat} (hr : v.ownBlock = some r) : B ≤ r := by
  rcases h.2 with ⟨rfl, _⟩ | ⟨g, cap, cur, rfl, h3, _⟩
  · cases hr
  · injection hr with hr
    rw [← hr]
    exact h3
theorem Fr.grown {p : Nat} {w a b : World} {e : TypeId} {z : Nat} {v : Value} {n : Nat} {xs : List Value} (h : Fr p w a) (ho : a.ownsRow w.heap.size e z v n xs) (hg : a.grownBy b v.ownBlock) : Fr p w b :=
  ⟨hg.os.trans h.os, hg.tape.trans h.tape, hg.output.trans h.output, Nat.le_trans h.size hg.size, fun k hk hp => (hg.block k (Nat.lt_of_lt_of_le hk h.size) (fun e => absurd (own_base ho e.symm) (Nat.not_le_of_lt hk))).trans (h.block k hk hp)⟩
theorem RdAt.grown {p B : Nat} {a b : World} {s : ByteArray} {k : Int} {ok : Bool} {e : TypeId} {z : Nat} {v : Value} {n : Nat} {xs : List Value} (h : RdAt a p s k ok) (ho : a.ownsRow B e z v n xs) (hg : a.grownBy b v.ownBlock) (hp : p < B) : RdAt b p s k ok :=
  (hg.block p h.lt (fun e => absurd (own_base ho e.symm) (Nat.not_le_of_lt hp))).trans h
theorem pair_kept {X w' : World} {a b : Value} {t : TypeId} (hb : Below (X.alloc (.cells #[a, b] t)).heap.size (X.alloc (.cells #[a, b] t)) w') : w'.cell? ⟨X.heap.size, 0, none⟩ = some a ∧ w'.cell? ⟨X.heap.size, 1, none⟩ = some b ∧ w'.frozen? ⟨X.heap.size, 0, none⟩ = false ∧ w'.frozen? ⟨X.heap.size, 1, none⟩ = false := by
  have hl : X.heap.size < (X.alloc (.cells #[a, b] t)).heap.size := by simp
  refine ⟨keep_cell hb (by simp), keep_cell hb (by simp), ?_, ?_⟩
  · rw [hb.frozen hl]; simp
  · rw [hb.frozen hl]; simp
theorem pair_kept_drew {X w' : World} {a b : Value} {t : TypeId} (hb : Below (X.alloc (.cells #[a, b] t)).drew.heap.size (X.alloc (.cells #[a, b] t)).drew w') : w'.cell? ⟨X.heap.size, 0, none⟩ = some a ∧ w'.cell? ⟨X.heap.size, 1, none⟩ = some b ∧ w'.frozen? ⟨X.heap.size, 0, none⟩ = false ∧ w'.frozen? ⟨X.heap.size, 1, none⟩ = false :=
  pair_kept (((Below.refl _ _).drew).trans hb)

theorem two_cells (w : World) (x y : Value) (t : TypeId) (b : Nat) (hb : b = w.heap.size) : ∀ j u, ([x, y])[j]? = some u → (w.alloc (.cells #[x, y] t)).cell? ((⟨b, 0, none⟩ : Addr).add j) = some u := by
  subst hb
  intro j u hj
  match j, hj with
  | 0, hj => simp at hj; subst hj; simp [Addr.add]
  | 1, hj => simp at hj; subst hj; simp [Addr.add]
theorem two_one (x y : ByteArray) : ∀ u ∈ [Value.string x, .string y], u.oneCell' = true := by
  intro u hu
  rcases List.mem_cons.1 hu with rfl | hu
  · rfl
  · rcases List.mem_cons.1 hu with rfl | hu
    · rfl
    · cases hu

/-- What a reader of attributes leaves. -/
def AttrsLeft (p lo : Nat) (s : ByteArray) (R : Option (List AttrB × Int × Nat)) (w' : World) (v : Value) (sp : Int) : Prop :=
  ∃ l : List AttrB, w'.ownsRow lo 73 2 v l.length (attrCells l) ∧ l.length ≤ s.size ∧ v ≠ .slice none 0 0 ∧ ((∃ j : Nat, R = some (l, sp, j) ∧ j ≤ s.size ∧ RdAt w' p s (j : Int) true) ∨ (R = none ∧ ∃ k, RdAt w' p s k false))

set_option maxRecDepth 20000 in
set_option maxHeartbeats 8000000 in
theorem specRdAttrs (s : ByteArray) (p : Nat) (about : Int) (i : Nat) (w : World) (h : RdAt w p s (i : Int) true) (hs : s.size ≤ 1073741824) (hi : i ≤ s.size) :
    Calls Tryz.prog 38 #[.pointer (some ⟨p, 0, none⟩), .int .i64 about] w fun r w' => ∃ v sp, r = .returned (.tuple #[v, .int .i64 sp]) ∧ AttrsLeft p w.heap.size s (attrsR s about (s.size + 1) i [] about false) w' v sp ∧ Fr p w w' := by
  obtain ⟨i0, hi0, hz0, hz1, hz2⟩ := info_parts info_pairR
  have Hi : Hid (Tryz.prog.info? 73 = some i0) := hi0
  have Hz0 : Hid (i0.zero = some (.agg #[.string ⟨#[]⟩, .string ⟨#[]⟩])) := hz0
  have Hz1 : Hid (i0.size = 2) := hz1
  have Hz2 : Hid (i0.bytes = 32) := hz2
  have hp := h.lt
  obtain ⟨R, HR⟩ : ∃ R, Hid (attrsR s about (s.size + 1) i [] about false = R) := ⟨_, rfl⟩
  rw [HR.out]
  have ow0 := empty_attrs w w.heap.size (Nat.le_refl _) 73
  have bA := (Below.refl w.heap.size w).alloc (Nat.le_refl _) (.cells #[] 73)
  have HR0 : Hid (RdAt (w.alloc (.cells #[] 73)) p s (i : Int) true) := h.keep bA
  have HF0 : Hid (Fr p w (w.alloc (.cells #[] 73))) := Fr.of_below bA
  have hi' : Hid (i ≤ s.size) := hi
  clear hi0 hz0 hz1 hz2 h bA hi
  go_enter Tryz.func38, Tryz.ntmps38
  go_wp2_with fail
  go_loopw [6, 7, 8] (fun ov sv tv wr => ∃ (l : List AttrB) (sp : Int) (told : Bool), sv = .int .i64 sp ∧ tv = .bool told ∧ ov ≠ .slice none 0 0 ∧ l.length ≤ s.size ∧ Hid (wr.ownsRow w.heap.size 73 2 ov l.length (attrCells l)) ∧ Hid (Fr p w wr) ∧ ((∃ f k : Nat, k ≤ s.size ∧ s.size + 1 ≤ f + k ∧ l.length ≤ k ∧ Hid (attrsR s about f k l sp told = R) ∧ Hid (RdAt wr p s (k : Int) true)) ∨ (Hid (R = none) ∧ ∃ k, Hid (RdAt wr p s k false)))) (fun _ _ _ wr => rdLeft s p wr)
  case atStart => exact ⟨[], about, false, rfl, rfl, by first | trivial | (intro h; cases h), Nat.zero_le _, ow0, HF0, .inl ⟨s.size + 1, i, hi'.out, by omega, Nat.zero_le _, HR, HR0⟩⟩
  case round =>
    clear ow0 HR0 HF0 HR hi'
    obtain ⟨l, sp, told, rfl, rfl, hov, hll, HO, HF, hmode⟩ := hrel
    rcases hmode with ⟨f, k, hk, hf, hlk, HRk, HD⟩ | ⟨HN, k, HD⟩
    · have c0 := HD.out.c0
      have c1 := HD.out.c1
      have c2 := HD.out.c2
      have z1 := HD.out.fz 1
      have z2 := HD.out.fz 2
      have HM : Hid (rdLeft s p wr = s.size + 2 - k) := rdLeft_on HD.out
      obtain ⟨f', rfl⟩ : ∃ f', f = f' + 1 := ⟨f - 1, by omega⟩
      have hRk := HRk.out
      rw [attrsR] at hRk
      by_cases hlt : k < s.size
      · have g1 : (k : Int) < (s.size : Int) := by omega
        have g0 : (0 : Int) ≤ (k : Int) := by omega
        have ed : s.data[k]? = some (s[k]'hlt) := by
          show s.data[k]? = some (s.data[k]'hlt)
          exact Array.getElem?_eq_getElem hlt
        rw [ed] at hRk
        by_cases hsp : (s[k]'hlt) = 32
        · rw [hsp, if_pos rfl] at hRk
          have g32 : (((s[k]'hlt).toNat : Int) == 32) = true := by rw [hsp]; rfl
          have HX : Hid (∀ W, Calls Tryz.prog 66 #[.string s, .int .i64 ((k : Int) + 1)] W fun r w' => r = .returned (.tuple #[.agg #[.string (xaN s ((k : Int) + 1)), .string (xaV s ((k : Int) + 1))], .int .i64 (xaI s ((k : Int) + 1))]) ∧ Below W.heap.size W w') := fun W => specXmlAttr s _ W hs
          have hxa : ¬ xaI s ((k : Int) + 1) < 0 → _ := xaI_le (s := s) (i := k)
          generalize xaI s ((k : Int) + 1) = xi at *
          generalize xaN s ((k : Int) + 1) = xn at *
          generalize xaV s ((k : Int) + 1) = xv at *
          have q1 : IntKind.i64.wrap ((k : Int) + 1) = (k : Int) + 1 := IntWalk.i64_in _ (by omega)
          go_upto_region 4 with fail
          go_quiet (fail)
          have bn := drew_kd (Below.refl wr.heap.size wr) nq
          have HO1 : Hid ((wr.drewN nq).ownsRow w.heap.size 73 2 _ l.length (attrCells l)) := owns_below HO.out (Nat.le_refl _) bn
          have HF1 : Hid (Fr p w (wr.drewN nq)) := HF.out.trans (Fr.of_below bn)
          have HD1 : Hid (RdAt (wr.drewN nq) p s (k : Int) true) := HD.out.keep bn
          clear bn c0 c1 c2 z1 z2 HRk
          generalize wr.drewN nq = w1 at *
          have c0 := HD1.out.c0
          have c1 := HD1.out.c1
          have hpl : p < w1.heap.size := HD1.out.lt
          have hgp : w1.heap.size ≠ p := Nat.ne_of_gt hpl
          go_upto_region 5 with fail
          go_cut [9, 10] (fun r q wx => ∃ g : Nat, r = .pointer (some ⟨g, 0, none⟩) ∧ q = .int .i64 xi ∧ wx.cell? ⟨g, 0, none⟩ = some (.string xn) ∧ wx.cell? ⟨g, 1, none⟩ = some (.string xv) ∧ w1.heap.size ≤ g ∧ ∃ W : World, W = wx ∧ Below w1.heap.size w1 W)
          case first =>
            go_region_held3 (fun w' => w'.cell? ⟨p, 0, none⟩ = some (.string s) ∧ w'.cell? ⟨p, 1, none⟩ = some (.int .i64 (k : Int))) (first | exact ⟨c0, c1⟩ | exact ⟨cell_set2 hgp (keep_cell hb' (keep_cell (((Below.refl _ _).alloc (Nat.le_refl _) _).drew) c0)), cell_set2 hgp (keep_cell hb' (keep_cell (((Below.refl _ _).alloc (Nat.le_refl _) _).drew) c1))⟩ | exact ⟨keep_cell hb' (keep_cell (((Below.refl _ _).alloc (Nat.le_refl _) _).drew) c0), keep_cell hb' (keep_cell (((Below.refl _ _).alloc (Nat.le_refl _) _).drew) c1)⟩ | (go_split_ands; exact ⟨cell_al (by assumption), cell_al (by assumption)⟩) | (exact ⟨cell_al (keep_cell hb' (by first | exact c0 | exact keep_cell (Below.refl _ _).drew c0)), cell_al (keep_cell hb' (by first | exact c1 | exact keep_cell (Below.refl _ _).drew c1))⟩) | (exact ⟨keep_cell hb' (by first | exact c0 | exact keep_cell (Below.refl _ _).drew c0), keep_cell hb' (by first | exact c1 | exact keep_cell (Below.refl _ _).drew c1)⟩) | (go_split_ands; exact ⟨keep_cell hb' (by assumption), keep_cell hb' (by assumption)⟩) | go_keep) (first | (go_at_call 66; refine (HX.out _).mono ?_; rintro r w' ⟨rfl, hb'⟩; first | (have hbz : Below (w1.alloc (.cells #[.string ⟨#[]⟩, .string ⟨#[]⟩] 73)).drew.heap.size (w1.alloc (.cells #[.string ⟨#[]⟩, .string ⟨#[]⟩] 73)).drew w' := (by with_reducible exact hb'); obtain ⟨y0, y1, y2, y3⟩ := pair_kept_drew hbz) | skip))
            · have hP := pair_new (x := .string xn) (y := .string xv) (t := 73) hb'
              have HP : Hid _ := hP
              clear hP
              go_wp2_with fail
              go_meet
              case rel =>
                obtain ⟨g, e1, e2, e3, e4, e5⟩ := HP.out
                exact ⟨g, e1, rfl, e2, e3, e4, _, rfl, e5⟩
            · have hP := pair_old (x := .string xn) (y := .string xv) hbz y0 y1
              have HP : Hid _ := hP
              clear hP
              go_wp2_with fail
              go_meet
              case rel =>
                obtain ⟨g, e1, e2, e3, e4, e5⟩ := HP.out
                exact ⟨g, e1, rfl, e2, e3, e4, _, rfl, e5⟩
          case rest =>
            obtain ⟨g, rfl, rfl, d0, d1, hg, w2, rfl, b2⟩ := hcut
            have HO2 := owns_below HO1.out (Nat.le_refl _) b2
            have HF2 : Hid (Fr p w w2) := HF1.out.trans (Fr.of_below b2)
            have HD2 : Hid (RdAt w2 p s (k : Int) true) := HD1.out.keep b2
            clear HO1 HF1 HD1 HX b2 c0 c1 HD HF HO
            obtain ⟨oa, oc, eov, HAt⟩ := attrs_of_own HO2
            subst eov
            have Hhas : Hid (Calls Tryz.prog 67 #[.slice oa l.length oc, .string xn] w2 fun e w' => e = .returned (.bool (hasA l xn)) ∧ w' = w2) := specHas l xn oa l.length oc _ HAt rfl (by omega)
            clear HAt
            by_cases hx0 : xi < 0
            · rw [if_pos hx0] at hRk
              have HN : Hid (R = none) := hRk.symm
              clear hRk Hhas hxa d1
              have c2 := HD2.out.c2
              have z2 := HD2.out.fz 2
              go_wp2_with fail
              go_ret2
              exact ⟨_, _, rfl, ⟨l, (Fr.set w2 2 (.bool false)).owns hp HO2, hll, hov, .inr ⟨HN.out, _, HD2.out.set2 false⟩⟩, HF2.out.trans (Fr.set _ _ _)⟩
            · rw [if_neg hx0] at hRk
              obtain ⟨j, rfl, hj1, hj2, hj3⟩ := hxa hx0
              have gx : ¬ ((j : Int) < 0) := hx0
              have gx' : decide ((j : Int) < 0) = false := decide_eq_false hx0
              have eX : xmlnsB.toList = [120, 109, 108, 110, 115] := ByteArray.toList_mk _
              rw [eX] at hRk
              have c1 := HD2.out.c1
              have z1 := HD2.out.fz 1
              have hgp2 : g ≠ p := by omega
              have d0' : (w2.setCell ⟨p, 1, none⟩ (.int .i64 (j : Int))).cell? ⟨g, 0, none⟩ = some (.string xn) := (World.cell?_setCell_other _ _ _ _ (fun e => hgp2 (congrArg Addr.block e).symm)).trans d0
              have d1' : (w2.setCell ⟨p, 1, none⟩ (.int .i64 (j : Int))).cell? ⟨g, 1, none⟩ = some (.string xv) := (World.cell?_setCell_other _ _ _ _ (fun e => hgp2 (congrArg Addr.block e).symm)).trans d1
              have HO3 := (Fr.set (p := p) w2 1 (.int .i64 (j : Int))).owns hp HO2
              have HD3 : Hid (RdAt (w2.setCell ⟨p, 1, none⟩ (.int .i64 (j : Int))) p s (j : Int) true) := HD2.out.set1 _
              have HF3 : Hid (Fr p w (w2.setCell ⟨p, 1, none⟩ (.int .i64 (j : Int)))) := HF2.out.trans (Fr.set _ _ _)
              cases hh : hasA l xn
              · rw [hh] at Hhas
                cases hX : (xn.toList == [120, 109, 108, 110, 115])
                · rw [hh, hX, if_neg (by rintro (h | ⟨h, _⟩) <;> cases h), if_neg (by decide)] at hRk
                  have HRn : Hid (attrsR s about f' j (l ++ [(xn, xv)]) sp told = R) := hRk
                  clear hRk hxa
                  go_wp2_with fail
                  refine Hhas.out.mono ?_
                  rintro r w2 ⟨rfl, rfl⟩
                  clear Hhas
                  have O4 := HO3.alloc (.cells #[.string xn, .string xv] 73)
                  have F4 : Fr p w ((w2.setCell ⟨p, 1, none⟩ (.int .i64 (j : Int))).alloc (.cells #[.string xn, .string xv] 73)) := HF3.out.trans (Fr.of_below ((Below.refl _ _).alloc (Nat.le_refl _) _))
                  have D4 : Hid (RdAt ((w2.setCell ⟨p, 1, none⟩ (.int .i64 (j : Int))).alloc (.cells #[.string xn, .string xv] 73)) p s (j : Int) true) := HD3.out.keep ((Below.refl _ _).alloc (Nat.le_refl _) _)
                  go_wp2_with (at_builtin; refine wpList_append_own _ rfl (.tmp 82) (.tmp 84) 22 rfl w.heap.size 73 i0 (.agg #[.string ⟨#[]⟩, .string ⟨#[]⟩]) 2 32 Tryz.underlying22 Hi.out Hz0.out Hz1.out Hz2.out rfl (by decide) _ l.length (attrCells l) rfl O4 ⟨_, 0, none⟩ 1 1 [.string xn, .string xv] rfl rfl (two_cells _ _ _ _ _ (by simp [World.setCell])) (two_one _ _) ?a3 ?a4 ?a5 ?_)
                  case a3 => unfold maxLen; omega
                  case a4 => omega
                  case a5 => exact F4.size
                  intro v' w5 hown' hgrow hif
                  have HF5 : Hid (Fr p w w5) := F4.grown O4 hgrow
                  have HD5 : Hid (RdAt w5 p s (j : Int) true) := D4.out.grown O4 hgrow hp
                  have hl1 : (l ++ [(xn, xv)]).length = l.length + 1 := by simp
                  have HO5 : Hid (w5.ownsRow w.heap.size 73 2 v' (l ++ [(xn, xv)]).length (attrCells (l ++ [(xn, xv)]))) := by
                    show World.ownsRow _ _ _ _ _ _ _
                    rw [hl1, attrCells_more]
                    exact hown'
                  have hif' : v' ≠ .slice none 0 0 := by first | exact hif | exact fun e => hov (hif.1 e).1
                  clear hown' hgrow hif O4 F4 D4 HO3 HD3 HF3 HO2 HD2 HF2 d0 d1 d0' d1' c1 z1
                  go_wp2_with fail
                  go_roundw
                  case rel => exact ⟨l ++ [(xn, xv)], sp, told, rfl, rfl, hif', by rw [hl1]; omega, HO5, HF5, .inl ⟨f', j, hj2, by omega, by rw [hl1]; omega, HRn, HD5⟩⟩
                  case measure =>
                    rw [rdLeft_on HD5.out, HM.out]
                    omega
                · cases told
                  · rw [hh, hX, if_neg (by rintro (h | ⟨_, h⟩) <;> cases h), if_pos rfl] at hRk
                    have HSp := specSpaceOf xv (w2.setCell ⟨p, 1, none⟩ (.int .i64 (j : Int)))
                    by_cases hsa : spaceI xv = about
                    · rw [if_pos hsa] at hRk
                      have HN : Hid (R = none) := hRk.symm
                      have gsa : (spaceI xv == about) = true := by rw [hsa]; simp
                      clear hRk hxa hsa
                      have c2 := HD3.out.c2
                      have z2 := HD3.out.fz 2
                      generalize spaceI xv = si at *
                      go_wp2_with fail
                      refine Hhas.out.mono ?_
                      rintro r w2 ⟨rfl, rfl⟩
                      clear Hhas
                      go_wp2_with fail
                      refine HSp.mono ?_
                      rintro r w3 ⟨rfl, rfl⟩
                      have HO4 : Hid (World.ownsRow _ w.heap.size 73 2 _ l.length (attrCells l)) := (Fr.set (p := p) _ 2 (.bool false)).owns hp HO3
                      have HD4 := HD3.out.set2 false
                      have HF4 : Hid (Fr p w _) := HF3.out.trans (Fr.set _ 2 (.bool false))
                      have HD4' : Hid (RdAt _ p s (j : Int) false) := HD4
                      clear HSp HO3 HD3 HF3 HO2 HD2 HF2 d0 d1 d0' d1' c1 z1 HD4
                      go_wp2_with fail
                      go_roundw
                      case rel => exact ⟨l, si, true, rfl, rfl, hov, hll, HO4, HF4, .inr ⟨HN, _, HD4'⟩⟩
                      case measure =>
                        rw [rdLeft_off HD4'.out, HM.out]
                        omega
                    · rw [if_neg hsa] at hRk
                      have HRn : Hid (attrsR s about f' j l (spaceI xv) true = R) := hRk
                      have gsa : (spaceI xv == about) = false := by rw [beq_eq_false_iff_ne]; exact hsa
                      clear hRk hxa hsa
                      generalize spaceI xv = si at *
                      go_wp2_with fail
                      refine Hhas.out.mono ?_
                      rintro r w2 ⟨rfl, rfl⟩
                      clear Hhas
                      go_wp2_with fail
                      refine HSp.mono ?_
                      rintro r w3 ⟨rfl, rfl⟩
                      have HO4 : Hid (World.ownsRow _ w.heap.size 73 2 _ l.length (attrCells l)) := HO3
                      clear HSp HO3 HO2 HD2 HF2 d0 d1 d0' d1' c1 z1
                      go_wp2_with fail
                      go_roundw
                      case rel => exact ⟨l, si, true, rfl, rfl, hov, hll, HO4, HF3, .inl ⟨f', j, hj2, by omega, by omega, HRn, HD3⟩⟩
                      case measure =>
                        rw [rdLeft_on HD3.out, HM.out]
                        omega
                  · rw [hh, hX, if_pos (.inr ⟨rfl, rfl⟩)] at hRk
                    have HN : Hid (R = none) := hRk.symm
                    clear hRk hxa d1
                    go_wp2_with fail
                    refine Hhas.out.mono ?_
                    rintro r w2 ⟨rfl, rfl⟩
                    clear Hhas
                    have c2 := HD2.out.c2
                    have z2 := HD2.out.fz 2
                    go_wp2_with fail
                    go_ret2
                    exact ⟨_, _, rfl, ⟨l, (Fr.set w2 2 (.bool false)).owns hp HO2, hll, hov, .inr ⟨HN.out, _, HD2.out.set2 false⟩⟩, HF2.out.trans (Fr.set _ _ _)⟩
              · rw [hh, if_pos (.inl rfl)] at hRk
                rw [hh] at Hhas
                have HN : Hid (R = none) := hRk.symm
                clear hRk hxa d1
                go_wp2_with fail
                refine Hhas.out.mono ?_
                rintro r w2 ⟨rfl, rfl⟩
                clear Hhas
                have c2 := HD2.out.c2
                have z2 := HD2.out.fz 2
                go_wp2_with fail
                go_ret2
                exact ⟨_, _, rfl, ⟨l, (Fr.set w2 2 (.bool false)).owns hp HO2, hll, hov, .inr ⟨HN.out, _, HD2.out.set2 false⟩⟩, HF2.out.trans (Fr.set _ _ _)⟩
        · rw [if_neg (fun e => hsp (Option.some.inj e))] at hRk
          have g32 : (((s[k]'hlt).toNat : Int) == 32) = false := by
            rw [beq_eq_false_iff_ne]
            intro e
            apply hsp
            exact UInt8.toNat_inj.1 (by show (s[k]'hlt).toNat = 32; omega)
          clear HRk
          go_upto_region 4 with fail
          go_quiet (fail)
          have bn := drew_kd (Below.refl wr.heap.size wr) nq
          have HO1 : Hid ((wr.drewN nq).ownsRow w.heap.size 73 2 _ l.length (attrCells l)) := owns_below HO.out (Nat.le_refl _) bn
          have HF1 : Hid (Fr p w (wr.drewN nq)) := HF.out.trans (Fr.of_below bn)
          have HD1 : Hid (RdAt (wr.drewN nq) p s _ _) := HD.out.keep bn
          clear bn c0 c1 c2 z1 z2
          generalize wr.drewN nq = w1 at *
          have c2 := HD1.out.c2
          have z2 := HD1.out.fz 2
          go_wp2_with fail
          refine (l1In_kd sp 0 2 w1).mono ?_
          rintro r w1 ⟨rfl, rfl⟩
          cases hin : inP sp (0, 2)
          · have hR : R = none := by
              rw [← hRk, if_neg (by intro h; rw [inP_rd.2 ⟨by omega, by omega⟩] at hin; cases hin)]
            go_wp2_with fail
            go_ret2
            exact ⟨_, _, rfl, ⟨l, (Fr.set w1 2 (.bool false)).owns hp HO1.out, hll, hov, .inr ⟨hR, _, HD1.out.set2 false⟩⟩, HF1.out.trans (Fr.set _ _ _)⟩
          · have hR : R = some (l, sp, k) := by
              have h2 := inP_rd.1 hin
              rw [← hRk, if_pos ⟨by omega, by omega⟩]
            clear hRk
            go_wp2_with fail
            go_ret2
            exact ⟨_, _, rfl, ⟨l, HO1.out, hll, hov, .inl ⟨k, hR, hk, HD1.out⟩⟩, HF1.out⟩
      · have ed : s.data[k]? = none := Array.getElem?_eq_none (by show s.size ≤ k; omega)
        rw [ed, if_neg (by intro e; cases e)] at hRk
        have g1 : ¬ ((k : Int) < (s.size : Int)) := by omega
        have g1' : decide ((k : Int) < (s.size : Int)) = false := decide_eq_false g1
        clear HRk
        go_upto_region 4 with fail
        go_quiet (fail)
        have bn := drew_kd (Below.refl wr.heap.size wr) nq
        have HO1 : Hid ((wr.drewN nq).ownsRow w.heap.size 73 2 _ l.length (attrCells l)) := owns_below HO.out (Nat.le_refl _) bn
        have HF1 : Hid (Fr p w (wr.drewN nq)) := HF.out.trans (Fr.of_below bn)
        have HD1 : Hid (RdAt (wr.drewN nq) p s _ _) := HD.out.keep bn
        clear bn c0 c1 c2 z1 z2
        generalize wr.drewN nq = w1 at *
        have c2 := HD1.out.c2
        have z2 := HD1.out.fz 2
        go_wp2_with fail
        refine (l1In_kd sp 0 2 w1).mono ?_
        rintro r w1 ⟨rfl, rfl⟩
        cases hin : inP sp (0, 2)
        · have hR : R = none := by
            rw [← hRk, if_neg (by intro h; rw [inP_rd.2 ⟨by omega, by omega⟩] at hin; cases hin)]
          go_wp2_with fail
          go_ret2
          exact ⟨_, _, rfl, ⟨l, (Fr.set w1 2 (.bool false)).owns hp HO1.out, hll, hov, .inr ⟨hR, _, HD1.out.set2 false⟩⟩, HF1.out.trans (Fr.set _ _ _)⟩
        · have hR : R = some (l, sp, k) := by
            have h2 := inP_rd.1 hin
            rw [← hRk, if_pos ⟨by omega, by omega⟩]
          clear hRk
          go_wp2_with fail
          go_ret2
          exact ⟨_, _, rfl, ⟨l, HO1.out, hll, hov, .inl ⟨k, hR, hk, HD1.out⟩⟩, HF1.out⟩
    · have c0 := HD.out.c0
      have c1 := HD.out.c1
      have c2 := HD.out.c2
      have z1 := HD.out.fz 1
      have z2 := HD.out.fz 2
      go_upto_region 4 with fail
      go_quiet (fail)
      have bn := drew_kd (Below.refl wr.heap.size wr) nq
      have HO1 : Hid ((wr.drewN nq).ownsRow w.heap.size 73 2 _ l.length (attrCells l)) := owns_below HO.out (Nat.le_refl _) bn
      have HF1 : Hid (Fr p w (wr.drewN nq)) := HF.out.trans (Fr.of_below bn)
      have HD1 : Hid (RdAt (wr.drewN nq) p s _ _) := HD.out.keep bn
      clear bn c0 c1 c2 z1 z2
      generalize wr.drewN nq = w1 at *
      have c2 := HD1.out.c2
      have z2 := HD1.out.fz 2
      go_wp2_with fail
      refine (l1In_kd sp 0 2 w1).mono ?_
      rintro r w1 ⟨rfl, rfl⟩
      cases hin : inP sp (0, 2)
      · go_wp2_with fail
        go_ret2
        exact ⟨_, _, rfl, ⟨l, (Fr.set w1 2 (.bool false)).owns hp HO1.out, hll, hov, .inr ⟨HN.out, _, HD1.out.set2 false⟩⟩, HF1.out.trans (Fr.set _ _ _)⟩
      · go_wp2_with fail
        go_ret2
        exact ⟨_, _, rfl, ⟨l, HO1.out, hll, hov, .inr ⟨HN.out, _, HD1.out⟩⟩, HF1.out⟩

end Go.Proofs.YthipdkagkdnaiaaGreatDoor.Sg
