/- The walk of the law of chapter 4. Whatever bytes come (more than 2^20 are let go by the law itself): the program's functions of chapter 4 answer at what is drawn as the model's do; attributes stand once each; a tag ends behind its beginning, at a byte 62. -/
import Derived.Test.YtlaidaghmhmgbaaDoorAtImplBQ
import Derived.Test.YtlaidaghmhmgbaaDoorTkEndQ
import Derived.Test.YtlaidaghmhmgbaaDoorTkQQ
import Derived.Test.YtlaidaghmhmgbaaDoorTkDrawsQ
import Derived.Test.YtlaidaghmhmgbaaDoorLwSameQ
import Derived.Test.YtlaidaghmhmgbaaDoorM05
import Derived.Test.YtlaidaghmhmgbaaDoorGLawQ
namespace Go.Proofs.YtlaidaghmhmgbaaDoor.fnTagEnds
open Go.ChangeShapes Go.WideShapes Go.ChangeAt Go.RowKit Sg

/-- What stays while the law goes on: the bytes of the draw, and the program's table. -/
def Keep (w : World) (a : Option Addr) (n : Nat) (w' : World) : Prop :=
  Below w.heap.size w w' ∧ Sg.Code w'.heap.size w' a n ∧ Mid w'
theorem Keep.step {w : World} {a : Option Addr} {n : Nat} {w' w'' : World} (h : Keep w a n w') (hb : Below w'.heap.size w' w'') : Keep w a n w'' :=
  ⟨h.1.trans (hb.mono h.1.size), (h.2.1.below hb).raise hb.size, h.2.2.below (Nat.le_refl _) hb⟩

theorem once_at {l : List AttrB} (h : Once l) {x y : Nat} (hy : y < x) (hx : x < l.length) : ((l.getD x (ByteArray.empty, ByteArray.empty)).1.toList == (l.getD y (ByteArray.empty, ByteArray.empty)).1.toList) = false := by
  have hy2 : y < l.length := by omega
  have e1 : l.getD x (ByteArray.empty, ByteArray.empty) = l[x]'hx := by simp [List.getD, hx]
  have e2 : l.getD y (ByteArray.empty, ByteArray.empty) = l[y]'hy2 := by simp [List.getD, hy2]
  rw [e1, e2]
  exact List.pairwise_iff_getElem.1 h y x hy2 hx hy

set_option maxHeartbeats 8000000 in
set_option maxRecDepth 100000 in
theorem walk (w : World) (n : Nat) (a : Option Addr) (cap : Nat) (hcode : Sg.Code w.heap.size w a n) (_hm : n ≤ 9223372036854775807) (hx : Mid w) :
    Calls Tryd.prog 3 #[.slice a n cap] w fun e w' => e = .returned (.bool true) ∧ Below w.heap.size w w' := by
  have K0 : Keep w a n w := ⟨Below.refl _ _, hcode, hx⟩
  clear hcode hx
  by_cases hbig : (1048576 : Int) < (n : Int)
  · have Hd : Hid (decide ((1048576 : Int) < (n : Int)) = true) := by show _ = _; simpa using hbig
    go_enter Tryd.func3, Tryd.ntmps3
    go_wp2_with fail
    refine (big_any a n cap _).mono ?_
    rintro e w1 ⟨rfl, rfl⟩
    rw [Hd.out]
    go_wp2_with fail
    go_ret
    exact ⟨rfl, Below.refl _ _⟩
  have hn : n ≤ 1048576 := by omega
  have Hd : Hid (decide ((1048576 : Int) < (n : Int)) = false) := by show _ = _; simpa using hbig
  clear hbig
  go_enter Tryd.func3, Tryd.ntmps3
  go_wp2_with fail
  refine (big_any a n cap _).mono ?_
  rintro e w0 ⟨rfl, hw0⟩
  have K : Hid (Keep w a n w0) := hw0 ▸ K0
  rw [Hd.out]
  clear hw0 K0 Hd
  go_wp2_with fail
  refine (drawTagEnd a n cap _ K.out.2.1 hn).mono ?_
  rintro e w1 ⟨s, z, hs, hz1, hz2, rfl, b1⟩
  have K1 : Hid (Keep w a n w1) := K.out.step b1
  clear b1 K
  have Ie := fun w => implTagEnd s z w (by omega)
  have Se := fun w => specTagEnd s z w (by omega)
  have Hend := tagEndE_ends s z
  obtain ⟨en, He⟩ : ∃ en, Hid (tagEndE s z = en) := ⟨_, rfl⟩
  rw [He.out] at Ie Se Hend
  go_wp2_with fail
  refine (Ie _).mono ?_
  rintro e w2 ⟨rfl, b2⟩
  have K2 : Hid (Keep w a n w2) := K1.out.step b2
  clear b2 K1 Ie
  go_wp2_with fail
  refine (drawAttrs a n cap _ K2.out.2.1 hn).mono ?_
  rintro e w3 ⟨t, ht, rfl, b3⟩
  have K3 : Hid (Keep w a n w3) := K2.out.step b3
  clear b3 K2
  have Ia := fun w h => implAttrs t w (by omega) h
  have Sa := fun w => specAttrs t w (by omega)
  have Ho := attrsE_once t t.size 0 [] false (by omega) List.Pairwise.nil (Nat.zero_le _)
  have Hlen := attrsE_length t t.size 0 [] false (by omega) (Nat.le_refl _) (Nat.zero_le _)
  generalize attrsE t 0 [] false = r at *
  obtain ⟨l, self⟩ := r
  have hself : (self != self) = false := by simp
  have HO : Hid (Once l) := Ho
  have hlen : l.length ≤ 100 := Nat.le_trans Hlen ht
  clear Ho Hlen
  go_wp2_with fail
  refine (Ia _ K3.out.2.2).mono ?_
  rintro e w4 ⟨v1, rfl, o1, b4⟩
  have K4 : Hid (Keep w a n w4) := K3.out.step b4
  clear b4 K3 Ia
  go_wp2_with fail
  refine (Sa _).mono ?_
  rintro e w5 ⟨v2, rfl, o2, b5⟩
  have K5 : Hid (Keep w a n w5) := K4.out.step b5
  obtain ⟨a1, c1, rfl, A1⟩ := attrs_of_own o1
  obtain ⟨a2, c2, rfl, A2⟩ := attrs_of_own o2
  have HA1 : Hid (AttrsAt w5 a1 l) := A1.below b5
  have HA2 : Hid (AttrsAt w5 a2 l) := A2
  clear b5 K4 Sa o1 o2 A1 A2
  simp only
  go_wp2_with fail
  refine (drawRaw a n cap _ K5.out.2.1 hn).mono ?_
  rintro e w6 ⟨nm, hnm, rfl, b6⟩
  have K6 : Hid (Keep w a n w6) := K5.out.step b6
  have HA1b : Hid (AttrsAt w6 a1 l) := HA1.out.below b6
  have HA2b : Hid (AttrsAt w6 a2 l) := HA2.out.below b6
  clear b6 K5 HA1 HA2
  go_wp2_with fail
  refine (drawRawEnd a n cap _ K6.out.2.1 hn).mono ?_
  rintro e w7 ⟨rs, ri, rn, hrs, hrn, rfl, b7⟩
  have K7 : Hid (Keep w a n w7) := K6.out.step b7
  have HA1c : Hid (AttrsAt w7 a1 l) := HA1b.out.below b7
  have HA2c : Hid (AttrsAt w7 a2 l) := HA2b.out.below b7
  clear b7 K6 HA1b HA2b
  have IR := implRaw nm
  have SR := specRaw nm
  generalize rawB nm = rw at *
  have hrw : (rw != rw) = false := by simp
  have IE := fun w => implRawEnd rs ri rn w (by omega) (by omega)
  have SE := fun w => specRawEnd rs ri rn w (by omega) (by omega)
  generalize rawEndE rs ri rn = re at *
  have hre : ((re : Int) != (re : Int)) = false := by simp
  have hen : (en != en) = false := by simp
  go_wp2_with fail
  refine (Se _).mono ?_
  rintro e w8 ⟨rfl, rfl⟩
  go_wp2_with fail
  refine (sameAttrs_same l a1 a2 l.length c1 c2 _ HA1c.out HA2c.out rfl (by omega)).mono ?_
  rintro e w9 ⟨rfl, b9⟩
  have K9 : Hid (Keep w a n w9) := K7.out.step b9
  have HA1d : Hid (AttrsAt w9 a1 l) := HA1c.out.below b9
  clear b9 K7 HA1c HA2c Se
  go_wp2_with fail
  refine (IR _).mono ?_
  rintro e w10 ⟨rfl, rfl⟩
  go_wp2_with fail
  refine (SR _).mono ?_
  rintro e w11 ⟨rfl, rfl⟩
  go_wp2_with fail
  refine (IE _).mono ?_
  rintro e w12 ⟨rfl, b12⟩
  have K12 : Hid (Keep w a n w12) := K9.out.step b12
  have HA1e : Hid (AttrsAt w12 a1 l) := HA1d.out.below b12
  clear b12 K9 HA1d IE IR SR
  go_wp2_with fail
  refine (SE _).mono ?_
  rintro e w13 ⟨rfl, b13⟩
  have K13 : Hid (Keep w a n w13) := K12.out.step b13
  have HA1f : Hid (AttrsAt w13 a1 l) := HA1e.out.below b13
  clear b13 K12 HA1e SE
  go_wp2_with fail
  obtain ⟨nl, Hnl⟩ : ∃ nl, Hid (l.length = nl) := ⟨_, rfl⟩
  rw [Hnl.out] at hlen ⊢
  go_loopw [15] (fun v wr => ∃ x : Nat, x ≤ nl ∧ v = .int .i64 (x : Int) ∧ Below w13.heap.size w13 wr) (fun v _ => nl - (intOf v).toNat)
  case atStart => exact ⟨0, Nat.zero_le _, rfl, Below.refl _ _⟩
  case round =>
    obtain ⟨x, hx, rfl, hbel⟩ := hrel
    by_cases hlt : x < nl
    · have hxl : x < l.length := by rw [Hnl.out]; exact hlt
      have HB : Hid (∃ b, a1 = some ⟨b, 0, none⟩ ∧ b < w13.heap.size ∧ ∀ k, k < nl → w13.cell? ⟨b, k * 2, none⟩ = some (.string (l.getD k (ByteArray.empty, ByteArray.empty)).1)) := by
        rcases HA1f.out with h | ⟨b, h1, h2, h3⟩
        · rw [h] at hxl
          exact absurd hxl (Nat.not_lt_zero _)
        · exact ⟨b, h1, h2, fun k hk => (h3 k (by rw [Hnl.out]; exact hk)).1⟩
      clear hxl
      obtain ⟨b, rfl, hb, hc⟩ := HB.out
      have Hc : Hid (∀ k, k < nl → w13.cell? ⟨b, k * 2, none⟩ = some (.string (l.getD k (ByteArray.empty, ByteArray.empty)).1)) := hc
      clear hc HB
      have HBel : Hid (Below w13.heap.size w13 wr) := hbel
      go_wp2_with fail
      go_loopw [16] (fun v wq => ∃ y : Nat, y ≤ x ∧ v = .int .i64 (y : Int) ∧ Below w13.heap.size w13 wq) (fun v _ => x - (intOf v).toNat)
      case atStart => exact ⟨0, Nat.zero_le _, rfl, HBel.out⟩
      case round =>
        obtain ⟨y, hy, rfl, hbel2⟩ := hrel
        by_cases hyx : y < x
        · have d1 := (hbel2.cell (p := ⟨b, x * 2, none⟩) hb).trans (Hc.out x hlt)
          have d2 := (hbel2.cell (p := ⟨b, y * 2, none⟩) hb).trans (Hc.out y (by omega))
          have hne := once_at HO.out hyx (by rw [Hnl.out]; exact hlt)
          generalize (l.getD x (ByteArray.empty, ByteArray.empty)).1 = nx at *
          generalize (l.getD y (ByteArray.empty, ByteArray.empty)).1 = ny at *
          have x0 : (0 : Int) ≤ (x : Int) := by omega
          have x1 : (x : Int) < (nl : Int) := by omega
          have y0 : (0 : Int) ≤ (y : Int) := by omega
          have y1 : (y : Int) < (nl : Int) := by omega
          have yx : (y : Int) < (x : Int) := by omega
          go_wp2_with fail
          go_quiet (fail)
          go_wp2_with fail
          go_roundw
          case rel => exact ⟨y + 1, by omega, by go_num, drew_kd hbel2 _⟩
          case measure => simp [intOf]; omega
        · have gy : decide ((y : Int) < (x : Int)) = false := decide_eq_false (by omega)
          go_wp2_with fail
          go_roundw
          case rel => exact ⟨x + 1, by omega, by go_num, hbel2⟩
          case measure => simp [intOf]; omega
    · have gx : decide ((x : Int) < (nl : Int)) = false := decide_eq_false (by omega)
      have HBel : Hid (Below w.heap.size w wr) := K13.out.1.trans (hbel.mono K13.out.1.size)
      rcases Hend with rfl | ⟨m, hm, rfl, hzm, h62⟩
      · go_wp2_with fail
        go_ret
        exact ⟨rfl, HBel.out⟩
      · have q1 : ((m : Int) == -1) = false := beq_eq_false_iff_ne.2 (by omega)
        have q2 : (((s[m]'hm).toNat : Int) == 62) = true := by simp [h62]
        have q3 : (m : Int) < (s.size : Int) := by omega
        have q4 : (0 : Int) ≤ (m : Int) := by omega
        clear h62
        go_wp2_with fail
        go_ret
        exact ⟨rfl, HBel.out⟩

end Go.Proofs.YtlaidaghmhmgbaaDoor.fnTagEnds
