/- Contract of the model's XmlRef. -/
import Derived.Test.YtfbnhjogkjbcbaaDoorMN12
import Derived.Test.YtfbnhjogkjbcbaaDoorMN05
import Derived.Test.YtfbnhjogkjbcbaaDoorScStM
import Derived.Test.YtfbnhjogkjbcbaaDoorMN04
import Derived.BigQuiet
import Derived.Deep.QuietTactic
namespace Go.Proofs.YtfbnhjogkjbcbaaDoor.Sg
open Go.ChangeShapes Go.WideShapes Go.ChangeAt Go.RowKit

def names5 : List (List UInt8) := [[38, 97, 109, 112, 59], [38, 108, 116, 59], [38, 103, 116, 59], [38, 113, 117, 111, 116, 59], [38, 97, 112, 111, 115, 59]]
def signs5 : List (List UInt8) := [[38], [60], [62], [34], [39]]
/-- What the model's XmlRef hands back. -/
def xrefV : Option (ByteArray × Nat) → Value
  | none => .tuple #[.string ⟨#[]⟩, .int .i64 (-1)]
  | some r => .tuple #[.string r.1, .int .i64 (r.2 : Int)]
theorem stands_head {s t : ByteArray} {k : Nat} {b : UInt8} (h : standsB s k t = true) (ht : t.data.toList.head? = some b) (hk : k < s.size) : s[k]'hk = b := by
  have hl := stands_le h
  unfold standsB at h
  rw [Bool.and_eq_true] at h
  have h2 : (s.extract k (k + t.size)).toList = t.toList := by simpa using h.2
  rw [ByteArray.toList_eq, ByteArray.toList_eq] at h2
  rw [← h2] at ht
  have hz : 0 < t.size := by
    cases hc : t.size with
    | zero =>
      rw [hc] at ht
      have : (s.extract k (k + 0)).data.toList = [] := by
        apply List.eq_nil_of_length_eq_zero
        rw [Array.length_toList]
        show (s.extract k (k + 0)).size = 0
        rw [ByteArray.size_extract]
        omega
      rw [this] at ht
      cases ht
    | succ _ => omega
  have e : (s.extract k (k + t.size)).data.toList = (s.data.toList.drop k).take t.size := by
    rw [ByteArray.data_extract, Array.toList_extract]
    simp
  rw [e, List.head?_take, if_neg (by omega), List.head?_drop] at ht
  have : s.data.toList[k]? = some (s[k]'hk) := by
    rw [List.getElem?_eq_getElem (by rw [Array.length_toList]; exact hk)]
    rfl
  rw [this] at ht
  exact Option.some.inj ht
theorem xrefR_38 {s : ByteArray} {k : Nat} (hk : k < s.size) (h : ¬ (s[k]'hk).toNat = 38) : xrefR s k = none := by
  have key : ∀ t : ByteArray, t.data.toList.head? = some 38 → standsB s k t = false := by
    intro t ht
    cases hc : standsB s k t with
    | false => rfl
    | true => exact absurd (by rw [stands_head hc ht hk]; rfl) h
  unfold xrefR
  rw [key ampB rfl, key ltB rfl, key gtB rfl, key quotB rfl, key aposB rfl, key hashB rfl]
  rfl
theorem xrefR_first {s : ByteArray} {k q : Nat} (hq : q < 5) (h1 : ∀ j, j < q → standsB s k (strB (names5.getD j [])) = false) (h2 : standsB s k (strB (names5.getD q [])) = true) :
    xrefR s k = some (strB (signs5.getD q []), k + (names5.getD q []).length) := by
  have e0 : strB (names5.getD 0 []) = ampB := rfl
  have e1 : strB (names5.getD 1 []) = ltB := rfl
  have e2 : strB (names5.getD 2 []) = gtB := rfl
  have e3 : strB (names5.getD 3 []) = quotB := rfl
  have e4 : strB (names5.getD 4 []) = aposB := rfl
  unfold xrefR
  match q, hq with
  | 0, _ =>
    rw [e0] at h2
    rw [h2]
    rfl
  | 1, _ =>
    have z0 := h1 0 (by omega)
    rw [e0] at z0
    rw [e1] at h2
    rw [z0, h2]
    rfl
  | 2, _ =>
    have z0 := h1 0 (by omega)
    have z1 := h1 1 (by omega)
    rw [e0] at z0
    rw [e1] at z1
    rw [e2] at h2
    rw [z0, z1, h2]
    rfl
  | 3, _ =>
    have z0 := h1 0 (by omega)
    have z1 := h1 1 (by omega)
    have z2 := h1 2 (by omega)
    rw [e0] at z0
    rw [e1] at z1
    rw [e2] at z2
    rw [e3] at h2
    rw [z0, z1, z2, h2]
    rfl
  | 4, _ =>
    have z0 := h1 0 (by omega)
    have z1 := h1 1 (by omega)
    have z2 := h1 2 (by omega)
    have z3 := h1 3 (by omega)
    rw [e0] at z0
    rw [e1] at z1
    rw [e2] at z2
    rw [e3] at z3
    rw [e4] at h2
    rw [z0, z1, z2, z3, h2]
    rfl
theorem xrefR_rest {s : ByteArray} {k : Nat} (h1 : ∀ j, j < 5 → standsB s k (strB (names5.getD j [])) = false) : xrefR s k = if standsB s k hashB = true then (xnumR s k).map (fun r => (putS (r.1 : Int), r.2 + 1)) else none := by
  have z0 := h1 0 (by omega)
  have z1 := h1 1 (by omega)
  have z2 := h1 2 (by omega)
  have z3 := h1 3 (by omega)
  have z4 := h1 4 (by omega)
  rw [show strB (names5.getD 0 []) = ampB from rfl] at z0
  rw [show strB (names5.getD 1 []) = ltB from rfl] at z1
  rw [show strB (names5.getD 2 []) = gtB from rfl] at z2
  rw [show strB (names5.getD 3 []) = quotB from rfl] at z3
  rw [show strB (names5.getD 4 []) = aposB from rfl] at z4
  unfold xrefR
  rw [z0, z1, z2, z3, z4]
  rfl

set_option maxHeartbeats 1000000 in
theorem specXmlRef_out (s : ByteArray) (at' : Int) (w : World) (h : at' < 0 ∨ (s.size : Int) ≤ at') :
    Calls Tryd.prog 10 #[.string s, .int .i64 at'] w fun e w' => e = .returned (.tuple #[.string ⟨#[]⟩, .int .i64 (-1)]) ∧ w' = w := by
  by_cases h0 : at' < 0
  · have g0 : decide (at' < 0) = true := decide_eq_true h0
    clear h
    go_enter Tryd.func10, Tryd.ntmps10
    go_wp2_with fail
    go_ret2
    exact ⟨rfl, rfl⟩
  · have g0 : decide (at' < 0) = false := decide_eq_false h0
    have g1 : decide ((s.size : Int) ≤ at') = true := decide_eq_true (by omega)
    clear h
    go_enter Tryd.func10, Tryd.ntmps10
    go_wp2_with fail
    go_ret2
    exact ⟨rfl, rfl⟩

set_option maxHeartbeats 4000000 in
theorem specXmlRef_in (s : ByteArray) (k : Nat) (w : World) (hk : k < s.size) (hs : s.size ≤ 17592186044416) :
    Calls Tryd.prog 10 #[.string s, .int .i64 (k : Int)] w fun e w' => e = .returned (xrefV (xrefR s k)) ∧ Below w.heap.size w w' := by
  have g0 : decide ((k : Int) < 0) = false := decide_eq_false (by omega)
  have g1 : decide ((s.size : Int) ≤ (k : Int)) = false := decide_eq_false (by omega)
  have g2 : decide (s.size ≤ k) = false := decide_eq_false (by omega)
  have q0 : (0 : Int) ≤ (k : Int) := by omega
  have q1 : (k : Int) < (s.size : Int) := by omega
  by_cases h38 : (s[k]'hk).toNat = 38
  · have g38 : (((s[k]'hk).toNat : Int) == 38) = true := by rw [h38]; rfl
    have g38' : (((s[k]'hk).toNat : Int) != 38) = false := by rw [h38]; rfl
    clear h38
    obtain ⟨W2, HW2⟩ : ∃ W2, Hid (W2 = ((w.alloc (.cells #[.string ⟨#[38, 97, 109, 112, 59]⟩, .string ⟨#[38, 108, 116, 59]⟩, .string ⟨#[38, 103, 116, 59]⟩, .string ⟨#[38, 113, 117, 111, 116, 59]⟩, .string ⟨#[38, 97, 112, 111, 115, 59]⟩] 9)).alloc (.cells #[.string ⟨#[38]⟩, .string ⟨#[60]⟩, .string ⟨#[62]⟩, .string ⟨#[34]⟩, .string ⟨#[39]⟩] 9))) := ⟨_, rfl⟩
    have HTn : Hid (Texts W2 w.heap.size names5) := by
      rw [HW2.out]
      exact (Texts.laid w names5 #[.string ⟨#[38, 97, 109, 112, 59]⟩, .string ⟨#[38, 108, 116, 59]⟩, .string ⟨#[38, 103, 116, 59]⟩, .string ⟨#[38, 113, 117, 111, 116, 59]⟩, .string ⟨#[38, 97, 112, 111, 115, 59]⟩] 9 rfl).below (Nat.lt_succ_self _) ((Below.refl _ _).alloc (by simp) _)
    have HTs : Hid (Texts W2 (w.heap.size + 1) signs5) := by
      rw [HW2.out]
      have h := Texts.laid (w.alloc (.cells #[.string ⟨#[38, 97, 109, 112, 59]⟩, .string ⟨#[38, 108, 116, 59]⟩, .string ⟨#[38, 103, 116, 59]⟩, .string ⟨#[38, 113, 117, 111, 116, 59]⟩, .string ⟨#[38, 97, 112, 111, 115, 59]⟩] 9)) signs5 #[.string ⟨#[38]⟩, .string ⟨#[60]⟩, .string ⟨#[62]⟩, .string ⟨#[34]⟩, .string ⟨#[39]⟩] 9 rfl
      rw [show (w.alloc (.cells #[.string ⟨#[38, 97, 109, 112, 59]⟩, .string ⟨#[38, 108, 116, 59]⟩, .string ⟨#[38, 103, 116, 59]⟩, .string ⟨#[38, 113, 117, 111, 116, 59]⟩, .string ⟨#[38, 97, 112, 111, 115, 59]⟩] 9)).heap.size = w.heap.size + 1 by simp] at h
      exact h
    have HB2 : Hid (Below w.heap.size w W2) := by
      rw [HW2.out]
      exact ((Below.refl _ _).alloc (Nat.le_refl _) _).alloc (by simp) _
    go_enter Tryd.func10, Tryd.ntmps10
    go_wp2_with fail
    rw [← HW2.out]
    clear HW2
    go_loopw [8] (fun i wr => ∃ q : Nat, q ≤ 5 ∧ i = .int .i64 (q : Int) ∧ Hid (∀ j, j < q → standsB s k (strB (names5.getD j [])) = false) ∧ wr = W2) (fun i _ => 5 - (intOf i).toNat)
    case atStart => exact ⟨0, by omega, rfl, fun j hj => absurd hj (by omega), rfl⟩
    case round =>
      obtain ⟨q, hq, rfl, HQ, rfl⟩ := hrel
      by_cases hlt : q < 5
      · have hc := HTn.out.2 q hlt
        have hc2 := HTs.out.2 q hlt
        have hl1 : (names5.getD q []).length ≤ 6 := by
          match q, hlt with
          | 0, _ | 1, _ | 2, _ | 3, _ | 4, _ => decide
        have Hst := fun W => specStands s k (strB (names5.getD q [])) W hs (by omega) (by rw [strB_size]; omega)
        have HF := fun h => xrefR_first (s := s) (k := k) hlt HQ.out h
        have Hsz : Hid ((strB (names5.getD q [])).size = (names5.getD q []).length) := strB_size _
        have z0 : (0 : Int) ≤ (q : Int) := by omega
        have z1 : (q : Int) < 5 := by omega
        cases hb : standsB s k (strB (names5.getD q []))
        · have HQ2 : Hid (∀ j, j < q + 1 → standsB s k (strB (names5.getD j [])) = false) := fun j hj => by
            rcases Nat.lt_succ_iff_lt_or_eq.1 hj with h | rfl
            · exact HQ.out j h
            · exact hb
          rw [hb] at Hst
          clear HF hb HQ
          go_wp2_with fail
          refine (Hst _).mono ?_
          rintro e w1 ⟨rfl, rfl⟩
          go_wp2_with fail
          go_roundw
          case rel => exact ⟨q + 1, by omega, by go_num, HQ2, trivial⟩
          case measure => simp [intOf]; omega
        · have HX : Hid (xrefR s k = some (strB (signs5.getD q []), k + (names5.getD q []).length)) := HF hb
          rw [hb] at Hst
          clear HF hb HQ
          generalize names5.getD q [] = nm at *
          generalize strB (signs5.getD q []) = sg at *
          generalize strB nm = nb at *
          generalize nm.length = m at *
          have y1 : IntKind.i64.wrap ((k : Int) + (nb.size : Int)) = (k : Int) + (nb.size : Int) := IntWalk.i64_in _ (by rw [Hsz.out]; omega)
          go_wp2_with fail
          refine (Hst _).mono ?_
          rintro e w1 ⟨rfl, rfl⟩
          go_wp2_with fail
          go_quiet (fail)
          go_wp2_with fail
          go_ret2
          rw [HX.out]
          exact ⟨by rw [Hsz.out]; rfl, drew_kd HB2.out _⟩
      · obtain rfl : q = 5 := by omega
        have Hst := fun W => specStands s k hashB W hs (by omega) (by decide)
        have HR : Hid (xrefR s k = if standsB s k hashB = true then (xnumR s k).map (fun r => (putS (r.1 : Int), r.2 + 1)) else none) := xrefR_rest HQ.out
        clear HQ hlt
        cases hb : standsB s k hashB
        · rw [hb] at Hst HR
          clear hb
          go_wp2_with fail
          refine (Hst _).mono ?_
          rintro e w1 ⟨rfl, rfl⟩
          go_wp2_with fail
          go_ret2
          rw [HR.out]
          exact ⟨rfl, HB2.out⟩
        · have hl := stands_le hb
          rw [hb] at Hst HR
          have Hnum := fun W => specNumber18 s k W hl hs
          clear hb
          cases hr : xnumR s k with
          | none =>
            rw [hr] at HR Hnum
            go_wp2_with fail
            refine (Hst _).mono ?_
            rintro e w1 ⟨rfl, rfl⟩
            go_wp2_with fail
            refine (Hnum _).mono ?_
            rintro e w1 ⟨rfl, rfl⟩
            simp only [numV]
            go_wp2_with fail
            go_ret2
            rw [HR.out]
            exact ⟨rfl, HB2.out⟩
          | some r =>
            obtain ⟨n, j⟩ := r
            have hj := xnumR_le hr
            rw [hr] at HR Hnum
            have y1 : IntKind.i64.wrap ((j : Int) + 1) = (j : Int) + 1 := IntWalk.i64_in _ (by simp only at hj; omega)
            go_wp2_with fail
            refine (Hst _).mono ?_
            rintro e w1 ⟨rfl, rfl⟩
            go_wp2_with fail
            refine (Hnum _).mono ?_
            rintro e w1 ⟨rfl, rfl⟩
            simp only [numV]
            go_wp2_with fail
            refine (specPutSign (n : Int) _).mono ?_
            rintro e w2 ⟨rfl, b2⟩
            go_wp2_with fail
            go_ret2
            rw [HR.out]
            exact ⟨rfl, below_from HB2.out b2⟩
  · have g38 : (((s[k]'hk).toNat : Int) == 38) = false := by rw [beq_eq_false_iff_ne]; omega
    have Hx : Hid (xrefR s k = none) := xrefR_38 hk h38
    clear h38
    go_enter Tryd.func10, Tryd.ntmps10
    go_wp2_with fail
    go_ret2
    rw [Hx.out]
    exact ⟨rfl, Below.refl _ _⟩

end Go.Proofs.YtfbnhjogkjbcbaaDoor.Sg
