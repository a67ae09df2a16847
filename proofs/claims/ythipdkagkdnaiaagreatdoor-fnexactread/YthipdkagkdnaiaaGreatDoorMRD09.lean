/- Below, one behind the other. Contracts of the model's l5Stands and l5Search. Contract of the model's XmlRef. What the model's XmlRef hands back, at any place; its contract. The program's refAt and XmlRef. The program's textSignAt. The program's reader in memory, what it reads of the world besides, and rows of elements that it makes: each owned, in blocks that were not there before. Contracts of the program's must, pass, takes and want. Contract of the model's l5Swap. -/
import Derived.Test.YthipdkagkdnaiaaGreatDoorSgOk
import Derived.Below
import Derived.Test.YthipdkagkdnaiaaGreatDoorMRD03
import Derived.Test.YthipdkagkdnaiaaGreatDoorMRD05
import Derived.Laws.DeepStrings4
import Derived.Test.YthipdkagkdnaiaaGreatDoorXmNum
import Derived.Test.YthipdkagkdnaiaaGreatDoorGOwn
import Derived.Test.YthipdkagkdnaiaaGreatDoorMRD02
import Derived.BigQuiet
import Derived.Deep.QuietTactic
import Derived.Test.YthipdkagkdnaiaaGreatDoorPcNum
import Derived.Test.YthipdkagkdnaiaaGreatDoorGMaxLen
import Derived.Test.YthipdkagkdnaiaaGreatDoorPcSign
import Derived.Test.YthipdkagkdnaiaaGreatDoorRdWork
import Derived.Test.YthipdkagkdnaiaaGreatDoorRdRow
import Derived.Test.YthipdkagkdnaiaaGreatDoorShelf
import Derived.Test.YthipdkagkdnaiaaGreatDoorMRD06
namespace Go.Proofs.YthipdkagkdnaiaaGreatDoor.Sg
open Go.ChangeShapes Go.WideShapes Go.ChangeAt Go.RowKit

theorem below_from {w a b : World} (h : Below w.heap.size w a) (k : Below a.heap.size a b) : Below w.heap.size w b := h.trans (k.mono h.size)

end Go.Proofs.YthipdkagkdnaiaaGreatDoor.Sg

namespace Go.Proofs.YthipdkagkdnaiaaGreatDoor.Sg
open Go.ChangeShapes Go.WideShapes Go.ChangeAt Go.RowKit

set_option maxHeartbeats 1000000 in
theorem specStands (s : ByteArray) (k : Nat) (t : ByteArray) (w : World) (_hs : s.size ≤ 17592186044416) (hk : k ≤ 17592186044416) (ht : t.size ≤ 17592186044416) :
    Calls Tryz.prog 28 #[.string s, .int .i64 (k : Int), .string t] w fun e w' => e = .returned (.bool (standsB s k t)) ∧ w' = w := by
  have q1 : IntKind.i64.wrap ((k : Int) + (t.size : Int)) = (k : Int) + (t.size : Int) := IntWalk.i64_in _ (by omega)
  have q3 : (k : Int) ≤ (k : Int) + (t.size : Int) := by omega
  have q4 : ((k : Int) + (t.size : Int)).toNat = k + t.size := by omega
  have q5 : (0 : Int) ≤ (k : Int) + (t.size : Int) := by omega
  have q6 : (0 : Int) ≤ (k : Int) := by omega
  by_cases h : k + t.size ≤ s.size
  · have Hn : Hid (standsB s k t = ((s.extract k (k + t.size)).toList == t.toList)) := by
      show _ = _
      unfold standsB
      rw [decide_eq_true h, Bool.true_and]
    have q2 : (k : Int) + (t.size : Int) ≤ (s.size : Int) := by omega
    cases hc : (s.extract k (k + t.size)).toList == t.toList
    · rw [hc] at Hn
      go_enter Tryz.func28, Tryz.ntmps28
      go_wp2
      go_ret
      exact ⟨ret_bool Hn.out.symm, rfl⟩
    · rw [hc] at Hn
      go_enter Tryz.func28, Tryz.ntmps28
      go_wp2
      go_ret
      exact ⟨ret_bool Hn.out.symm, rfl⟩
  · have Hn : Hid (standsB s k t = false) := by
      show _ = _
      unfold standsB
      rw [decide_eq_false h, Bool.false_and]
    have q2 : decide ((k : Int) + (t.size : Int) ≤ (s.size : Int)) = false := decide_eq_false (by omega)
    go_enter Tryz.func28, Tryz.ntmps28
    go_wp2
    go_ret
    exact ⟨ret_bool Hn.out.symm, rfl⟩

set_option maxHeartbeats 1000000 in
theorem specSearch (s : ByteArray) (k0 : Nat) (t : ByteArray) (w : World) (hs : s.size ≤ 17592186044416) (hk : k0 ≤ 1099511627776) (ht : t.size ≤ 1099511627776) :
    Calls Tryz.prog 51 #[.string s, .int .i64 (k0 : Int), .string t] w fun e w' => e = .returned (.int .i64 (findV (searchE s k0 t))) ∧ w' = w := by
  go_enter Tryz.func51, Tryz.ntmps51
  go_wp2
  go_loopw [1] (fun v wr => ∃ k : Nat, v = .int .i64 (k : Int) ∧ (k ≤ k0 ∨ k ≤ s.size + 1) ∧ Hid (searchE s k0 t = searchE s k t) ∧ wr = w) (fun v _ => s.size + 1 - (intOf v).toNat)
  case atStart => exact ⟨k0, rfl, .inl (Nat.le_refl _), rfl, rfl⟩
  case round =>
    obtain ⟨k, rfl, hkb, Hsp, rfl⟩ := hrel
    have hkb' : k ≤ 17592186044417 := by omega
    clear hkb
    have q1 : IntKind.i64.wrap ((k : Int) + (t.size : Int)) = (k : Int) + (t.size : Int) := IntWalk.i64_in _ (by omega)
    by_cases h : k + t.size ≤ s.size
    · have Hv := fun w => specStands s k t w hs (by omega) (by omega)
      have q2 : (k : Int) + (t.size : Int) ≤ (s.size : Int) := by omega
      cases hc : standsB s k t
      · have Hn : Hid (searchE s k0 t = searchE s (k + 1) t) := Hsp.out.trans (searchE_no h hc)
        rw [hc] at Hv
        clear Hsp hc
        go_wp2_with fail
        refine (Hv _).mono ?_
        rintro e w1 ⟨rfl, rfl⟩
        go_wp2
        go_roundw
        case rel => exact ⟨k + 1, by go_num, .inr (by omega), Hn, by first | trivial | rfl⟩
        case measure => simp [intOf]; omega
      · have Hn : Hid (searchE s k0 t = some k) := Hsp.out.trans (searchE_yes hc)
        rw [hc] at Hv
        clear Hsp hc
        go_wp2_with fail
        refine (Hv _).mono ?_
        rintro e w1 ⟨rfl, rfl⟩
        go_wp2
        go_ret
        exact ⟨ret_i64' (by rw [Hn.out]; rfl), rfl⟩
    · have Hn : Hid (searchE s k0 t = none) := Hsp.out.trans (searchE_end h)
      have q2 : decide ((k : Int) + (t.size : Int) ≤ (s.size : Int)) = false := decide_eq_false (by omega)
      clear Hsp
      go_wp2
      go_ret
      exact ⟨ret_i64' (by rw [Hn.out]; rfl), rfl⟩

end Go.Proofs.YthipdkagkdnaiaaGreatDoor.Sg

namespace Go.Proofs.YthipdkagkdnaiaaGreatDoor.Sg
open Go.ChangeShapes Go.WideShapes Go.ChangeAt Go.RowKit

def names5 : List (List UInt8) := [[38, 97, 109, 112, 59], [38, 108, 116, 59], [38, 103, 116, 59], [38, 113, 117, 111, 116, 59], [38, 97, 112, 111, 115, 59]]
def signs5 : List (List UInt8) := [[38], [60], [62], [34], [39]]
/-- What the model's XmlRef hands back. -/
def xrefV : Option (ByteArray × Nat) → Value
  | none => .tuple #[.string ⟨#[]⟩, .int .i64 (-1)]
  | some r => .tuple #[.string r.1, .int .i64 (r.2 : Int)]
theorem stands_head {s t : ByteArray} {k : Nat} {b : UInt8} (h : standsB s k t = true) (ht : t.data.toList.head? = some b) (hk : k < s.size) : s[k]'hk = b := by
  have hl := stands_le h
  unfold standsB at h
  rw [Bool.and_eq_true] at h
  have h2 : (s.extract k (k + t.size)).toList = t.toList := by simpa using h.2
  rw [ByteArray.toList_eq, ByteArray.toList_eq] at h2
  rw [← h2] at ht
  have hz : 0 < t.size := by
    cases hc : t.size with
    | zero =>
      rw [hc] at ht
      have : (s.extract k (k + 0)).data.toList = [] := by
        apply List.eq_nil_of_length_eq_zero
        rw [Array.length_toList]
        show (s.extract k (k + 0)).size = 0
        rw [ByteArray.size_extract]
        omega
      rw [this] at ht
      cases ht
    | succ _ => omega
  have e : (s.extract k (k + t.size)).data.toList = (s.data.toList.drop k).take t.size := by
    rw [ByteArray.data_extract, Array.toList_extract]
    simp
  rw [e, List.head?_take, if_neg (by omega), List.head?_drop] at ht
  have : s.data.toList[k]? = some (s[k]'hk) := by
    rw [List.getElem?_eq_getElem (by rw [Array.length_toList]; exact hk)]
    rfl
  rw [this] at ht
  exact Option.some.inj ht
theorem xrefR_38 {s : ByteArray} {k : Nat} (hk : k < s.size) (h : ¬ (s[k]'hk).toNat = 38) : xrefR s k = none := by
  have key : ∀ t : ByteArray, t.data.toList.head? = some 38 → standsB s k t = false := by
    intro t ht
    cases hc : standsB s k t with
    | false => rfl
    | true => exact absurd (by rw [stands_head hc ht hk]; rfl) h
  unfold xrefR
  rw [key ampB rfl, key ltB rfl, key gtB rfl, key quotB rfl, key aposB rfl, key hashB rfl]
  rfl
theorem xrefR_first {s : ByteArray} {k q : Nat} (hq : q < 5) (h1 : ∀ j, j < q → standsB s k (strB (names5.getD j [])) = false) (h2 : standsB s k (strB (names5.getD q [])) = true) :
    xrefR s k = some (strB (signs5.getD q []), k + (names5.getD q []).length) := by
  have e0 : strB (names5.getD 0 []) = ampB := rfl
  have e1 : strB (names5.getD 1 []) = ltB := rfl
  have e2 : strB (names5.getD 2 []) = gtB := rfl
  have e3 : strB (names5.getD 3 []) = quotB := rfl
  have e4 : strB (names5.getD 4 []) = aposB := rfl
  unfold xrefR
  match q, hq with
  | 0, _ =>
    rw [e0] at h2
    rw [h2]
    rfl
  | 1, _ =>
    have z0 := h1 0 (by omega)
    rw [e0] at z0
    rw [e1] at h2
    rw [z0, h2]
    rfl
  | 2, _ =>
    have z0 := h1 0 (by omega)
    have z1 := h1 1 (by omega)
    rw [e0] at z0
    rw [e1] at z1
    rw [e2] at h2
    rw [z0, z1, h2]
    rfl
  | 3, _ =>
    have z0 := h1 0 (by omega)
    have z1 := h1 1 (by omega)
    have z2 := h1 2 (by omega)
    rw [e0] at z0
    rw [e1] at z1
    rw [e2] at z2
    rw [e3] at h2
    rw [z0, z1, z2, h2]
    rfl
  | 4, _ =>
    have z0 := h1 0 (by omega)
    have z1 := h1 1 (by omega)
    have z2 := h1 2 (by omega)
    have z3 := h1 3 (by omega)
    rw [e0] at z0
    rw [e1] at z1
    rw [e2] at z2
    rw [e3] at z3
    rw [e4] at h2
    rw [z0, z1, z2, z3, h2]
    rfl
theorem xrefR_rest {s : ByteArray} {k : Nat} (h1 : ∀ j, j < 5 → standsB s k (strB (names5.getD j [])) = false) : xrefR s k = if standsB s k hashB = true then (xnumR s k).map (fun r => (putS (r.1 : Int), r.2 + 1)) else none := by
  have z0 := h1 0 (by omega)
  have z1 := h1 1 (by omega)
  have z2 := h1 2 (by omega)
  have z3 := h1 3 (by omega)
  have z4 := h1 4 (by omega)
  rw [show strB (names5.getD 0 []) = ampB from rfl] at z0
  rw [show strB (names5.getD 1 []) = ltB from rfl] at z1
  rw [show strB (names5.getD 2 []) = gtB from rfl] at z2
  rw [show strB (names5.getD 3 []) = quotB from rfl] at z3
  rw [show strB (names5.getD 4 []) = aposB from rfl] at z4
  unfold xrefR
  rw [z0, z1, z2, z3, z4]
  rfl

set_option maxHeartbeats 4000000 in
theorem specXmlRef_in (s : ByteArray) (k : Nat) (w : World) (hk : k < s.size) (hs : s.size ≤ 17592186044416) :
    Calls Tryz.prog 93 #[.string s, .int .i64 (k : Int)] w fun e w' => e = .returned (xrefV (xrefR s k)) ∧ Below w.heap.size w w' := by
  have g0 : decide ((k : Int) < 0) = false := decide_eq_false (by omega)
  have g1 : decide ((s.size : Int) ≤ (k : Int)) = false := decide_eq_false (by omega)
  have g2 : decide (s.size ≤ k) = false := decide_eq_false (by omega)
  have q0 : (0 : Int) ≤ (k : Int) := by omega
  have q1 : (k : Int) < (s.size : Int) := by omega
  by_cases h38 : (s[k]'hk).toNat = 38
  · have g38 : (((s[k]'hk).toNat : Int) == 38) = true := by rw [h38]; rfl
    have g38' : (((s[k]'hk).toNat : Int) != 38) = false := by rw [h38]; rfl
    clear h38
    obtain ⟨W2, HW2⟩ : ∃ W2, Hid (W2 = ((w.alloc (.cells #[.string ⟨#[38, 97, 109, 112, 59]⟩, .string ⟨#[38, 108, 116, 59]⟩, .string ⟨#[38, 103, 116, 59]⟩, .string ⟨#[38, 113, 117, 111, 116, 59]⟩, .string ⟨#[38, 97, 112, 111, 115, 59]⟩] 9)).alloc (.cells #[.string ⟨#[38]⟩, .string ⟨#[60]⟩, .string ⟨#[62]⟩, .string ⟨#[34]⟩, .string ⟨#[39]⟩] 9))) := ⟨_, rfl⟩
    have HTn : Hid (Texts W2 w.heap.size names5) := by
      rw [HW2.out]
      exact (Texts.laid w names5 #[.string ⟨#[38, 97, 109, 112, 59]⟩, .string ⟨#[38, 108, 116, 59]⟩, .string ⟨#[38, 103, 116, 59]⟩, .string ⟨#[38, 113, 117, 111, 116, 59]⟩, .string ⟨#[38, 97, 112, 111, 115, 59]⟩] 9 rfl).below (Nat.lt_succ_self _) ((Below.refl _ _).alloc (by simp) _)
    have HTs : Hid (Texts W2 (w.heap.size + 1) signs5) := by
      rw [HW2.out]
      have h := Texts.laid (w.alloc (.cells #[.string ⟨#[38, 97, 109, 112, 59]⟩, .string ⟨#[38, 108, 116, 59]⟩, .string ⟨#[38, 103, 116, 59]⟩, .string ⟨#[38, 113, 117, 111, 116, 59]⟩, .string ⟨#[38, 97, 112, 111, 115, 59]⟩] 9)) signs5 #[.string ⟨#[38]⟩, .string ⟨#[60]⟩, .string ⟨#[62]⟩, .string ⟨#[34]⟩, .string ⟨#[39]⟩] 9 rfl
      rw [show (w.alloc (.cells #[.string ⟨#[38, 97, 109, 112, 59]⟩, .string ⟨#[38, 108, 116, 59]⟩, .string ⟨#[38, 103, 116, 59]⟩, .string ⟨#[38, 113, 117, 111, 116, 59]⟩, .string ⟨#[38, 97, 112, 111, 115, 59]⟩] 9)).heap.size = w.heap.size + 1 by simp] at h
      exact h
    have HB2 : Hid (Below w.heap.size w W2) := by
      rw [HW2.out]
      exact ((Below.refl _ _).alloc (Nat.le_refl _) _).alloc (by simp) _
    go_enter Tryz.func93, Tryz.ntmps93
    go_wp2_with fail
    rw [← HW2.out]
    clear HW2
    go_loopw [8] (fun i wr => ∃ q : Nat, q ≤ 5 ∧ i = .int .i64 (q : Int) ∧ Hid (∀ j, j < q → standsB s k (strB (names5.getD j [])) = false) ∧ wr = W2) (fun i _ => 5 - (intOf i).toNat)
    case atStart => exact ⟨0, by omega, rfl, fun j hj => absurd hj (by omega), rfl⟩
    case round =>
      obtain ⟨q, hq, rfl, HQ, rfl⟩ := hrel
      by_cases hlt : q < 5
      · have hc := HTn.out.2 q hlt
        have hc2 := HTs.out.2 q hlt
        have hl1 : (names5.getD q []).length ≤ 6 := by
          match q, hlt with
          | 0, _ | 1, _ | 2, _ | 3, _ | 4, _ => decide
        have Hst := fun W => specStands s k (strB (names5.getD q [])) W hs (by omega) (by rw [strB_size]; omega)
        have HF := fun h => xrefR_first (s := s) (k := k) hlt HQ.out h
        have Hsz : Hid ((strB (names5.getD q [])).size = (names5.getD q []).length) := strB_size _
        have z0 : (0 : Int) ≤ (q : Int) := by omega
        have z1 : (q : Int) < 5 := by omega
        cases hb : standsB s k (strB (names5.getD q []))
        · have HQ2 : Hid (∀ j, j < q + 1 → standsB s k (strB (names5.getD j [])) = false) := fun j hj => by
            rcases Nat.lt_succ_iff_lt_or_eq.1 hj with h | rfl
            · exact HQ.out j h
            · exact hb
          rw [hb] at Hst
          clear HF hb HQ
          go_wp2_with fail
          refine (Hst _).mono ?_
          rintro e w1 ⟨rfl, rfl⟩
          go_wp2_with fail
          go_roundw
          case rel => exact ⟨q + 1, by omega, by go_num, HQ2, trivial⟩
          case measure => simp [intOf]; omega
        · have HX : Hid (xrefR s k = some (strB (signs5.getD q []), k + (names5.getD q []).length)) := HF hb
          rw [hb] at Hst
          clear HF hb HQ
          generalize names5.getD q [] = nm at *
          generalize strB (signs5.getD q []) = sg at *
          generalize strB nm = nb at *
          generalize nm.length = m at *
          have y1 : IntKind.i64.wrap ((k : Int) + (nb.size : Int)) = (k : Int) + (nb.size : Int) := IntWalk.i64_in _ (by rw [Hsz.out]; omega)
          go_wp2_with fail
          refine (Hst _).mono ?_
          rintro e w1 ⟨rfl, rfl⟩
          go_wp2_with fail
          go_quiet (fail)
          go_wp2_with fail
          go_ret2
          rw [HX.out]
          exact ⟨by rw [Hsz.out]; rfl, drew_kd HB2.out _⟩
      · obtain rfl : q = 5 := by omega
        have Hst := fun W => specStands s k hashB W hs (by omega) (by decide)
        have HR : Hid (xrefR s k = if standsB s k hashB = true then (xnumR s k).map (fun r => (putS (r.1 : Int), r.2 + 1)) else none) := xrefR_rest HQ.out
        clear HQ hlt
        cases hb : standsB s k hashB
        · rw [hb] at Hst HR
          clear hb
          go_wp2_with fail
          refine (Hst _).mono ?_
          rintro e w1 ⟨rfl, rfl⟩
          go_wp2_with fail
          go_ret2
          rw [HR.out]
          exact ⟨rfl, HB2.out⟩
        · have hl := stands_le hb
          rw [hb] at Hst HR
          have Hnum := fun W => specNumber18 s k W hl hs
          clear hb
          cases hr : xnumR s k with
          | none =>
            rw [hr] at HR Hnum
            go_wp2_with fail
            refine (Hst _).mono ?_
            rintro e w1 ⟨rfl, rfl⟩
            go_wp2_with fail
            refine (Hnum _).mono ?_
            rintro e w1 ⟨rfl, rfl⟩
            simp only [numV]
            go_wp2_with fail
            go_ret2
            rw [HR.out]
            exact ⟨rfl, HB2.out⟩
          | some r =>
            obtain ⟨n, j⟩ := r
            have hj := xnumR_le hr
            rw [hr] at HR Hnum
            have y1 : IntKind.i64.wrap ((j : Int) + 1) = (j : Int) + 1 := IntWalk.i64_in _ (by simp only at hj; omega)
            go_wp2_with fail
            refine (Hst _).mono ?_
            rintro e w1 ⟨rfl, rfl⟩
            go_wp2_with fail
            refine (Hnum _).mono ?_
            rintro e w1 ⟨rfl, rfl⟩
            simp only [numV]
            go_wp2_with fail
            refine (specPutSign (n : Int) _).mono ?_
            rintro e w2 ⟨rfl, b2⟩
            go_wp2_with fail
            go_ret2
            rw [HR.out]
            exact ⟨rfl, below_from HB2.out b2⟩
  · have g38 : (((s[k]'hk).toNat : Int) == 38) = false := by rw [beq_eq_false_iff_ne]; omega
    have Hx : Hid (xrefR s k = none) := xrefR_38 hk h38
    clear h38
    go_enter Tryz.func93, Tryz.ntmps93
    go_wp2_with fail
    go_ret2
    rw [Hx.out]
    exact ⟨rfl, Below.refl _ _⟩

end Go.Proofs.YthipdkagkdnaiaaGreatDoor.Sg

namespace Go.Proofs.YthipdkagkdnaiaaGreatDoor.Sg
open Go.ChangeShapes Go.WideShapes Go.ChangeAt Go.RowKit

end Go.Proofs.YthipdkagkdnaiaaGreatDoor.Sg

namespace Go.Proofs.YthipdkagkdnaiaaGreatDoor.Sg
open Go.ChangeShapes Go.WideShapes Go.ChangeAt Go.RowKit

/-- What refAt tells. -/
def prefV (a : Addr) (k : Int) : Option (ByteArray × Nat) → Value
  | some r => .tuple #[.string r.1, .int .i64 (r.2 : Int), .nilIface]
  | none => .tuple #[.string ⟨#[]⟩, .int .i64 k, errV a]
theorem ret_pref {a : Addr} {k : Int} {o : Option (ByteArray × Nat)} {t : ByteArray} {j : Nat} {v : Value} (h : o = some (t, j)) (hv : v = .tuple #[.string t, .int .i64 (j : Int), .nilIface]) : Ending.returned v = .returned (prefV a k o) := by rw [h, hv]; rfl
theorem ret_pref0 {a : Addr} {k : Int} {o : Option (ByteArray × Nat)} (h : o = none) : Ending.returned (.tuple #[.string ⟨#[]⟩, .int .i64 k, errV a]) = .returned (prefV a k o) := by rw [h]; rfl

set_option maxHeartbeats 2000000 in
theorem refAt_out (s : ByteArray) (i : Int) (a : Addr) (w : World) (h : i < 0 ∨ (s.size : Int) ≤ i) (hE : ErrA a w) :
    Calls Tryz.prog 128 #[.string s, .int .i64 i] w fun e w' => e = .returned (prefV a i none) ∧ Below w.heap.size w w' := by
  have hv : w.cell? ⟨0, 0, none⟩ = some (errV a) := hE
  clear hE
  by_cases h0 : i < 0
  · clear h
    go_enter Tryz.func128, Tryz.ntmps128
    go_wp2_with fail
    go_quiet (fail)
    have bf := drew_kd (Below.refl w.heap.size w) nq
    go_wp2_with fail
    go_ret3
    exact ⟨rfl, bf⟩
  · have g0 : decide (i < 0) = false := decide_eq_false h0
    have g1 : (s.size : Int) ≤ i := by omega
    clear h
    go_enter Tryz.func128, Tryz.ntmps128
    go_wp2_with fail
    go_quiet (fail)
    have bf := drew_kd (Below.refl w.heap.size w) nq
    go_wp2_with fail
    go_ret3
    exact ⟨rfl, bf⟩
theorem tail_bytes (s : ByteArray) (k : Nat) : (s.extract k s.size).data.toList = tailL s k := by
  rw [Lib.extract_data]
  exact List.take_of_length_le (by rw [List.length_drop, ← Lib.size_eq]; exact Nat.le_refl _)
theorem cut_hit {l : List UInt8} {i : Nat} (h : Lib.index l [59] = i) : Lib.cut l [59] = (l.take i, l.drop (i + 1), true) := by
  unfold Lib.cut
  rw [h, if_pos (by omega)]
  rfl
theorem cut_miss {l : List UInt8} (h : Lib.index l [59] = -1) : Lib.cut l [59] = (l, [], false) := by
  unfold Lib.cut
  rw [h, if_neg (by omega)]

set_option maxHeartbeats 4000000 in
theorem refAt_in (s : ByteArray) (k : Nat) (a : Addr) (w : World) (hk : k < s.size) (h38 : s[k]'hk = 38) (hs : s.size ≤ 1073741824) (hE : ErrA a w) (hM : MaxLen w) :
    Calls Tryz.prog 128 #[.string s, .int .i64 (k : Int)] w fun e w' => e = .returned (prefV a k (xrefR s k)) ∧ Below w.heap.size w w' := by
  have HR : Hid (xrefR s k = (refP (tailL s (k + 1))).map fun r => (putS r.1, k + 2 + r.2)) := refP_eq hk h38
  have g38 : (((s[k]'hk).toNat : Int) == 38) = true := by rw [h38]; rfl
  have g38' : (((s[k]'hk).toNat : Int) != 38) = false := by rw [bne, g38]; rfl
  have hlt := tailL_length s (k + 1)
  have q1 : IntKind.i64.wrap ((k : Int) + 1) = (k : Int) + 1 := IntWalk.i64_in _ (by omega)
  have q2 : ((k : Int) + 1).toNat = k + 1 := by omega
  have q3 : (0 : Int) ≤ (k : Int) + 1 := by omega
  have q4 : (k : Int) + 1 ≤ (s.size : Int) := by omega
  have HE : Hid (ErrA a w) := hE
  obtain ⟨m, hm⟩ := hM
  have HC := Tryz.strings_Cut (s.extract (k + 1) s.size) ⟨#[59]⟩ m w (by rw [ByteArray.size_extract]; omega) hm
  rw [tail_bytes, show (⟨#[59]⟩ : ByteArray).data.toList = [59] from rfl] at HC
  clear h38 hE hm
  rcases Lib.index_spec (tailL s (k + 1)) [59] with ⟨h1, _⟩ | ⟨i, h1, h2, _, _⟩
  · have Hn : Hid (xrefR s k = none) := by
      show _ = _
      rw [HR.out]
      unfold refP
      rw [if_neg (by omega)]
      rfl
    rw [cut_miss h1] at HC
    have HS := implRefSign (tailL s (k + 1)) a
    rw [show strB (tailL s (k + 1)) = (⟨(tailL s (k + 1)).toArray⟩ : ByteArray) from rfl] at HS
    clear HR h1
    generalize (⟨(tailL s (k + 1)).toArray⟩ : ByteArray) = nm at *
    generalize refSignL (tailL s (k + 1)) = R at *
    go_enter Tryz.func128, Tryz.ntmps128
    go_wp2_with fail
    refine HC.mono ?_
    rintro e w1 ⟨rfl, n, hw1⟩
    have b1 : Below w.heap.size w w1 := hw1 ▸ drew_kd (Below.refl _ _) n
    clear hw1 HC
    have HE1 := HE.out.below b1
    go_wp2_with fail
    refine (HS w1 (by omega) HE1).mono ?_
    rintro e w2 ⟨rfl, b2⟩
    have b3 := below_from b1 b2
    have hv2 : w2.cell? ⟨0, 0, none⟩ = some (errV a) := HE.out.below b3
    cases R with
    | none =>
      rw [show pnumV a none = .tuple #[.int .i64 0, errV a] from rfl]
      go_wp2_with fail
      go_quiet (fail)
      have bf := drew_kd b3 nq
      go_wp2_with fail
      go_ret3
      exact ⟨ret_pref0 Hn.out, bf⟩
    | some z =>
      rw [show pnumV a (some z) = .tuple #[.int .i64 z, .nilIface] from rfl]
      go_wp2_with fail
      go_quiet (fail)
      have bf := drew_kd b3 nq
      go_wp2_with fail
      go_ret3
      exact ⟨ret_pref0 Hn.out, bf⟩
  · have hil : i < (tailL s (k + 1)).length := by
      have := Lib.index_room (tailL s (k + 1)) [59] (by omega)
      rw [h1] at this
      simp at this
      omega
    have HR2 : Hid (xrefR s k = (refSignL ((tailL s (k + 1)).take i)).map fun z => (putS z, k + 2 + i)) := by
      show _ = _
      rw [HR.out]
      unfold refP
      rw [h1, if_pos (by omega), show ((i : Nat) : Int).toNat = i from rfl, Option.map_map]
      rfl
    rw [cut_hit h1] at HC
    have htl : ((tailL s (k + 1)).take i).length = i := by rw [List.length_take]; omega
    have HS := implRefSign ((tailL s (k + 1)).take i) a
    have hsz : (strB ((tailL s (k + 1)).take i)).size = i := by rw [strB_size, htl]
    rw [show strB ((tailL s (k + 1)).take i) = (⟨((tailL s (k + 1)).take i).toArray⟩ : ByteArray) from rfl] at HS hsz
    clear HR h1
    generalize (⟨((tailL s (k + 1)).take i).toArray⟩ : ByteArray) = nm at *
    generalize (⟨((tailL s (k + 1)).drop (i + 1)).toArray⟩ : ByteArray) = rs at *
    rw [htl] at HS
    generalize refSignL ((tailL s (k + 1)).take i) = R at *
    have Hsz : Hid (nm.size = i) := hsz
    clear hsz htl h2
    have q5 : IntKind.i64.wrap ((k : Int) + 1 + (nm.size : Int)) = (k : Int) + 1 + (nm.size : Int) := IntWalk.i64_in _ (by have := Hsz.out; omega)
    have q6 : IntKind.i64.wrap ((k : Int) + 1 + (nm.size : Int) + 1) = (k : Int) + 1 + (nm.size : Int) + 1 := IntWalk.i64_in _ (by have := Hsz.out; omega)
    have Hj : Hid (((k + 2 + i : Nat) : Int) = (k : Int) + 1 + (nm.size : Int) + 1) := by show _ = _; have := Hsz.out; omega
    go_enter Tryz.func128, Tryz.ntmps128
    go_wp2_with fail
    refine HC.mono ?_
    rintro e w1 ⟨rfl, n, hw1⟩
    have b1 : Below w.heap.size w w1 := hw1 ▸ drew_kd (Below.refl _ _) n
    clear hw1 HC
    have HE1 := HE.out.below b1
    go_wp2_with fail
    refine (HS w1 (by omega) HE1).mono ?_
    rintro e w2 ⟨rfl, b2⟩
    have b3 := below_from b1 b2
    have hv2 : w2.cell? ⟨0, 0, none⟩ = some (errV a) := HE.out.below b3
    cases R with
    | none =>
      have Hn : Hid (xrefR s k = none) := HR2.out
      rw [show pnumV a none = .tuple #[.int .i64 0, errV a] from rfl]
      go_wp2_with fail
      go_quiet (fail)
      have bf := drew_kd b3 nq
      go_wp2_with fail
      go_ret3
      exact ⟨ret_pref0 Hn.out, bf⟩
    | some z =>
      have Hn : Hid (xrefR s k = some (putS z, k + 2 + i)) := HR2.out
      have HP := implPutSign z
      generalize putS z = P at *
      rw [show pnumV a (some z) = .tuple #[.int .i64 z, .nilIface] from rfl]
      go_wp2_with fail
      refine (HP _).mono ?_
      rintro e w3 ⟨rfl, rfl⟩
      go_wp2_with fail
      go_ret3
      exact ⟨ret_pref Hn.out (by rw [Hj.out]; rfl), b3⟩

end Go.Proofs.YthipdkagkdnaiaaGreatDoor.Sg

namespace Go.Proofs.YthipdkagkdnaiaaGreatDoor.Sg
open Go.ChangeShapes Go.WideShapes Go.ChangeAt Go.RowKit

/-- What the world holds, and how long the library's own number is. -/
def PcX (a : Addr) (w : World) : Prop := PcT a w ∧ MaxLen w
theorem PcX.below {a : Addr} {w w' : World} (h : PcX a w) (hb : Below w.heap.size w w') : PcX a w' := ⟨h.1.below hb, h.2.below hb⟩

/-- A text's sign, as it is or as a reference: its bytes, and the place behind it. -/
def tsO (s : ByteArray) (k : Nat) (h : k < s.size) : Option (ByteArray × Nat) := if s[k]'h = 38 then xrefR s k else if psignB s k then some (s.extract k (k + (getS s k).2), k + (getS s k).2) else none

set_option maxHeartbeats 4000000 in
theorem implTextSign (s : ByteArray) (k : Nat) (a : Addr) (w : World) (hk : k < s.size) (hs : s.size ≤ 1073741824) (hX : PcX a w) :
    Calls Tryz.prog 108 #[.string s, .int .i64 (k : Int)] w fun e w' => e = .returned (prefV a k (tsO s k hk)) ∧ Below w.heap.size w w' := by
  have HX : Hid (PcX a w) := hX
  clear hX
  by_cases h38 : s[k]'hk = 38
  · have g38 : (((s[k]'hk).toNat : Int) == 38) = true := by rw [h38]; rfl
    have Ho : Hid (tsO s k hk = xrefR s k) := if_pos h38
    have HC := refAt_in s k a w hk h38 hs HX.out.1.2 HX.out.2
    clear h38
    generalize xrefR s k = R at *
    go_enter Tryz.func108, Tryz.ntmps108
    go_wp2_with fail
    refine HC.mono ?_
    rintro e w1 ⟨rfl, b1⟩
    cases R with
    | none =>
      rw [show prefV a k none = .tuple #[.string ⟨#[]⟩, .int .i64 k, errV a] from rfl]
      go_wp2_with fail
      go_ret3
      exact ⟨ret_pref0 Ho.out, b1⟩
    | some r =>
      obtain ⟨t, j⟩ := r
      rw [show prefV a k (some (t, j)) = .tuple #[.string t, .int .i64 (j : Int), .nilIface] from rfl]
      go_wp2_with fail
      go_ret3
      exact ⟨ret_pref Ho.out rfl, b1⟩
  · have g38 : (((s[k]'hk).toNat : Int) == 38) = false := by
      rw [beq_eq_false_iff_ne]
      intro h
      exact h38 (UInt8.toNat_inj.1 (show (s[k]'hk).toNat = 38 by omega))
    have Ho : Hid (tsO s k hk = if psignB s k then some (s.extract k (k + (getS s k).2), k + (getS s k).2) else none) := if_neg h38
    have Hp : Hid (psignB s k = (textB ((getS s k).1 : Int) && (decide ((getS s k).1 ≠ 13) && (decide ((getS s k).1 ≠ 60) && asRead s k)))) := rfl
    clear h38
    cases hr : asRead s k
    · have HG := signAt_no s k a w hk (by omega) HX.out.1 hr
      have Hn : Hid (tsO s k hk = none) := by show _ = _; rw [Ho.out, Hp.out, hr]; simp
      clear hr Hp Ho
      go_enter Tryz.func108, Tryz.ntmps108
      go_wp2_with fail
      refine HG.mono ?_
      rintro e w1 ⟨rfl, b1⟩
      have hv1 : w1.cell? ⟨0, 0, none⟩ = some (errV a) := HX.out.1.2.below b1
      clear HG
      go_wp2_with fail
      go_quiet (fail)
      have bf := drew_kd b1 nq
      go_wp2_with fail
      go_ret3
      exact ⟨ret_pref0 Hn.out, bf⟩
    · have HG := signAt_yes s k a w hk (by omega) HX.out.1 hr
      have hm := getS_many s k hk
      rw [hr] at Hp
      clear hr
      have HI := implIsText ((getS s k).1 : Int)
      generalize psignB s k = ps at *
      generalize (getS s k).1 = n at *
      generalize (getS s k).2 = m at *
      cases ht : textB (n : Int)
      · have Hn : Hid (tsO s k hk = none) := by show _ = _; rw [Ho.out, Hp.out, ht]; simp
        rw [ht] at HI
        clear ht Hp Ho
        go_enter Tryz.func108, Tryz.ntmps108
        go_wp2_with fail
        refine HG.mono ?_
        rintro e w1 ⟨rfl, b1⟩
        have hv1 : w1.cell? ⟨0, 0, none⟩ = some (errV a) := HX.out.1.2.below b1
        clear HG
        go_wp2_with fail
        refine (HI _).mono ?_
        rintro e w2 ⟨rfl, rfl⟩
        clear HI
        go_wp2_with fail
        go_quiet (fail)
        have bf := drew_kd b1 nq
        go_wp2_with fail
        go_ret3
        exact ⟨ret_pref0 Hn.out, bf⟩
      · rw [ht] at HI Hp
        clear ht
        by_cases h13 : n = 13
        · have Hn : Hid (tsO s k hk = none) := by show _ = _; rw [Ho.out, Hp.out, h13]; simp
          have g13 : ((n : Int) == 13) = true := by rw [h13]; rfl
          clear h13 Hp Ho
          go_enter Tryz.func108, Tryz.ntmps108
          go_wp2_with fail
          refine HG.mono ?_
          rintro e w1 ⟨rfl, b1⟩
          have hv1 : w1.cell? ⟨0, 0, none⟩ = some (errV a) := HX.out.1.2.below b1
          clear HG
          go_wp2_with fail
          refine (HI _).mono ?_
          rintro e w2 ⟨rfl, rfl⟩
          clear HI
          go_wp2_with fail
          go_quiet (fail)
          have bf := drew_kd b1 nq
          go_wp2_with fail
          go_ret3
          exact ⟨ret_pref0 Hn.out, bf⟩
        · have g13 : ((n : Int) == 13) = false := by rw [beq_eq_false_iff_ne]; omega
          by_cases h60 : n = 60
          · have Hn : Hid (tsO s k hk = none) := by show _ = _; rw [Ho.out, Hp.out, h60]; simp
            have g60 : ((n : Int) == 60) = true := by rw [h60]; rfl
            clear h60 h13 Hp Ho
            go_enter Tryz.func108, Tryz.ntmps108
            go_wp2_with fail
            refine HG.mono ?_
            rintro e w1 ⟨rfl, b1⟩
            have hv1 : w1.cell? ⟨0, 0, none⟩ = some (errV a) := HX.out.1.2.below b1
            clear HG
            go_wp2_with fail
            refine (HI _).mono ?_
            rintro e w2 ⟨rfl, rfl⟩
            clear HI
            go_wp2_with fail
            go_quiet (fail)
            have bf := drew_kd b1 nq
            go_wp2_with fail
            go_ret3
            exact ⟨ret_pref0 Hn.out, bf⟩
          · have g60 : ((n : Int) == 60) = false := by rw [beq_eq_false_iff_ne]; omega
            have Hn : Hid (tsO s k hk = some (s.extract k (k + m), k + m)) := by show _ = _; rw [Ho.out, Hp.out]; simp [h13, h60]
            have q1 : (k : Int) ≤ (k : Int) + (m : Int) := by omega
            have q2 : (k : Int) + (m : Int) ≤ (s.size : Int) := by omega
            have q3 : ((k : Int) + (m : Int)).toNat = k + m := by omega
            clear h60 h13 Hp Ho
            go_enter Tryz.func108, Tryz.ntmps108
            go_wp2_with fail
            refine HG.mono ?_
            rintro e w1 ⟨rfl, b1⟩
            clear HG
            go_wp2_with fail
            refine (HI _).mono ?_
            rintro e w2 ⟨rfl, rfl⟩
            clear HI
            go_wp2_with fail
            go_ret3
            exact ⟨ret_pref Hn.out (by rfl), b1⟩

end Go.Proofs.YthipdkagkdnaiaaGreatDoor.Sg

namespace Go.Proofs.YthipdkagkdnaiaaGreatDoor.Sg
open Go.ChangeShapes Go.WideShapes Go.ChangeAt Go.RowKit

/-- The reader's block. -/
def RqAt (w : World) (p : Nat) (s : ByteArray) (k : Int) : Prop :=
  w.heap[p]? = some (.cells #[.string s, .int .i64 k] 43 (0, 0))
theorem RqAt.lt {w : World} {p : Nat} {s : ByteArray} {k : Int} (h : RqAt w p s k) : p < w.heap.size := (Array.getElem?_eq_some_iff.1 h).1
theorem RqAt.c0 {w : World} {p : Nat} {s : ByteArray} {k : Int} (h : RqAt w p s k) : w.cell? ⟨p, 0, none⟩ = some (.string s) := by unfold RqAt at h; simp [World.cell?, h]
theorem RqAt.c1 {w : World} {p : Nat} {s : ByteArray} {k : Int} (h : RqAt w p s k) : w.cell? ⟨p, 1, none⟩ = some (.int .i64 k) := by unfold RqAt at h; simp [World.cell?, h]
theorem RqAt.fz {w : World} {p : Nat} {s : ByteArray} {k : Int} (h : RqAt w p s k) (i : Nat) : w.frozen? ⟨p, i, none⟩ = false := by unfold RqAt at h; simp [World.frozen?, h]
theorem RqAt.set1 {w : World} {p : Nat} {s : ByteArray} {k : Int} (h : RqAt w p s k) (k' : Int) : RqAt (w.setCell ⟨p, 1, none⟩ (.int .i64 k')) p s k' := by
  unfold RqAt at *
  simp [World.setCell, Array.getElem?_modify, h]
theorem RqAt.keep {w w' : World} {p : Nat} {s : ByteArray} {k : Int} (h : RqAt w p s k) (hb : Below w.heap.size w w') : RqAt w' p s k := (hb.block p h.lt).trans h

/-- What is read of the world, laid before the reader was. -/
def PcP (a : Addr) (p : Nat) (w : World) : Prop := ∃ W0, PcX a W0 ∧ W0.heap.size ≤ p ∧ Below W0.heap.size W0 w
theorem PcP.x {a : Addr} {p : Nat} {w : World} (h : PcP a p w) : PcX a w := by obtain ⟨W0, h1, _, h3⟩ := h; exact h1.below h3
theorem PcP.fr {a : Addr} {p : Nat} {w w' : World} (h : PcP a p w) (hf : Fr p w w') : PcP a p w' := by
  obtain ⟨W0, h1, h2, h3⟩ := h
  exact ⟨W0, h1, h2, h3.trans (hf.below h2 h3.size)⟩
/-- The reader as it stands at a place. -/
def Rq (a : Addr) (p : Nat) (s : ByteArray) (k : Int) (w : World) : Prop := RqAt w p s k ∧ PcP a p w
theorem Rq.keep {a : Addr} {p : Nat} {s : ByteArray} {k : Int} {w w' : World} (h : Rq a p s k w) (hb : Below w.heap.size w w') : Rq a p s k w' := ⟨h.1.keep hb, h.2.fr (Fr.of_below hb)⟩
theorem Rq.set {a : Addr} {p : Nat} {s : ByteArray} {k : Int} {w : World} (h : Rq a p s k w) (k' : Int) : Rq a p s k' (w.setCell ⟨p, 1, none⟩ (.int .i64 k')) := ⟨h.1.set1 k', h.2.fr (Fr.set _ _ _)⟩
theorem Rq.facts {a : Addr} {p : Nat} {s : ByteArray} {k : Int} {w : World} (h : Rq a p s k w) : w.cell? ⟨p, 0, none⟩ = some (.string s) ∧ w.cell? ⟨p, 1, none⟩ = some (.int .i64 k) ∧ (∀ i, w.frozen? ⟨p, i, none⟩ = false) ∧ p < w.heap.size := ⟨h.1.c0, h.1.c1, h.1.fz, h.1.lt⟩

/-- What is refused is a panic with that error. -/
abbrev PanE (a : Addr) : Ending := .panicked [{ v := errV a, recovered := false }]

theorem ElOwn.low {S S' : List ElB → Value → Foot → Prop} {w : World} {B B' : Nat} {e : ElB} {v : Value} {F : Foot} (h : ElOwn S w B e v F) (hB : B' ≤ B) (hS : ∀ l v F', S l v F' → S' l v F') : ElOwn S' w B' e v F := by
  obtain ⟨kd, sp, nm, ats, tx, ks⟩ := e
  obtain ⟨av, kv, Fk, rfl, ha, hab, hk, hkf⟩ := h
  exact ⟨av, kv, Fk, rfl, own_mono ha hB, hab, hS _ _ _ hk, hkf⟩
theorem OwnS.low {B B' : Nat} (hB : B' ≤ B) : ∀ (n : Nat) {w : World} {l : List ElB} {v : Value} {F : Foot}, OwnS w B n l v F → OwnS w B' n l v F
  | 0, _, _, _, _, ⟨h1, h2, h3⟩ => ⟨h1, own_mono h2 hB, h3⟩
  | n + 1, _, _, _, _, ⟨C, Fs, h1, h2, h3, h4, h5⟩ => ⟨C, Fs, own_mono h1 hB, h2, h3, h4, fun i hi => (h5 i hi).low hB (fun _ _ _ hs => OwnS.low hB n hs)⟩
theorem ElOwn.wideF {S : List ElB → Value → Foot → Prop} {w : World} {B : Nat} {e : ElB} {v : Value} {F F' : Foot} (h : ElOwn S w B e v F) (hF : ∀ b, F b → F' b) : ElOwn S w B e v F' := by
  obtain ⟨kd, sp, nm, ats, tx, ks⟩ := e
  obtain ⟨av, kv, Fk, rfl, ha, hab, hk, hkf⟩ := h
  exact ⟨av, kv, Fk, rfl, ha, fun b hb => ⟨hF b (hab b hb).1, (hab b hb).2⟩, hk, fun b hb => hF b (hkf b hb)⟩

/-- All blocks from some block on that are there. -/
abbrev Since (N : Nat) (w : World) : Foot := fun b => N ≤ b ∧ b < w.heap.size
/-- An element that was made since N. -/
def ElNew (w : World) (N n : Nat) (e : ElB) (v : Value) : Prop := ElOwn (OwnS w N n) w N e v (Since N w)
/-- A row of elements that was made since N: in its cells, and in blocks of its own. -/
def RowO (w : World) (N n : Nat) (v : Value) (l : List ElB) (C : List Value) (Fs : Nat → Foot) : Prop :=
  w.ownsRow N 25 6 v l.length C ∧ (∀ i, i < l.length → ∀ b, Fs i b → Since N w b ∧ v.ownBlock ≠ some b) ∧ (∀ i j, i < l.length → j < l.length → i ≠ j → ∀ b, Fs i b → ¬ Fs j b) ∧ ∀ i (hi : i < l.length), ElOwn (OwnS w N n) w N (l[i]'hi) (sixV C i) (Fs i)
theorem own_since {w : World} {base : Nat} {e : TypeId} {size : Nat} {v : Value} {n : Nat} {xs : List Value} (ho : w.ownsRow base e size v n xs) {b : Nat} (hb : v.ownBlock = some b) : Since base w b := by
  rcases ho.2 with ⟨rfl, h0⟩ | ⟨g', cap', cur, rfl, h3, h4, h5⟩
  · cases hb
  · cases hb
    exact ⟨h3, (Array.getElem?_eq_some_iff.1 h4).1⟩
theorem RowO.own {w : World} {N n : Nat} {v : Value} {l : List ElB} {C : List Value} {Fs : Nat → Foot} (h : RowO w N n v l C Fs) : OwnS w N (n + 1) l v (Since N w) :=
  ⟨C, Fs, h.1, fun _ hb => own_since h.1 hb, h.2.1, h.2.2.1, h.2.2.2⟩
theorem RowO.nil (w : World) (N n : Nat) : RowO w N n (.slice none 0 0) [] [] (fun _ _ => False) :=
  ⟨⟨rfl, .inl ⟨rfl, rfl⟩⟩, fun _ hi => absurd hi (Nat.not_lt_zero _), fun _ _ hi => absurd hi (Nat.not_lt_zero _), fun _ hi => absurd hi (Nat.not_lt_zero _)⟩
theorem RowO.keep {w w' : World} {N n : Nat} {v : Value} {l : List ElB} {C : List Value} {Fs : Nat → Foot} (h : RowO w N n v l C Fs) (hs : w.heap.size ≤ w'.heap.size) (hb : ∀ b, Since N w b → w'.heap[b]? = w.heap[b]?) : RowO w' N n v l C Fs := by
  obtain ⟨h1, h2, h3, h4⟩ := h
  refine ⟨owns_stay h1 (fun b h5 _ => hb b (own_since h1 h5)), fun i hi b hF => ⟨⟨(h2 i hi b hF).1.1, Nat.lt_of_lt_of_le (h2 i hi b hF).1.2 hs⟩, (h2 i hi b hF).2⟩, h3, fun i hi => ?_⟩
  exact (h4 i hi).stay (fun _ _ _ hF hS => OwnS.stay n hS (fun b hb1 _ => hb b (h2 i hi b (hF b hb1)).1)) (fun b hF _ => hb b (h2 i hi b hF).1)
theorem RowO.below {w w' : World} {N n : Nat} {v : Value} {l : List ElB} {C : List Value} {Fs : Nat → Foot} (h : RowO w N n v l C Fs) (hb : Below w.heap.size w w') : RowO w' N n v l C Fs := h.keep hb.size (fun b h1 => hb.block b h1.2)
theorem RowO.fr {p : Nat} {w w' : World} {N n : Nat} {v : Value} {l : List ElB} {C : List Value} {Fs : Nat → Foot} (h : RowO w N n v l C Fs) (hf : Fr p w w') (hp : p < N) : RowO w' N n v l C Fs := h.keep hf.size (fun b h1 => hf.block b h1.2 (by have := h1.1; omega))
theorem ElNew.keep {w w' : World} {N n : Nat} {e : ElB} {v : Value} (h : ElNew w N n e v) (hs : w.heap.size ≤ w'.heap.size) (hb : ∀ b, Since N w b → w'.heap[b]? = w.heap[b]?) : ElNew w' N n e v := by
  have h1 : ElOwn (OwnS w' N n) w' N e v (Since N w) := ElOwn.stay h (fun _ _ _ hF hS => OwnS.stay n hS (fun b hb1 _ => hb b (hF b hb1))) (fun b hF _ => hb b hF)
  exact h1.wideF (fun b hb => ⟨hb.1, Nat.lt_of_lt_of_le hb.2 hs⟩)
theorem ElNew.below {w w' : World} {N n : Nat} {e : ElB} {v : Value} (h : ElNew w N n e v) (hb : Below w.heap.size w w') : ElNew w' N n e v := h.keep hb.size (fun b h1 => hb.block b h1.2)
theorem ElNew.low {w : World} {N N' n : Nat} {e : ElB} {v : Value} (h : ElNew w N n e v) (hN : N' ≤ N) : ElNew w N' n e v :=
  (ElOwn.low h hN (fun _ _ _ hS => OwnS.low hN n hS)).wideF (fun _ hb => ⟨Nat.le_trans hN hb.1, hb.2⟩)
/-- An element of a text alone. -/
theorem ElNew.bare (w : World) (N n : Nat) (k : Int) (t : ByteArray) : ElNew w N n (.mk k 0 ⟨#[]⟩ [] t []) (.agg #[.int .i64 k, .int .i64 0, .string ⟨#[]⟩, .slice none 0 0, .string t, .slice none 0 0]) :=
  ⟨.slice none 0 0, .slice none 0 0, fun _ => False, rfl, ⟨rfl, .inl ⟨rfl, rfl⟩⟩, fun _ hb => by (cases hb), OwnS.nil _ _ _ _, fun _ h => h.elim⟩
/-- What an element that was made is as a value. -/
theorem ElNew.form {w : World} {N n : Nat} {kd sp : Int} {nm tx : ByteArray} {ats : List AttrB} {ks : List ElB} {v : Value} (h : ElNew w N n (.mk kd sp nm ats tx ks) v) : ∃ xa xc ka kc, v = .agg #[.int .i64 kd, .int .i64 sp, .string nm, .slice xa ats.length xc, .string tx, .slice ka ks.length kc] := by
  obtain ⟨av, kv, _, rfl, hat, _, hks, _⟩ := h
  obtain ⟨xa, xc, eav, _⟩ := attrs_of_own hat
  obtain ⟨ka, kc, ekv, _⟩ := OwnS.kids n hks
  exact ⟨xa, xc, ka, kc, by rw [eav, ekv]⟩

/-- One more is appended, that was made since. -/
theorem RowO.more {w w' : World} {lo N n : Nat} {v v' : Value} {l : List ElB} {C : List Value} {Fs : Nat → Foot} {a0 a1 a2 a3 a4 a5 : Value} {e : ElB}
    (h : RowO w lo n v l C Fs) (hv : ∀ b, v.ownBlock = some b → b < N) (hFs : ∀ i, i < l.length → ∀ b, Fs i b → b < N) (hlo : lo ≤ N) (he : ElNew w N n e (.agg #[a0, a1, a2, a3, a4, a5]))
    (ho : w'.ownsRow lo 25 6 v' (l.length + 1) (C ++ [a0, a1, a2, a3, a4, a5])) (hg : w.grownBy w' v.ownBlock) (hb : ∀ b, v'.ownBlock = some b → v.ownBlock = some b ∨ w.heap.size ≤ b) :
    RowO w' lo n v' (l ++ [e]) (C ++ [a0, a1, a2, a3, a4, a5]) (fun i => if i = l.length then Since N w else Fs i) := by
  obtain ⟨h1, h2, h3, h4⟩ := h
  have hC : C.length = l.length * 6 := h1.1
  have hlen : (l ++ [e]).length = l.length + 1 := by simp
  have kept : ∀ b, b < w.heap.size → v.ownBlock ≠ some b → w'.heap[b]? = w.heap[b]? := fun b h5 h6 => hg.block b h5 (Ne.symm h6)
  have newV : ∀ b, v.ownBlock ≠ some b → b < w.heap.size → v'.ownBlock ≠ some b := fun b h5 h6 e => by
    rcases hb b e with h | h
    · exact h5 h
    · omega
  have hvN : ∀ b, N ≤ b → v.ownBlock ≠ some b := fun b h5 e => by have := hv b e; omega
  have e1 : ∀ j, j < C.length → (C ++ [a0, a1, a2, a3, a4, a5]).getD j undef = C.getD j undef := fun j hj => getD_old hj
  refine ⟨by rw [hlen]; exact ho, ?_, ?_, ?_⟩
  · intro i hi b hF
    rw [hlen] at hi
    by_cases hie : i = l.length
    · rw [if_pos hie] at hF
      exact ⟨⟨Nat.le_trans hlo hF.1, Nat.lt_of_lt_of_le hF.2 hg.size⟩, newV b (hvN b hF.1) hF.2⟩
    · rw [if_neg hie] at hF
      have := h2 i (by omega) b hF
      exact ⟨⟨this.1.1, Nat.lt_of_lt_of_le this.1.2 hg.size⟩, newV b this.2 this.1.2⟩
  · intro i j hi hj hij b hF hG
    rw [hlen] at hi hj
    by_cases hie : i = l.length
    · rw [if_pos hie] at hF
      rw [if_neg (by omega)] at hG
      have := hFs j (by omega) b hG
      have := hF.1
      omega
    · rw [if_neg hie] at hF
      by_cases hje : j = l.length
      · rw [if_pos hje] at hG
        have := hFs i (by omega) b hF
        have := hG.1
        omega
      · rw [if_neg hje] at hG
        exact h3 i j (by omega) (by omega) hij b hF hG
  · intro i hi
    by_cases hil : i < l.length
    · have eS : sixV (C ++ [a0, a1, a2, a3, a4, a5]) i = sixV C i := by
        unfold sixV
        rw [e1 _ (by omega), e1 _ (by omega), e1 _ (by omega), e1 _ (by omega), e1 _ (by omega), e1 _ (by omega)]
      have eL : (l ++ [e])[i]'hi = l[i]'hil := List.getElem_append_left hil
      rw [eS, eL]
      show ElOwn _ _ _ _ _ (if i = l.length then _ else _)
      rw [if_neg (by omega)]
      exact (h4 i hil).stay (fun _ _ _ hF hS => OwnS.stay n hS (fun b hb1 hb2 => kept b hb2 (h2 i hil b (hF b hb1)).2)) (fun b hF hb2 => kept b hb2 (h2 i hil b hF).2)
    · have hie : i = l.length := by rw [hlen] at hi; omega
      subst hie
      have e2 : ∀ j, (C ++ [a0, a1, a2, a3, a4, a5]).getD (l.length * 6 + j) undef = [a0, a1, a2, a3, a4, a5].getD j undef := fun j => by rw [← hC]; exact getD_new
      have eS : sixV (C ++ [a0, a1, a2, a3, a4, a5]) l.length = .agg #[a0, a1, a2, a3, a4, a5] := by
        have e20 := e2 0
        rw [Nat.add_zero] at e20
        unfold sixV
        rw [e20, e2 1, e2 2, e2 3, e2 4, e2 5]
        rfl
      have eL : (l ++ [e])[l.length]'hi = e := by simp
      rw [eS, eL]
      show ElOwn _ _ _ _ _ (if l.length = l.length then _ else _)
      rw [if_pos rfl]
      have hk : ElOwn (OwnS w' N n) w' N e (.agg #[a0, a1, a2, a3, a4, a5]) (Since N w) := ElOwn.stay he (fun _ _ _ hF hS => OwnS.stay n hS (fun b hb1 hb2 => kept b hb2 (hvN b (hF b hb1).1))) (fun b hF hb2 => kept b hb2 (hvN b hF.1))
      exact hk.low hlo (fun _ _ _ hS => OwnS.low hlo n hS)

end Go.Proofs.YthipdkagkdnaiaaGreatDoor.Sg

namespace Go.Proofs.YthipdkagkdnaiaaGreatDoor.Sg
open Go.ChangeShapes Go.WideShapes Go.ChangeAt Go.RowKit

theorem stands_tailT {s : ByteArray} (t : ByteArray) {k : Nat} (h : k ≤ s.size) : standsB s k t = Lib.hasPrefix (tailL s k) t.data.toList := by
  obtain ⟨e, hl⟩ := ptail_all s k h
  have h1 := stands_pre (s.data.toList.take k) (tailL s k) t.data.toList
  have e2 : strB t.data.toList = t := by unfold strB; simp
  rw [hl, ← e, e2] at h1
  exact h1
theorem prefixAt (s t : ByteArray) (k : Nat) (h : k ≤ s.size) (W : World) : Calls Tryz.prog 55 #[.string (s.extract k s.size), .string t] W fun e w' => e = .returned (.bool (standsB s k t)) ∧ w' = W := by
  have := Tryz.strings_HasPrefix (s.extract k s.size) t W
  rw [tail_bytes, ← stands_tailT t h] at this
  exact this

theorem must_yes (w : World) : Calls Tryz.prog 21 #[.bool true] w fun e w' => e = .returned (.tuple #[]) ∧ w' = w := by
  go_enter Tryz.func21, Tryz.ntmps21
  go_wp2_with fail
  exact bodyPost_end (results_none rfl _ _ _) rfl ⟨rfl, rfl⟩
theorem must_no (a : Addr) (w : World) (h : ErrA a w) : Calls Tryz.prog 21 #[.bool false] w fun e w' => e = PanE a ∧ w' = w := by
  unfold ErrA at h
  go_enter Tryz.func21, Tryz.ntmps21
  go_wp2_with fail
  exact ⟨rfl, rfl, rfl⟩

theorem pass_yes (a : Addr) (p : Nat) (s : ByteArray) (k j : Int) (w : World) (h : Rq a p s k w) :
    Calls Tryz.prog 84 #[.pointer (some ⟨p, 0, none⟩), .int .i64 j, .nilIface] w fun e w' => e = .returned (.tuple #[]) ∧ Rq a p s j w' ∧ Fr p w w' := by
  obtain ⟨c0, c1, z, hp⟩ := h.facts
  have z1 := z 1
  have H : Hid (Rq a p s j (w.setCell ⟨p, 1, none⟩ (.int .i64 j)) ∧ Fr p w (w.setCell ⟨p, 1, none⟩ (.int .i64 j))) := ⟨h.set j, Fr.set _ _ _⟩
  clear h
  go_enter Tryz.func84, Tryz.ntmps84
  go_wp2_with fail
  exact bodyPost_end (results_none rfl _ _ _) rfl ⟨rfl, H.out⟩
theorem pass_no (a : Addr) (p : Nat) (j : Int) (w : World) :
    Calls Tryz.prog 84 #[.pointer (some ⟨p, 0, none⟩), .int .i64 j, errV a] w fun e w' => e = PanE a ∧ w' = w := by
  go_enter Tryz.func84, Tryz.ntmps84
  go_wp2_with fail
  exact ⟨rfl, rfl, rfl⟩

set_option maxHeartbeats 1000000 in
theorem takes_yes (a : Addr) (p : Nat) (s t : ByteArray) (k : Nat) (w : World) (h : Rq a p s (k : Int) w) (hk : k ≤ s.size) (hs : s.size ≤ 1073741824) (ht : t.size ≤ 1073741824) (hst : standsB s k t = true) :
    Calls Tryz.prog 46 #[.pointer (some ⟨p, 0, none⟩), .string t] w fun e w' => e = .returned (.bool true) ∧ Rq a p s ((k + t.size : Nat) : Int) w' ∧ Fr p w w' := by
  have HP := fun W => prefixAt s t k hk W
  rw [hst] at HP
  have H : Hid (Rq a p s (k : Int) w) := h
  obtain ⟨c0, c1, z, hp⟩ := h.facts
  clear h hst
  have q1 : (k : Int) ≤ (s.size : Int) := by omega
  have q2 : IntKind.i64.wrap ((k : Int) + (t.size : Int)) = (k : Int) + (t.size : Int) := IntWalk.i64_in _ (by omega)
  go_enter Tryz.func46, Tryz.ntmps46
  go_upto_region 1 with fail
  go_quiet ((go_at_call 55; exact Calls.quiet_of_same (HP _)))
  have bn := drew_kd (Below.refl w.heap.size w) nq
  have H1 : Hid (Rq a p s (k : Int) (w.drewN nq)) := H.out.keep bn
  have HF : Hid (Fr p w (w.drewN nq)) := Fr.of_below bn
  clear bn c0 c1 z H HP
  generalize w.drewN nq = w1 at *
  obtain ⟨c0, c1, z, hp1⟩ := H1.out.facts
  have z1 := z 1
  have H2 : Hid (Rq a p s ((k : Int) + (t.size : Int)) (w1.setCell ⟨p, 1, none⟩ (.int .i64 ((k : Int) + (t.size : Int)))) ∧ Fr p w (w1.setCell ⟨p, 1, none⟩ (.int .i64 ((k : Int) + (t.size : Int))))) := ⟨H1.out.set _, HF.out.trans (Fr.set _ _ _)⟩
  go_wp2_with fail
  go_ret
  exact ⟨rfl, by rw [Int.natCast_add]; exact H2.out.1, H2.out.2⟩
set_option maxHeartbeats 1000000 in
theorem takes_no (a : Addr) (p : Nat) (s t : ByteArray) (k : Nat) (w : World) (h : Rq a p s (k : Int) w) (hk : k ≤ s.size) (hst : standsB s k t = false) :
    Calls Tryz.prog 46 #[.pointer (some ⟨p, 0, none⟩), .string t] w fun e w' => e = .returned (.bool false) ∧ Rq a p s (k : Int) w' ∧ Fr p w w' := by
  have HP := fun W => prefixAt s t k hk W
  rw [hst] at HP
  have H : Hid (Rq a p s (k : Int) w) := h
  obtain ⟨c0, c1, z, hp⟩ := h.facts
  clear h hst
  have q1 : (k : Int) ≤ (s.size : Int) := by omega
  go_enter Tryz.func46, Tryz.ntmps46
  go_upto_region 1 with fail
  go_quiet ((go_at_call 55; exact Calls.quiet_of_same (HP _)))
  have bn := drew_kd (Below.refl w.heap.size w) nq
  have H1 : Hid (Rq a p s (k : Int) (w.drewN nq)) := H.out.keep bn
  have HF : Hid (Fr p w (w.drewN nq)) := Fr.of_below bn
  clear bn c0 c1 z H HP
  generalize w.drewN nq = w1 at *
  go_wp2_with fail
  go_ret
  exact ⟨rfl, H1.out, HF.out⟩

set_option maxHeartbeats 1000000 in
theorem want_yes (a : Addr) (p : Nat) (s t : ByteArray) (k : Nat) (w : World) (h : Rq a p s (k : Int) w) (hk : k ≤ s.size) (hs : s.size ≤ 1073741824) (ht : t.size ≤ 1073741824) (hst : standsB s k t = true) :
    Calls Tryz.prog 33 #[.pointer (some ⟨p, 0, none⟩), .string t] w fun e w' => e = .returned (.tuple #[]) ∧ Rq a p s ((k + t.size : Nat) : Int) w' ∧ Fr p w w' := by
  have HT := takes_yes a p s t k w h hk hs ht hst
  clear h hst
  go_enter Tryz.func33, Tryz.ntmps33
  go_wp2_with fail
  refine HT.mono ?_
  rintro e w1 ⟨rfl, H1, F1⟩
  have HH : Hid (Rq a p s ((k + t.size : Nat) : Int) w1 ∧ Fr p w w1) := ⟨H1, F1⟩
  clear HT H1 F1
  go_wp2_with fail
  refine (must_yes _).mono ?_
  rintro e w2 ⟨rfl, rfl⟩
  go_wp2_with fail
  exact bodyPost_end (results_none rfl _ _ _) rfl ⟨rfl, HH.out⟩
set_option maxHeartbeats 1000000 in
theorem want_no (a : Addr) (p : Nat) (s t : ByteArray) (k : Nat) (w : World) (h : Rq a p s (k : Int) w) (hk : k ≤ s.size) (hst : standsB s k t = false) :
    Calls Tryz.prog 33 #[.pointer (some ⟨p, 0, none⟩), .string t] w fun e w' => e = PanE a ∧ Fr p w w' := by
  have HT := takes_no a p s t k w h hk hst
  clear h hst
  go_enter Tryz.func33, Tryz.ntmps33
  go_wp2_with fail
  refine HT.mono ?_
  rintro e w1 ⟨rfl, H1, F1⟩
  have hE := H1.2.x.1.2
  have HH : Hid (Fr p w w1) := F1
  clear HT H1 F1
  go_wp2_with fail
  refine (must_no a _ hE).mono ?_
  rintro e w2 ⟨rfl, rfl⟩
  go_wp2_with fail
  exact ⟨rfl, rfl, HH.out⟩

end Go.Proofs.YthipdkagkdnaiaaGreatDoor.Sg

namespace Go.Proofs.YthipdkagkdnaiaaGreatDoor.Sg
open Go.ChangeShapes Go.WideShapes Go.ChangeAt Go.RowKit

end Go.Proofs.YthipdkagkdnaiaaGreatDoor.Sg
