/- The contract of the model's l13Hex: a number in six digits of 16. Contracts of the model's NameOk and NameOf. Contracts of the model's TextOk and TextOf. -/
import Derived.Test.YtfbnhjogkjbcbaaDoorStP
import Derived.Laws.DeepStrings4
import Derived.Test.YtfbnhjogkjbcbaaDoorKdModel
namespace Go.Proofs.YtfbnhjogkjbcbaaDoor.Sg
open Go.ChangeShapes Go.WideShapes Go.ChangeAt Go.RowKit

theorem i64_and15 (n : Int) : bits .and .i64 n 15 = n % 16 := (i64_low n 4 (by decide) 15 (by decide)).trans (by simp)

/-- One sign more. -/
theorem textS_more (xs : List Int) (z : Int) : textS xs ++ putS z = textS (xs ++ [z]) := by
  apply ByteArray.ext
  apply Array.toList_inj.1
  rw [ByteArray.data_append, Array.toList_append]
  show sgBytes xs ++ (putS z).data.toList = sgBytes (xs ++ [z])
  rw [sgBytes_append, sgBytes_cons, sgBytes_nil, List.append_nil]
theorem textS_app (xs ys : List Int) : textS xs ++ textS ys = textS (xs ++ ys) := by
  apply ByteArray.ext
  apply Array.toList_inj.1
  rw [ByteArray.data_append, Array.toList_append]
  show sgBytes xs ++ sgBytes ys = sgBytes (xs ++ ys)
  rw [sgBytes_append]
theorem hexS (d : Nat) (h : d < 16) : (⟨#[48, 49, 50, 51, 52, 53, 54, 55, 56, 57, 65, 66, 67, 68, 69, 70]⟩ : ByteArray).extract d (d + 1) = putS (hexZ d) := by
  have h1 : ∀ d, d < 16 → ((⟨#[48, 49, 50, 51, 52, 53, 54, 55, 56, 57, 65, 66, 67, 68, 69, 70]⟩ : ByteArray).extract d (d + 1)).data.toList = [UInt8.ofNat (hexZ d).toNat] ∧ 0 ≤ hexZ d ∧ hexZ d ≤ 127 := by decide +kernel
  obtain ⟨h2, h3, h4⟩ := h1 d h
  apply ByteArray.ext
  apply Array.toList_inj.1
  rw [h2, putS_one h3 h4]

/-- One digit more. -/
theorem hex_more (xs : List Int) (x : Nat) : textS xs ++ (⟨#[48, 49, 50, 51, 52, 53, 54, 55, 56, 57, 65, 66, 67, 68, 69, 70]⟩ : ByteArray).extract (x % 16) (x % 16 + 1) = textS (xs ++ [hexZ (x % 16)]) := by
  rw [hexS _ (Nat.mod_lt _ (by decide)), textS_more]


end Go.Proofs.YtfbnhjogkjbcbaaDoor.Sg

namespace Go.Proofs.YtfbnhjogkjbcbaaDoor.Sg
open Go.ChangeShapes Go.WideShapes Go.ChangeAt Go.RowKit

theorem stNameL_drop (zs : List Int) (k : Nat) (h : k < zs.length) (f : Bool) : stNameL f (zs.drop k) = (stayB f (zs.getD k 0) && stNameL false (zs.drop (k + 1))) := by
  rw [List.drop_eq_getElem_cons h]
  unfold stNameL
  simp [h]
  cases zs.drop (k + 1) <;> rfl
theorem empty_of {s : ByteArray} (h : s.size = 0) : s = ⟨#[]⟩ := by
  cases s with
  | mk d =>
    have : d = #[] := Array.eq_empty_of_size_eq_zero h
    rw [this]
theorem not_empty {s : ByteArray} (h : s.size ≠ 0) : (s.toList == []) = false := by
  rw [beq_eq_false_iff_ne, ByteArray.toList_eq]
  intro e
  apply h
  have h2 : s.data.toList.length = s.size := Array.length_toList
  rw [e] at h2
  exact h2.symm
/-- A number of a slice of the call's own. -/
theorem Ints.cell {w wr : World} {a : Option Addr} {zs : List Int} {k : Nat} (h : Ints w a zs) (hb : Below w.heap.size w wr) (hk : k < zs.length) : ∃ b o, a = some ⟨b, o, none⟩ ∧ b < w.heap.size ∧ wr.cell? ⟨b, o + k, none⟩ = some (.int .i64 (zs.getD k 0)) := by
  rcases h with h | ⟨b, o, rfl, hb1, hc⟩
  · rw [h] at hk
    simp at hk
  · exact ⟨b, o, rfl, hb1, (hb.cell (by exact hb1)).trans (hc k hk)⟩

theorem signsFrom_good (s : ByteArray) : ∀ (f pos : Nat), ∀ z ∈ signsFrom s f pos, 0 ≤ z ∧ z ≤ 1114111
  | 0, pos => by
    intro z hz
    cases hz
  | f + 1, pos => by
    intro z hz
    by_cases hp : pos < s.size
    · rw [signsFrom, if_pos hp] at hz
      rcases List.mem_cons.1 hz with rfl | hz
      · have := getS_le s pos hp
        omega
      · exact signsFrom_good s f _ z hz
    · rw [signsFrom_end s _ _ hp] at hz
      cases hz
theorem signs_good (s : ByteArray) (k : Nat) (h : k < (signsL s).length) : 0 ≤ (signsL s).getD k 0 ∧ (signsL s).getD k 0 ≤ 1114111 := by
  apply signsFrom_good s s.size 0
  rw [List.getD_eq_getElem?_getD, List.getElem?_eq_getElem h]
  exact List.getElem_mem h


/-- One sign more, made strict. -/
theorem namesZ_take (zs : List Int) (k : Nat) (h : k < zs.length) : namesZ true (zs.take (k + 1)) = namesZ true (zs.take k) ++ strictZ (decide (k = 0)) (zs.getD k 0) := by
  have key : ∀ (xs : List Int) (f : Bool) (z : Int), namesZ f (xs ++ [z]) = namesZ f xs ++ strictZ (f && decide (xs.length = 0)) z := by
    intro xs
    induction xs with
    | nil =>
      intro f z
      simp [namesZ]
    | cons x xs ih =>
      intro f z
      rw [List.cons_append]
      conv => lhs; unfold namesZ
      conv => rhs; unfold namesZ
      rw [ih]
      simp
  rw [List.take_succ_eq_append_getElem h, key]
  have h1 : (zs.take k).length = k := by rw [List.length_take]; omega
  rw [h1]
  simp [h]


end Go.Proofs.YtfbnhjogkjbcbaaDoor.Sg

namespace Go.Proofs.YtfbnhjogkjbcbaaDoor.Sg
open Go.ChangeShapes Go.WideShapes Go.ChangeAt Go.RowKit

theorem all_drop {p : Int → Bool} (zs : List Int) (k : Nat) (h : k < zs.length) : (zs.drop k).all p = (p (zs.getD k 0) && (zs.drop (k + 1)).all p) := by
  rw [List.drop_eq_getElem_cons h, List.all_cons]
  simp [h]

set_option maxHeartbeats 2000000 in
theorem specTextOk (s : ByteArray) (w : World) (hs : s.size ≤ 17592186044416) :
    Calls Tryd.prog 60 #[.string s] w fun e w' => e = .returned (.bool (stTextB s)) ∧ Below w.heap.size w w' := by
  have Hn : Hid (stTextB s = ((signsL s).all textB && cleanB s)) := rfl
  have hl := signsL_length s
  go_enter Tryd.func60, Tryd.ntmps60
  go_wp2_with fail
  refine (specSigns s _ hs).mono ?_
  rintro e w1 ⟨a, cap, rfl, o1, b1⟩
  have I1 : Hid (Ints w1 a (signsL s)) := o1.ints
  clear o1
  have Hc := fun W => specCleanOk s W hs
  generalize signsL s = zs at *
  generalize hlen : zs.length = n at *
  have Hlen : Hid (zs.length = n) := hlen
  clear hlen
  generalize cleanB s = cb at *
  go_wp2_with fail
  go_loopw [4] (fun i wr => ∃ k : Nat, k ≤ n ∧ i = .int .i64 k ∧ Hid (zs.all textB = (zs.drop k).all textB) ∧ Below w1.heap.size w1 wr) (fun i _ => n - (intOf i).toNat)
  case atStart => exact ⟨0, Nat.zero_le _, rfl, rfl, Below.refl _ _⟩
  case round =>
    obtain ⟨k, hk, rfl, Hk, hbel⟩ := hrel
    by_cases hlt : k < n
    · obtain ⟨b, o, rfl, hb, hc⟩ := I1.out.cell hbel (by rw [Hlen.out]; exact hlt)
      have hst := all_drop (p := textB) zs k (by rw [Hlen.out]; exact hlt)
      generalize hz : zs.getD k 0 = z at *
      clear hz
      have Hst : Hid (zs.all textB = (textB z && (zs.drop (k + 1)).all textB)) := Hk.out.trans hst
      clear hst Hk Hc
      have Hf := fun W => specIsText z W
      cases hf : textB z
      · have Hno : Hid (stTextB s = false) := by
          show _ = _
          rw [Hn.out, Hst.out, hf]
          rfl
        rw [hf] at Hf
        clear hf Hst Hn
        go_wp2_with fail
        refine (Hf _).mono ?_
        rintro e w2 ⟨rfl, rfl⟩
        go_wp2_with fail
        go_ret
        exact ⟨ret_bool Hno.out.symm, b1.trans (hbel.mono b1.size)⟩
      · have Hnx : Hid (zs.all textB = (zs.drop (k + 1)).all textB) := by
          show _ = _
          rw [Hst.out, hf]
          rfl
        rw [hf] at Hf
        clear hf Hst Hn
        go_wp2_with fail
        refine (Hf _).mono ?_
        rintro e w2 ⟨rfl, rfl⟩
        go_wp2_with fail
        go_roundw
        case rel => exact ⟨k + 1, by omega, by go_num, Hnx, hbel⟩
        case measure => simp [intOf]; omega
    · have Hall : Hid (stTextB s = cb) := by
        show _ = _
        have hd : zs.drop k = [] := List.drop_eq_nil_of_le (by have := Hlen.out; omega)
        rw [Hn.out, Hk.out, hd]
        rfl
      have g1 : decide ((k : Int) < (n : Int)) = false := decide_eq_false (by omega)
      clear Hn Hk I1
      go_wp2_with fail
      refine (Hc _).mono ?_
      rintro e w3 ⟨rfl, b3⟩
      go_wp2_with fail
      go_ret
      exact ⟨ret_bool Hall.out.symm, b1.trans ((hbel.trans (b3.mono hbel.size)).mono b1.size)⟩

/-- Numbers that a row holds. -/
theorem Ints.of_rowIs {w : World} {g cap : Nat} {t : TypeId} {f : Nat → Value} {ys : List Int} (h : w.rowIs g t cap f) (hn : ys.length ≤ cap) (hf : ∀ i, i < ys.length → f i = .int .i64 (ys.getD i 0)) : Ints w (some ⟨g, 0, none⟩) ys :=
  .inr ⟨g, 0, rfl, h.lt, fun i hi => by rw [Nat.zero_add, h.cell (by omega), hf i hi]⟩

end Go.Proofs.YtfbnhjogkjbcbaaDoor.Sg
