/- Contracts of the model's NameOk and NameOf. -/
import Derived.Test.YtdpjmngodbgacaaGreatDoorM13
import Derived.Test.YtdpjmngodbgacaaGreatDoorKdModelQ
namespace Go.Proofs.YtdpjmngodbgacaaGreatDoor.Sg
open Go.ChangeShapes Go.WideShapes Go.ChangeAt Go.RowKit

theorem stNameL_drop (zs : List Int) (k : Nat) (h : k < zs.length) (f : Bool) : stNameL f (zs.drop k) = (stayB f (zs.getD k 0) && stNameL false (zs.drop (k + 1))) := by
  rw [List.drop_eq_getElem_cons h]
  unfold stNameL
  simp [h]
  cases zs.drop (k + 1) <;> rfl
theorem empty_of {s : ByteArray} (h : s.size = 0) : s = ⟨#[]⟩ := by
  cases s with
  | mk d =>
    have : d = #[] := Array.eq_empty_of_size_eq_zero h
    rw [this]
theorem not_empty {s : ByteArray} (h : s.size ≠ 0) : (s.toList == []) = false := by
  rw [beq_eq_false_iff_ne, ByteArray.toList_eq]
  intro e
  apply h
  have h2 : s.data.toList.length = s.size := Array.length_toList
  rw [e] at h2
  exact h2.symm
/-- A number of a slice of the call's own. -/
theorem Ints.cell {w wr : World} {a : Option Addr} {zs : List Int} {k : Nat} (h : Ints w a zs) (hb : Below w.heap.size w wr) (hk : k < zs.length) : ∃ b o, a = some ⟨b, o, none⟩ ∧ b < w.heap.size ∧ wr.cell? ⟨b, o + k, none⟩ = some (.int .i64 (zs.getD k 0)) := by
  rcases h with h | ⟨b, o, rfl, hb1, hc⟩
  · rw [h] at hk
    simp at hk
  · exact ⟨b, o, rfl, hb1, (hb.cell (by exact hb1)).trans (hc k hk)⟩

theorem signsFrom_good (s : ByteArray) : ∀ (f pos : Nat), ∀ z ∈ signsFrom s f pos, 0 ≤ z ∧ z ≤ 1114111
  | 0, pos => by
    intro z hz
    cases hz
  | f + 1, pos => by
    intro z hz
    by_cases hp : pos < s.size
    · rw [signsFrom, if_pos hp] at hz
      rcases List.mem_cons.1 hz with rfl | hz
      · have := getS_le s pos hp
        omega
      · exact signsFrom_good s f _ z hz
    · rw [signsFrom_end s _ _ hp] at hz
      cases hz
theorem signs_good (s : ByteArray) (k : Nat) (h : k < (signsL s).length) : 0 ≤ (signsL s).getD k 0 ∧ (signsL s).getD k 0 ≤ 1114111 := by
  apply signsFrom_good s s.size 0
  rw [List.getD_eq_getElem?_getD, List.getElem?_eq_getElem h]
  exact List.getElem_mem h


/-- One sign more, made strict. -/
theorem namesZ_take (zs : List Int) (k : Nat) (h : k < zs.length) : namesZ true (zs.take (k + 1)) = namesZ true (zs.take k) ++ strictZ (decide (k = 0)) (zs.getD k 0) := by
  have key : ∀ (xs : List Int) (f : Bool) (z : Int), namesZ f (xs ++ [z]) = namesZ f xs ++ strictZ (f && decide (xs.length = 0)) z := by
    intro xs
    induction xs with
    | nil =>
      intro f z
      simp [namesZ]
    | cons x xs ih =>
      intro f z
      rw [List.cons_append]
      conv => lhs; unfold namesZ
      conv => rhs; unfold namesZ
      rw [ih]
      simp
  rw [List.take_succ_eq_append_getElem h, key]
  have h1 : (zs.take k).length = k := by rw [List.length_take]; omega
  rw [h1]
  simp [h]

set_option maxHeartbeats 2000000 in
theorem specNameOf (s : ByteArray) (w : World) (hs : s.size ≤ 1099511627776) :
    Calls Tryz.prog 12 #[.string s] w fun e w' => e = .returned (.string (stNameS s)) ∧ Below w.heap.size w w' := by
  have hl := signsL_length s
  have e0 : (⟨#[]⟩ : ByteArray).toList = [] := ByteArray.toList_mk _
  have Hn : Hid (stNameS s = if (textS (namesZ true (signsL s))).size = 0 then ⟨#[85]⟩ else textS (namesZ true (signsL s))) := by
    show _ = _
    unfold stNameS
    by_cases h : s.size = 0
    · have h2 : signsL s = [] := List.eq_nil_of_length_eq_zero (by omega)
      rw [if_pos h, if_pos (by rw [h2]; rfl)]
    · have h2 : (textS (namesZ true (signsL s))).size ≠ 0 := by
        rw [textS_size]
        intro e
        refine sgBytes_some ?_ (List.eq_nil_of_length_eq_zero e)
        have := signs_some h
        cases hz : signsL s with
        | nil => exact absurd hz this
        | cons z zs =>
          unfold namesZ
          intro e2
          exact strictZ_some _ _ (List.append_eq_nil_iff.1 e2).1
      rw [if_neg h, if_neg h2]
  have hgood : ∀ k, k < (signsL s).length → 0 ≤ (signsL s).getD k 0 ∧ (signsL s).getD k 0 ≤ 1114111 := signs_good s
  go_enter Tryz.func12, Tryz.ntmps12
  go_wp2_with fail
  refine (specSigns s _ (by omega)).mono ?_
  rintro e w1 ⟨a, cap, rfl, o1, b1⟩
  have I1 : Hid (Ints w1 a (signsL s)) := o1.ints
  clear o1
  generalize signsL s = zs at *
  have Hg : Hid (∀ k, k < zs.length → 0 ≤ zs.getD k 0 ∧ zs.getD k 0 ≤ 1114111) := hgood
  clear hgood
  generalize hlen : zs.length = n at *
  have Hlen : Hid (zs.length = n) := hlen
  clear hlen
  go_wp2_with fail
  go_loopw [4, 5] (fun v i wr => ∃ k : Nat, k ≤ n ∧ i = .int .i64 k ∧ v = .string (textS (namesZ true (zs.take k))) ∧ Below w1.heap.size w1 wr) (fun _ i _ => n - (intOf i).toNat)
  case atStart => exact ⟨0, Nat.zero_le _, rfl, rfl, Below.refl _ _⟩
  case round =>
    obtain ⟨k, hk, rfl, rfl, hbel⟩ := hrel
    by_cases hlt : k < n
    · obtain ⟨b, o, rfl, hb, hc⟩ := I1.out.cell hbel (by rw [Hlen.out]; exact hlt)
      have hst := namesZ_take zs k (by rw [Hlen.out]; exact hlt)
      have hg := Hg.out k hlt
      have hsz : (textS (namesZ true (zs.take k))).size ≤ 28 * 1099511627776 := by
        rw [textS_size]
        have h1 := sgBytes_length (namesZ true (zs.take k))
        have h2 := namesZ_length true (zs.take k)
        have h3 := List.length_take_le k zs
        omega
      generalize hz : zs.getD k 0 = z at *
      clear hz
      have Hst : Hid (textS (namesZ true (zs.take (k + 1))) = textS (namesZ true (zs.take k)) ++ textS (strictZ (decide (k = 0)) z)) := by
        show _ = _
        rw [hst, textS_app]
      clear hst
      generalize textS (namesZ true (zs.take k)) = x at *
      cases hf : stayB (decide (k = 0)) z
      · have Hs : Hid (textS (strictZ (decide (k = 0)) z) = ⟨#[85]⟩ ++ textS (sixZ z.toNat)) := by
          show _ = _
          unfold strictZ
          rw [if_neg (by rw [hf]; simp), u_eq, textS_app]
          rfl
        rw [Hs.out] at Hst
        obtain ⟨m, rfl⟩ := Int.eq_ofNat_of_zero_le hg.1
        rw [Int.toNat_natCast] at Hst
        have Hh := fun W => specHex m W (by omega)
        have h6 : (textS (sixZ m)).size ≤ 100 := by rw [textS_size]; have := sgBytes_length (sixZ m); have h2 : (sixZ m).length = 6 := rfl; omega
        generalize textS (sixZ m) = y at *
        have hu : (x ++ ⟨#[85]⟩ : ByteArray).size = x.size + 1 := by rw [ByteArray.size_append]; rfl
        have hu2 : (⟨#[85]⟩ : ByteArray).size = 1 := rfl
        have Hst2 : Hid (textS (namesZ true (zs.take (k + 1))) = x ++ ⟨#[85]⟩ ++ y) := by
          show _ = _
          rw [Hst.out, ByteArray.append_assoc]
        clear Hst Hs
        by_cases h0 : k = 0
        · subst h0
          rw [Nat.add_zero] at hc
          have g0 : (((0 : Nat) : Int) == 0) = true := rfl
          have Hf : ∀ W, Calls Tryz.prog 24 #[.int .i64 (m : Int)] W fun e w' => e = .returned (.bool false) ∧ Below W.heap.size W w' := fun W => (show firstB (m : Int) = false from hf) ▸ specIsFirst (m : Int) W
          clear hf
          go_wp2_with fail
          refine (Hf _).mono ?_
          rintro e w2 ⟨rfl, b2⟩
          have b2' : Below w1.heap.size w1 w2 := hbel.trans (b2.mono hbel.size)
          clear b2 hbel hc
          go_wp2_with fail
          refine (Hh _).mono ?_
          rintro e w3 ⟨rfl, rfl⟩
          go_wp2_with fail
          go_roundw
          case rel => exact ⟨0 + 1, by omega, by go_num, congrArg Value.string Hst2.out.symm, b2'⟩
          case measure => simp [intOf]; omega
        · have g0 : ((k : Int) == 0) = false := by simp; exact h0
          have g1 : 0 < k := by omega
          have Hf : ∀ W, Calls Tryz.prog 25 #[.int .i64 (m : Int)] W fun e w' => e = .returned (.bool false) ∧ Below W.heap.size W w' := fun W => (show nextB (m : Int) = false from by rw [← hf, decide_eq_false h0]; rfl) ▸ specIsNext (m : Int) W
          clear hf h0
          go_wp2_with fail
          refine (Hf _).mono ?_
          rintro e w2 ⟨rfl, b2⟩
          have b2' : Below w1.heap.size w1 w2 := hbel.trans (b2.mono hbel.size)
          clear b2 hbel hc
          go_wp2_with fail
          refine (Hh _).mono ?_
          rintro e w3 ⟨rfl, rfl⟩
          go_wp2_with fail
          go_roundw
          case rel => exact ⟨k + 1, by omega, by go_num, congrArg Value.string Hst2.out.symm, b2'⟩
          case measure => simp [intOf]; omega
      · have Hs : Hid (textS (strictZ (decide (k = 0)) z) = putS z) := by
          show _ = _
          unfold strictZ
          rw [if_pos hf]
          apply ByteArray.ext
          apply Array.toList_inj.1
          show sgBytes [z] = _
          rw [sgBytes_cons, sgBytes_nil, List.append_nil]
        rw [Hs.out] at Hst
        have hps := putS_size z
        have Hh := fun W => specPutSign z W
        generalize putS z = y at *
        clear Hs
        by_cases h0 : k = 0
        · subst h0
          rw [Nat.add_zero] at hc
          have g0 : (((0 : Nat) : Int) == 0) = true := rfl
          have Hf : ∀ W, Calls Tryz.prog 24 #[.int .i64 z] W fun e w' => e = .returned (.bool true) ∧ Below W.heap.size W w' := fun W => (show firstB z = true from hf) ▸ specIsFirst z W
          clear hf
          go_wp2_with fail
          refine (Hf _).mono ?_
          rintro e w2 ⟨rfl, b2⟩
          have b2' : Below w1.heap.size w1 w2 := hbel.trans (b2.mono hbel.size)
          clear b2 hbel hc
          go_wp2_with fail
          refine (Hh _).mono ?_
          rintro e w3 ⟨rfl, b3⟩
          have b3' : Below w1.heap.size w1 w3 := b2'.trans (b3.mono b2'.size)
          clear b3 b2'
          go_wp2_with fail
          go_roundw
          case rel => exact ⟨0 + 1, by omega, by go_num, congrArg Value.string Hst.out.symm, b3'⟩
          case measure => simp [intOf]; omega
        · have g0 : ((k : Int) == 0) = false := by simp; exact h0
          have g1 : 0 < k := by omega
          have Hf : ∀ W, Calls Tryz.prog 25 #[.int .i64 z] W fun e w' => e = .returned (.bool true) ∧ Below W.heap.size W w' := fun W => (show nextB z = true from by rw [← hf, decide_eq_false h0]; rfl) ▸ specIsNext z W
          clear hf h0
          go_wp2_with fail
          refine (Hf _).mono ?_
          rintro e w2 ⟨rfl, b2⟩
          have b2' : Below w1.heap.size w1 w2 := hbel.trans (b2.mono hbel.size)
          clear b2 hbel hc
          go_wp2_with fail
          refine (Hh _).mono ?_
          rintro e w3 ⟨rfl, b3⟩
          have b3' : Below w1.heap.size w1 w3 := b2'.trans (b3.mono b2'.size)
          clear b3 b2'
          go_wp2_with fail
          go_roundw
          case rel => exact ⟨k + 1, by omega, by go_num, congrArg Value.string Hst.out.symm, b3'⟩
          case measure => simp [intOf]; omega
    · have hd : zs.take k = zs := List.take_of_length_le (by have := Hlen.out; omega)
      rw [hd]
      clear hd
      have g1 : decide ((k : Int) < (n : Int)) = false := decide_eq_false (by omega)
      clear I1 Hg
      generalize textS (namesZ true zs) = x at *
      by_cases hz : x.size = 0
      · have := empty_of hz
        subst this
        rw [if_pos hz] at Hn
        go_wp2_with fail
        go_ret
        exact ⟨ret_str Hn.out.symm, b1.trans (hbel.mono b1.size)⟩
      · rw [if_neg hz] at Hn
        have g2 := not_empty hz
        clear hz
        go_wp2_with fail
        go_ret
        exact ⟨ret_str Hn.out.symm, b1.trans (hbel.mono b1.size)⟩

end Go.Proofs.YtdpjmngodbgacaaGreatDoor.Sg
