/- The program's putBytes, mildSign and TextOf. -/
import Derived.Test.YthikgkhnhbaccaaDoorStText
namespace Go.Proofs.YthikgkhnhbaccaaDoor.Sg
open Go.ChangeShapes Go.WideShapes Go.ChangeAt Go.RowKit

/-- Bytes put behind bytes that a call owns. -/
theorem implPutBytes (acc bs : List UInt8) (v : Value) (ad : Addr) (m c B : Nat) (w : World) (hown : w.ownsRow B 5 1 v acc.length (Lib.byteCells acc)) (hm : bs.length = m) (hc : ∀ j u, (Lib.byteCells bs)[j]? = some u → w.cell? (ad.add j) = some u) (hB : B ≤ w.heap.size) (hl : acc.length + m ≤ 1099511627776) :
    Calls Tryd.prog 12 #[v, .slice (some ad) m c] w fun e w' => ∃ v', e = .returned v' ∧ w'.ownsRow B 5 1 v' (acc ++ bs).length (Lib.byteCells (acc ++ bs)) ∧ w.grownBy w' v.ownBlock := by
  obtain ⟨i0, hi0, hz0, hz1, hz2⟩ := info_parts info_byte
  have Hi : Hid (Tryd.prog.info? 5 = some i0) := hi0
  have Hz0 : Hid (i0.zero = some (.int .u8 0)) := hz0
  have Hz1 : Hid (i0.size = 1) := hz1
  have Hz2 : Hid (i0.bytes = 1) := hz2
  clear hi0 hz0 hz1 hz2
  have Hc : Hid (∀ j u, (Lib.byteCells bs)[j]? = some u → w.cell? (ad.add j) = some u) := hc
  have Hm : Hid (bs.length = m) := hm
  clear hc hm
  go_enter Tryd.func12, Tryd.ntmps12
  go_wp2_with (at_builtin; refine wpList_append_own _ rfl (.tmp 5) (.tmp 6) 22 rfl B 5 i0 (.int .u8 0) 1 1 Tryd.underlying22 Hi.out Hz0.out Hz1.out Hz2.out rfl (by decide) _ acc.length (Lib.byteCells acc) rfl hown ad m c (Lib.byteCells bs) rfl ?c1 Hc.out byteCells_one ?c3 ?c4 hB ?_)
  case c1 => rw [Lib.byteCells_length, Nat.mul_one]; exact Hm.out
  case c3 => unfold maxLen; omega
  case c4 => omega
  intro v' w2 hown' hgrow _
  have Hown : Hid (w2.ownsRow B 5 1 v' (acc ++ bs).length (Lib.byteCells (acc ++ bs))) := by
    show World.ownsRow _ _ _ _ _ _ _
    have e2 : Lib.byteCells (acc ++ bs) = Lib.byteCells acc ++ Lib.byteCells bs := by simp [Lib.byteCells]
    rw [List.length_append, Hm.out, e2]
    exact hown'
  have Hg : Hid (w.grownBy w2 v.ownBlock) := hgrow
  clear hown' hgrow hown
  go_wp2_with fail
  go_ret
  exact ⟨_, rfl, Hown.out, Hg.out⟩

set_option maxHeartbeats 1000000 in
theorem implMildSign (z : Int) (w : World) :
    Calls Tryd.prog 21 #[.int .i64 z] w fun e w' => e = .returned (.int .i64 (mildZ z)) ∧ w' = w := by
  have Hf := implIsText z
  cases hf : textB z
  · rw [hf] at Hf
    by_cases h12 : z = 12
    · subst h12
      go_enter Tryd.func21, Tryd.ntmps21
      go_wp2_with fail
      refine (Hf _).mono ?_
      rintro e w1 ⟨rfl, rfl⟩
      go_wp2_with fail
      go_ret
      exact ⟨rfl, rfl⟩
    · have Hv : Hid (mildZ z = 65533) := by show _ = _; unfold mildZ; rw [if_neg h12, if_neg (by rw [hf]; decide)]
      have g1 : (z == 12) = false := beq_false_of_ne h12
      clear hf h12
      go_enter Tryd.func21, Tryd.ntmps21
      go_wp2_with fail
      refine (Hf _).mono ?_
      rintro e w1 ⟨rfl, rfl⟩
      go_wp2_with fail
      go_ret
      exact ⟨by rw [Hv.out]; rfl, rfl⟩
  · have Hv : Hid (mildZ z = z) := mildZ_stays hf
    rw [hf] at Hf
    clear hf
    go_enter Tryd.func21, Tryd.ntmps21
    go_wp2_with fail
    refine (Hf _).mono ?_
    rintro e w1 ⟨rfl, rfl⟩
    go_wp2_with fail
    go_ret
    exact ⟨by rw [Hv.out]; rfl, rfl⟩

theorem mild_take (zs : List Int) (k : Nat) (h : k < zs.length) : sgBytes ((zs.take (k + 1)).map mildZ) = sgBytes ((zs.take k).map mildZ) ++ (putS (mildZ (zs.getD k 0))).data.toList := by
  rw [List.take_succ_eq_append_getElem h, List.map_append, sgBytes_append]
  congr 1
  show sgBytes [mildZ zs[k]] = _
  rw [sgBytes_cons, sgBytes_nil, List.append_nil]
  simp [h]

set_option maxHeartbeats 4000000 in
set_option maxRecDepth 20000 in
theorem implTextOf (s : ByteArray) (w : World) (hs : s.size ≤ 17179869184) (hT : Lib.Utf8Tabs 2 3 w) :
    Calls Tryd.prog 11 #[.string s] w fun e w' => e = .returned (.string (mildS s)) ∧ Below w.heap.size w w' := by
  have hl := signsL_length s
  have Hm : Hid (mildS s = textS ((signsL s).map mildZ)) := rfl
  go_enter Tryd.func11, Tryd.ntmps11
  go_wp2_with fail
  refine (implSigns s _ (by omega) hT).mono ?_
  rintro e w1 ⟨a, cap, rfl, o1, b1⟩
  have I1 : Hid (Ints w1 a (signsL s)) := o1.ints
  clear o1 hT
  generalize signsL s = zs at *
  generalize hlen : zs.length = n at *
  have Hlen : Hid (zs.length = n) := hlen
  clear hlen
  go_wp2_with fail
  go_loopw [3, 5, 9] (fun v _ i wr => ∃ k : Nat, k ≤ n ∧ i = .int .i64 k ∧ wr.ownsRow w1.heap.size 5 1 v (sgBytes ((zs.take k).map mildZ)).length (Lib.byteCells (sgBytes ((zs.take k).map mildZ))) ∧ Below w1.heap.size w1 wr) (fun _ _ i _ => n - (intOf i).toNat)
  case atStart => exact ⟨0, Nat.zero_le _, rfl, ⟨rfl, .inl ⟨rfl, rfl⟩⟩, Below.refl _ _⟩
  case round =>
    obtain ⟨k, hk, rfl, hown, hbel⟩ := hrel
    by_cases hlt : k < n
    · obtain ⟨b, o, rfl, hb, hc⟩ := I1.out.cell hbel (by rw [Hlen.out]; exact hlt)
      have hst := mild_take zs k (by rw [Hlen.out]; exact hlt)
      have hle := sgBytes_length ((zs.take k).map mildZ)
      have hle2 : ((zs.take k).map mildZ).length ≤ k := by rw [List.length_map]; exact List.length_take_le _ _
      generalize hz : zs.getD k 0 = z at *
      clear hz
      have hps := putS_size (mildZ z)
      have Hst : Hid (sgBytes ((zs.take (k + 1)).map mildZ) = sgBytes ((zs.take k).map mildZ) ++ (putS (mildZ z)).data.toList) := hst
      clear hst
      generalize hacc : sgBytes ((zs.take k).map mildZ) = acc at *
      clear hacc
      have g1 : (k : Int) < (n : Int) := by omega
      go_wp2_with fail
      refine (implMildSign z _).mono ?_
      rintro e w2 ⟨rfl, rfl⟩
      go_wp2_with fail
      refine (implPutSign (mildZ z) _).mono ?_
      rintro e w3 ⟨rfl, rfl⟩
      generalize hs : putS (mildZ z) = t at *
      clear hs
      obtain ⟨cap', W, hrun, hbW, hszW, hcW⟩ := conv_bytes w3 t
      have hownW : W.ownsRow w1.heap.size 5 1 _ acc.length (Lib.byteCells acc) := owns_below hown (Nat.le_refl _) hbW
      have hbelW : Below w1.heap.size w1 W := hbel.trans (hbW.mono hbel.size)
      have Hput := fun c => implPutBytes acc t.data.toList _ ⟨w3.heap.size, 0, none⟩ t.size c w1.heap.size W hownW Array.length_toList hcW hbelW.size (by omega)
      clear hcW hbW hown hbel hc
      go_wp2_with fail
      refine (Hput _).mono ?_
      rintro e w4 ⟨v', rfl, hown', hgrow⟩
      have hbel2 : Below w1.heap.size w1 w4 := own_grown hownW hbelW (Nat.le_refl _) hgrow hbelW.size
      have hown2 : w4.ownsRow w1.heap.size 5 1 v' (sgBytes ((zs.take (k + 1)).map mildZ)).length (Lib.byteCells (sgBytes ((zs.take (k + 1)).map mildZ))) := by
        rw [Hst.out]
        exact hown'
      clear hown' hgrow hownW hbelW hrun Hput
      go_wp2_with fail
      go_roundw
      case rel => exact ⟨k + 1, by omega, by go_num, hown2, hbel2⟩
      case measure => simp [intOf]; omega
    · have hkn : k = n := by omega
      subst hkn
      have hall : zs.take k = zs := List.take_of_length_le (by rw [Hlen.out]; exact Nat.le_refl _)
      rw [hall] at hown
      have hbk := own_back hown
      have Hb : Hid (Below w.heap.size w wr) := b1.trans (hbel.mono b1.size)
      clear hown hall hbel
      have g1 : ¬ (k : Int) < (k : Int) := by omega
      go_wp2_with fail
      go_ret
      exact ⟨ret_str Hm.out.symm, Hb.out⟩

end Go.Proofs.YthikgkhnhbaccaaDoor.Sg
