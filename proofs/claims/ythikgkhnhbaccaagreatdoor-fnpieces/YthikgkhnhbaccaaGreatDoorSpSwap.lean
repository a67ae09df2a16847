/- Contract of the model's l5Swap. -/
import Derived.Test.YthikgkhnhbaccaaGreatDoorMP15
import Derived.Test.YthikgkhnhbaccaaGreatDoorMP17
import Derived.Test.YthikgkhnhbaccaaGreatDoorMP09
import Derived.Test.YthikgkhnhbaccaaGreatDoorMP06
import Derived.Test.YthikgkhnhbaccaaGreatDoorMP07
namespace Go.Proofs.YthikgkhnhbaccaaGreatDoor.Sg
open Go.ChangeShapes Go.WideShapes Go.ChangeAt Go.RowKit

set_option maxHeartbeats 2000000 in
theorem specSwap (s which : ByteArray) (ws : List (List UInt8)) (b : Nat) (n cap : Nat) (w : World) (hs : s.size ≤ 1099511627776) (hw : which.size ≤ 100) (hT : Texts w b ws) (hn : ws.length = n) (hn2 : which.size = n) (hlen : ∀ t ∈ ws, t.length ≤ 100) :
    Calls Tryz.prog 36 #[.string s, .string which, .slice (some ⟨b, 0, none⟩) n cap] w fun e w' => e = .returned (.string (strB (swapL which.data.toList ws s.data.toList))) ∧ Below w.heap.size w w' := by
  obtain ⟨i0, hi0, hz0, hz1, hz2⟩ := info_parts info_byte
  have Hi : Hid (Tryz.prog.info? 5 = some i0) := hi0
  have Hz0 : Hid (i0.zero = some (.int .u8 0)) := hz0
  have Hz1 : Hid (i0.size = 1) := hz1
  have Hz2 : Hid (i0.bytes = 1) := hz2
  have HT : Hid (Texts w b ws) := hT
  have Hn : Hid (ws.length = n ∧ which.size = n) := ⟨hn, hn2⟩
  have Hlen : Hid (∀ t ∈ ws, t.length ≤ 100) := hlen
  clear hi0 hz0 hz1 hz2 hT hn hn2 hlen
  go_enter Tryz.func36, Tryz.ntmps36
  go_wp2
  go_loopw [7, 8] (fun v i wr => ∃ (k : Nat) (acc : List UInt8), k ≤ s.size ∧ acc.length ≤ 100 * k ∧ i = .int .i64 k ∧ wr.ownsRow w.heap.size 5 1 v acc.length (Lib.byteCells acc) ∧ Below w.heap.size w wr ∧ Hid (acc ++ swapL which.data.toList ws (tailL s k) = swapL which.data.toList ws s.data.toList)) (fun _ i _ => s.size - (intOf i).toNat)
  case atStart =>
    refine ⟨0, [], Nat.zero_le _, Nat.zero_le _, rfl, ⟨rfl, .inr ⟨w.heap.size, 0, #[], rfl, Nat.le_refl _, ?_, Nat.le_refl _, Nat.zero_le _, rfl, rfl⟩⟩, (Below.refl _ _).alloc (Nat.le_refl _) _, rfl⟩
    show (w.heap.push _)[w.heap.size]? = _
    simp
  case round =>
    obtain ⟨k, acc, hk, hal, rfl, hown, hbel, Hacc⟩ := hrel
    by_cases hlt : k < s.size
    · have hst := swapL_step which.data.toList ws s k hlt
      have Hc := fun w => specFind which 0 (s[k]'hlt) w (Nat.zero_le _) (by omega)
      rw [findE_zero] at Hc
      cases hr : findL (s[k]'hlt) which.data.toList with
      | none =>
        have Hst : Hid ((acc ++ [s[k]'hlt]) ++ swapL which.data.toList ws (tailL s (k + 1)) = swapL which.data.toList ws s.data.toList) := by
          show _ = _
          rw [← Hacc.out, hst]
          unfold swap1
          rw [hr]
          simp
        rw [hr] at Hc
        clear hst Hacc hr
        go_wp2_with fail
        refine (Hc _).mono ?_
        rintro e w1 ⟨rfl, rfl⟩
        simp only [findV]
        go_wp2_with (at_builtin; refine wpList_append_own _ rfl (.tmp 24) (.tmp 28) 22 rfl w.heap.size 5 i0 (.int .u8 0) 1 1 Tryz.underlying22 Hi.out Hz0.out Hz1.out Hz2.out rfl (by decide) _ acc.length (Lib.byteCells acc) rfl (hown.alloc _) ⟨_, 0, none⟩ 1 1 [.int .u8 ((s[k]'hlt).toNat : Int)] rfl rfl (one_byte_at _ _ _) (one_byte_one _) ?c3 ?c4 ?c5 ?_)
        case c3 => unfold maxLen; omega
        case c4 => omega
        case c5 => have := hbel.size; first | omega | (simp; omega)
        intro v' w2 hown' hgrow _
        have hbel2 : Below w.heap.size w w2 := own_grown (hown.alloc _) (hbel.alloc hbel.size _) (Nat.le_refl _) hgrow (by have := hbel.size; simp; omega)
        have hown2 : w2.ownsRow w.heap.size 5 1 v' (acc ++ [s[k]'hlt]).length (Lib.byteCells (acc ++ [s[k]'hlt])) := by
          rw [List.length_append, byteCells_more]
          exact hown'
        clear hown' hgrow hown hbel
        go_wp2
        go_roundw
        case rel => exact ⟨k + 1, acc ++ [s[k]'hlt], by omega, by simp; omega, by go_num, hown2, hbel2, Hst⟩
        case measure => simp [intOf]; omega
      | some q =>
        have hq : q < n := by
          have h1 : findE which 0 (s[k]'hlt) = some q := by rw [findE_zero, hr]
          have := (findE_le h1).2
          have := Hn.out.2
          omega
        have hcell := (hbel.cell (p := ⟨b, q, none⟩) HT.out.1).trans (HT.out.2 q (by rw [Hn.out.1]; exact hq))
        have htl : (ws.getD q []).length ≤ 100 := by
          have hq2 : q < ws.length := by rw [Hn.out.1]; exact hq
          apply Hlen.out
          simp [List.getD, hq2]
        have Hst : Hid ((acc ++ ws.getD q []) ++ swapL which.data.toList ws (tailL s (k + 1)) = swapL which.data.toList ws s.data.toList) := by
          show _ = _
          rw [← Hacc.out, hst]
          unfold swap1
          rw [hr, List.append_assoc]
        rw [hr] at Hc
        clear hst Hacc hr
        generalize ws.getD q [] = tl at *
        have Hts : Hid ((strB tl).size = tl.length) := strB_size tl
        have Htd : Hid ((strB tl).data.toList = tl) := by show _ = _; simp [strB]
        generalize strB tl = t at *
        have hts : t.size ≤ 100 := by rw [Hts.out]; exact htl
        have q0 : (0 : Int) ≤ (q : Int) := by omega
        have q1 : (q : Int) < (n : Int) := by omega
        have q2 : ¬ (q : Int) < 0 := by omega
        have q2' : decide ((q : Int) < 0) = false := decide_eq_false q2
        go_wp2_with fail
        refine (Hc _).mono ?_
        rintro e w1 ⟨rfl, rfl⟩
        simp only [findV]
        obtain ⟨cap', W, hrun, hbW, hszW, hcW⟩ := conv_bytes w1 t
        have hownW : W.ownsRow w.heap.size 5 1 _ acc.length (Lib.byteCells acc) := owns_below hown (Nat.le_refl _) hbW
        have hbelW : Below w.heap.size w W := hbel.trans (hbW.mono hbel.size)
        rw [Htd.out] at hcW
        have HcW : Hid (∀ j u, (Lib.byteCells tl)[j]? = some u → W.cell? ((⟨w1.heap.size, 0, none⟩ : Addr).add j) = some u) := hcW
        clear hcW hbW hown hbel
        go_wp2_with (at_builtin; refine wpList_append_own _ rfl (.tmp 30) (.tmp 35) 22 rfl w.heap.size 5 i0 (.int .u8 0) 1 1 Tryz.underlying22 Hi.out Hz0.out Hz1.out Hz2.out rfl (by decide) _ acc.length (Lib.byteCells acc) rfl hownW ⟨w1.heap.size, 0, none⟩ t.size cap' (Lib.byteCells tl) rfl ?c1 HcW.out byteCells_one ?c3 ?c4 hbelW.size ?_)
        case c1 => rw [Lib.byteCells_length, Nat.mul_one, Hts.out]
        case c3 => unfold maxLen; omega
        case c4 => omega
        intro v' w2 hown' hgrow _
        have hbel2 : Below w.heap.size w w2 := own_grown hownW hbelW (Nat.le_refl _) hgrow hbelW.size
        have hown2 : w2.ownsRow w.heap.size 5 1 v' (acc ++ tl).length (Lib.byteCells (acc ++ tl)) := by
          have e1 : (acc ++ tl).length = acc.length + t.size := by rw [List.length_append, Hts.out]
          have e2 : Lib.byteCells (acc ++ tl) = Lib.byteCells acc ++ Lib.byteCells tl := by simp [Lib.byteCells]
          rw [e1, e2]
          exact hown'
        clear hown' hgrow hownW hbelW hrun
        go_wp2
        go_roundw
        case rel => exact ⟨k + 1, acc ++ tl, by omega, by rw [List.length_append]; omega, by go_num, hown2, hbel2, Hst⟩
        case measure => simp [intOf]; omega
    · have he : acc = swapL which.data.toList ws s.data.toList := by
        have h := Hacc.out
        rw [tailL_end s k hlt, show swapL which.data.toList ws [] = [] from rfl, List.append_nil] at h
        exact h
      have hbk := own_back hown
      have Hbk : Hid (strB acc = strB (swapL which.data.toList ws s.data.toList)) := congrArg strB he
      have hdl : decide ((k : Int) < (s.size : Int)) = false := decide_eq_false (by omega)
      clear he hown Hacc
      go_wp2
      go_ret
      exact ⟨congrArg (fun x => Ending.returned (.string x)) Hbk.out, hbel⟩

end Go.Proofs.YthikgkhnhbaccaaGreatDoor.Sg
