/- Contracts of SignText, of the program and of the model: both give the bytes of the signs, one behind the other. -/
import Derived.Test.YtfbnhjogkjbcbaaDoorSgPut
import Derived.Test.YtfbnhjogkjbcbaaDoorKdOwn
import Derived.Test.YtfbnhjogkjbcbaaDoorGInts
import Derived.Laws.IdiomStrings
import Derived.Laws.AppendOwn
namespace Go.Proofs.YtfbnhjogkjbcbaaDoor.Sg
open Go.ChangeShapes Go.WideShapes Go.ChangeAt Go.RowKit

/-- The bytes of signs, one behind the other. -/
def sgBytes (zs : List Int) : List UInt8 := zs.flatMap fun z => (putS z).data.toList
def textS (zs : List Int) : ByteArray := ⟨(sgBytes zs).toArray⟩

theorem sgBytes_take (zs : List Int) (k : Nat) (hk : k < zs.length) : sgBytes (zs.take (k + 1)) = sgBytes (zs.take k) ++ (putS (zs.getD k 0)).data.toList := by
  unfold sgBytes
  rw [List.take_succ_eq_append_getElem hk, List.flatMap_append]
  simp [hk]

theorem sgBytes_length (zs : List Int) : (sgBytes zs).length ≤ 4 * zs.length := by
  induction zs with
  | nil => simp [sgBytes]
  | cons z zs ih =>
    have := putS_size z
    have e : (putS z).data.toList.length = (putS z).size := Array.length_toList
    have h2 : sgBytes (z :: zs) = (putS z).data.toList ++ sgBytes zs := by simp [sgBytes]
    rw [h2, List.length_append, List.length_cons]
    omega

/-- 'string(b)' of bytes that the call owns. -/
theorem back_bytes {w : World} {base n : Nat} {v : Value} {l : List UInt8} (h : w.ownsRow base 5 1 v n (Lib.byteCells l)) : Sem.run Tryd.prog (convert 46 9 v) w = .ok (.string ⟨l.toArray⟩) w := by
  obtain ⟨h1, h2⟩ := h
  rw [Lib.byteCells_length, Nat.mul_one] at h1
  rcases h2 with ⟨rfl, rfl⟩ | ⟨g, cap, cur, rfl, h3, h4, h5, h6, h7, h8⟩
  · have : l = [] := List.eq_nil_of_length_eq_zero h1
    subst this
    exact run_convert_bytes_nil w 46 5 Tryd.underlying46 Tryd.underlying5 0 0 9 Tryd.underlying9
  · subst h1
    refine run_convert_bytes_back w 46 9 5 ⟨g, 0, none⟩ cap l Tryd.underlying46 Tryd.underlying5 Tryd.underlying9 fun j hj => ?_
    rw [add0]
    have hc : cur[j]? = some (.int .u8 (l[j].toNat : Int)) := by
      have h9 : (cur.toList.take (l.length * 1))[j]? = (Lib.byteCells l)[j]? := by rw [h8]
      rw [List.getElem?_take_of_lt (by omega)] at h9
      simpa [Lib.byteCells, hj] using h9
    simp [World.cell?, h4, hc]

theorem info_u8 : (Tryd.prog.info? 5).map (fun i => (i.zero, i.size, i.bytes)) = some (some (.int .u8 0), 1, 1) := by kernel_rfl

set_option maxHeartbeats 1000000 in
theorem specSignText (zs : List Int) (a : Option Addr) (ca : Nat) (w : World) (ha : Ints w a zs) (hn : zs.length ≤ 17592186044416) :
    Calls Tryd.prog 100 #[.slice a zs.length ca] w fun e w' => e = .returned (.string (textS zs)) ∧ Below w.heap.size w w' := by
  obtain ⟨i0, hi0, hz0, hz1, hz2⟩ := info_parts info_u8
  have Hi : Hid (Tryd.prog.info? 5 = some i0) := hi0
  have Hz0 : Hid (i0.zero = some (.int .u8 0)) := hz0
  have Hz1 : Hid (i0.size = 1) := hz1
  have Hz2 : Hid (i0.bytes = 1) := hz2
  clear hi0 hz0 hz1 hz2
  generalize hlen : zs.length = n at *
  have Hlen : Hid (zs.length = n) := hlen
  clear hlen
  go_enter Tryd.func100, Tryd.ntmps100
  go_wp2
  go_loopw [3, 4] (fun v i wr => ∃ k : Nat, k ≤ n ∧ i = .int .i64 k ∧ wr.ownsRow w.heap.size 5 1 v (sgBytes (zs.take k)).length (Lib.byteCells (sgBytes (zs.take k))) ∧ Below w.heap.size w wr) (fun _ i _ => n - (intOf i).toNat)
  case atStart =>
    refine ⟨0, Nat.zero_le _, rfl, ⟨rfl, .inr ⟨w.heap.size, 0, #[], rfl, Nat.le_refl _, ?_, Nat.le_refl _, Nat.zero_le _, rfl, rfl⟩⟩, (Below.refl _ _).alloc (Nat.le_refl _) _⟩
    show (w.heap.push _)[w.heap.size]? = _
    simp
  case round =>
    obtain ⟨k, hk, rfl, hown, hbel⟩ := hrel
    by_cases hlt : k < n
    · rcases ha with ha | ⟨ba, oa, rfl, hba, hca⟩
      · have := Hlen.out
        rw [ha] at this
        simp at this
        omega
      have hca' := hca k (by rw [Hlen.out]; exact hlt)
      have h1 : wr.cell? ⟨ba, oa + k, none⟩ = some (.int .i64 (zs.getD k 0)) := (hbel.cell (by exact hba)).trans hca'
      have hst := sgBytes_take zs k (by rw [Hlen.out]; exact hlt)
      have hle := sgBytes_length (zs.take k)
      have hle2 : (zs.take k).length ≤ k := List.length_take_le _ _
      clear hca hca'
      have hps := putS_size (zs.getD k 0)
      generalize hz : zs.getD k 0 = z at *
      clear hz
      have Hst : Hid (sgBytes (zs.take (k + 1)) = sgBytes (zs.take k) ++ (putS z).data.toList) := hst
      clear hst
      generalize hacc : sgBytes (zs.take k) = acc at *
      clear hacc
      go_wp2_with fail
      refine (specPutSign z _).mono ?_
      rintro e w1 ⟨rfl, hb1⟩
      generalize hs : putS z = s at *
      clear hs
      obtain ⟨cap, W, hrun, hbW, hszW, hcW⟩ := conv_bytes w1 s
      have hownW : W.ownsRow w.heap.size 5 1 _ acc.length (Lib.byteCells acc) := owns_below (owns_below hown (Nat.le_refl _) hb1) (Nat.le_refl _) hbW
      have hbelW : Below w.heap.size w W := (hbel.trans (hb1.mono hbel.size)).trans (hbW.mono (Nat.le_trans hbel.size hb1.size))
      have HcW : Hid (∀ j u, (Lib.byteCells s.data.toList)[j]? = some u → W.cell? ((⟨w1.heap.size, 0, none⟩ : Addr).add j) = some u) := hcW
      clear hcW hbW hb1 hown hbel
      go_wp2_with (at_builtin; refine wpList_append_own _ rfl (.tmp 12) (.tmp 18) 46 rfl w.heap.size 5 i0 (.int .u8 0) 1 1 Tryd.underlying46 Hi.out Hz0.out Hz1.out Hz2.out rfl (by decide) _ acc.length (Lib.byteCells acc) rfl hownW ⟨w1.heap.size, 0, none⟩ s.size cap (Lib.byteCells s.data.toList) rfl ?c1 HcW.out byteCells_one ?c3 ?c4 hbelW.size ?_)
      case c1 => rw [Lib.byteCells_length, Nat.mul_one]; exact Array.length_toList
      case c3 => unfold maxLen; omega
      case c4 => omega
      intro v' w2 hown' hgrow _
      have hbel2 : Below w.heap.size w w2 := hbelW.grown hgrow hbelW.size (by
        intro r hr
        obtain ⟨_, h⟩ := hownW
        rcases h with ⟨h, _⟩ | ⟨g, _, _, h, hg, _⟩
        · rw [h] at hr
          simp [Value.ownBlock] at hr
        · rw [h] at hr
          simp [Value.ownBlock] at hr
          omega)
      have hown2 : w2.ownsRow w.heap.size 5 1 v' (sgBytes (zs.take (k + 1))).length (Lib.byteCells (sgBytes (zs.take (k + 1)))) := by
        rw [Hst.out]
        have e1 : (acc ++ s.data.toList).length = acc.length + s.size := by rw [List.length_append]; exact congrArg _ Array.length_toList
        have e2 : Lib.byteCells (acc ++ s.data.toList) = Lib.byteCells acc ++ Lib.byteCells s.data.toList := by simp [Lib.byteCells]
        rw [e1, e2]
        exact hown'
      clear hown' hgrow hownW hbelW hrun
      go_wp2
      go_roundw
      case rel => exact ⟨k + 1, by omega, by go_num, hown2, hbel2⟩
      case measure => simp [intOf]; omega
    · have hkn : k = n := by omega
      subst hkn
      have hall : zs.take k = zs := List.take_of_length_le (by rw [Hlen.out]; exact Nat.le_refl _)
      rw [hall] at hown
      have hbk := back_bytes hown
      clear hown hall
      go_wp2
      go_ret
      exact ⟨rfl, hbel⟩

end Go.Proofs.YtfbnhjogkjbcbaaDoor.Sg
