/- Contract of the program's Named. -/
import Derived.Test.YtlaidaghmhmgbaaNmImpl
import Derived.Test.YtlaidaghmhmgbaaNmSpec
import Derived.Test.YtlaidaghmhmgbaaLwStr
namespace Go.Proofs.Ytlaidaghmhmgbaa.Sg
open Go.ChangeShapes Go.WideShapes Go.ChangeAt Go.RowKit

/-- The names, as texts. -/
def nameS : List ByteArray := nameL.map strB
theorem nameS_at (k : Nat) (h : k < 14) : nameS.getD k ByteArray.empty = strB (nameL.getD k []) := by
  have hl : k < nameL.length := h
  simp [nameS, List.getD, hl]
theorem nameS_take (k : Nat) (h : k < 14) : nameS.take (k + 1) = nameS.take k ++ [strB (nameL.getD k [])] := by
  have hl : k < nameS.length := h
  rw [← nameS_at k h, List.take_add_one]
  simp [List.getD, hl]
theorem info_str : (Try.prog.info? 9).map (fun i => (i.zero, i.size, i.bytes)) = some (some (.string ⟨#[]⟩), 1, 16) := by kernel_rfl

theorem one_at (w : World) (x : Value) (t : TypeId) (b : Nat) (hb : b = w.heap.size) : ∀ j u, ([x])[j]? = some u → (w.alloc (.cells #[x] t)).cell? ((⟨b, 0, none⟩ : Addr).add j) = some u := by
  subst hb
  intro j u hj
  match j, hj with
  | 0, hj => simp at hj; subst hj; simp [Addr.add]
theorem one_one (x : ByteArray) : ∀ u ∈ [Value.string x], u.oneCell' = true := by
  intro u hu
  simp at hu
  subst hu
  rfl

theorem texts_strs {w : World} {b : Nat} (h : Texts w b nameL) : StrsAt w (some ⟨b, 0, none⟩) nameS :=
  .inr ⟨b, rfl, h.1, fun k hk => by rw [nameS_at k hk]; exact h.2 k hk⟩

set_option maxHeartbeats 2000000 in
theorem implNamed (w : World) :
    Calls Try.prog 8 #[] w fun e w' => ∃ v, e = .returned v ∧ w'.ownsRow w.heap.size 9 1 v nameS.length (strCs nameS) ∧ Below w.heap.size w w' := by
  obtain ⟨i0, hi0, hz0, hz1, hz2⟩ := info_parts info_str
  have Hi : Hid (Try.prog.info? 9 = some i0) := hi0
  have Hz0 : Hid (i0.zero = some (.string ⟨#[]⟩)) := hz0
  have Hz1 : Hid (i0.size = 1) := hz1
  have Hz2 : Hid (i0.bytes = 16) := hz2
  clear hi0 hz0 hz1 hz2
  go_enter Try.func8, Try.ntmps8
  go_wp2_with fail
  refine (implNamedSigns _).mono ?_
  rintro e w1 ⟨rfl, hN, hz, b1⟩
  have HN : Hid (NamesAt w1 w.heap.size) := hN
  clear hN
  go_wp2
  go_loopw [6, 1] (fun i lv wr => ∃ k : Nat, k ≤ 14 ∧ i = .int .i64 k ∧ Below w1.heap.size w1 wr ∧ wr.ownsRow w1.heap.size 9 1 lv k (strCs (nameS.take k))) (fun i _ _ => 14 - (intOf i).toNat)
  case atStart => exact ⟨0, Nat.zero_le _, rfl, Below.refl _ _, World.ownsRow_nil _ _ _ _⟩
  case round =>
    obtain ⟨k, hk, rfl, hbel, hown⟩ := hrel
    by_cases hlk : k < 14
    · obtain ⟨n0, n1⟩ := HN.out k hlk
      have n0' := (hbel.cell (p := ⟨w.heap.size, k * 2, none⟩) hz).trans n0
      have n1' := (hbel.cell (p := ⟨w.heap.size, k * 2 + 1, none⟩) hz).trans n1
      have htk : Hid (strCs (nameS.take (k + 1)) = strCs (nameS.take k) ++ [.string (strB (nameL.getD k []))]) := by
        show _ = _
        rw [nameS_take k hlk]
        simp [strCs]
      clear n0 n1
      generalize strB (nameL.getD k []) = x at *
      generalize signL.getD k 0 = z at *
      have k0 : (0 : Int) ≤ (k : Int) := by omega
      have k1 : (k : Int) < 14 := by omega
      have hownA := hown.alloc (.cells #[.string x, .int .i64 z] 35)
      have hbelA : Below w1.heap.size w1 (wr.alloc (.cells #[.string x, .int .i64 z] 35)) := hbel.alloc hbel.size _
      clear hown
      go_wp2_with (at_builtin; refine wpList_append_own _ rfl (.tmp 10) (.tmp 13) 22 rfl w1.heap.size 9 i0 (.string ⟨#[]⟩) 1 16 Try.underlying22 Hi.out Hz0.out Hz1.out Hz2.out rfl (by decide) _ k (strCs (nameS.take k)) rfl (hownA.alloc _) ⟨_, 0, none⟩ 1 1 [.string x] rfl rfl (one_at _ _ _ _ (by simp)) (one_one _) ?c3 ?c4 ?c5 ?_)
      case c3 => unfold maxLen; omega
      case c4 => omega
      case c5 => have := hbelA.size; first | omega | (simp; omega) | (simp at *; omega)
      intro v' w5 hown' hgrow _
      have hbel5 : Below w1.heap.size w1 w5 := grown_below (hownA.alloc _) (hbelA.alloc hbelA.size _) (Nat.le_refl _) hgrow (by have := hbelA.size; first | omega | (simp at *; omega))
      rw [← htk.out] at hown'
      clear hgrow hownA hbelA hbel
      go_wp2
      go_roundw
      case rel => exact ⟨k + 1, by omega, by go_num, hbel5, hown'⟩
      case measure => simp [intOf]; omega
    · have hke : k = 14 := by omega
      subst hke
      have hdk : decide (((14 : Nat) : Int) < 14) = false := by decide
      have hfin := own_mono hown (Nat.le_of_lt hz)
      have hb := b1.trans (hbel.mono b1.size)
      clear hown
      go_wp2
      go_ret
      exact ⟨_, rfl, hfin, hb⟩

end Go.Proofs.Ytlaidaghmhmgbaa.Sg
