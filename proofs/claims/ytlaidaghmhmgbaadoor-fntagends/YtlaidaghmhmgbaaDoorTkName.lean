/- Contracts of the model's way over an attribute's name, and of where a tag's name begins. -/
import Derived.Test.YtlaidaghmhmgbaaDoorTkSkip
namespace Go.Proofs.YtlaidaghmhmgbaaDoor.Sg
open Go.ChangeShapes Go.WideShapes Go.ChangeAt Go.RowKit

/-- From the second byte on '=' ends a name. -/
def nameAtU (angle first : Bool) (b : UInt8) : Bool := if first then firstU angle b else nameU angle b

theorem nameE_go {angle : Bool} {s : ByteArray} {i k : Nat} (hlt : k < s.size) (hik : i ≤ k) (h : nameAtU angle (decide (k = i)) (s[k]'hlt) = true)
    (hinv : k = i ∨ nameE angle s i = runE (nameU angle) s k) : i ≤ k + 1 ∧ nameE angle s i = runE (nameU angle) s (k + 1) := by
  refine ⟨by omega, ?_⟩
  unfold nameAtU at h
  by_cases he : k = i
  · subst he
    rw [decide_eq_true rfl, if_pos rfl] at h
    exact nameE_yes hlt h
  · rw [decide_eq_false he, if_neg (by simp)] at h
    rcases hinv with hinv | hinv
    · exact absurd hinv he
    · rw [hinv, runE_yes hlt h]
theorem nameE_stop {angle : Bool} {s : ByteArray} {i k : Nat} (hlt : k < s.size) (h : nameAtU angle (decide (k = i)) (s[k]'hlt) = false)
    (hinv : k = i ∨ nameE angle s i = runE (nameU angle) s k) : nameE angle s i = k := by
  unfold nameAtU at h
  by_cases he : k = i
  · subst he
    rw [decide_eq_true rfl, if_pos rfl] at h
    exact nameE_no hlt h
  · rw [decide_eq_false he, if_neg (by simp)] at h
    rcases hinv with hinv | hinv
    · exact absurd hinv he
    · rw [hinv, runE_no hlt h]
theorem nameE_past {angle : Bool} {s : ByteArray} {i k : Nat} (hlt : ¬ k < s.size) (hinv : k = i ∨ nameE angle s i = runE (nameU angle) s k) : nameE angle s i = k := by
  rcases hinv with rfl | hinv
  · exact nameE_end hlt
  · rw [hinv, runE_end hlt]

/-- Where a tag's name begins. -/
def afterE (s : ByteArray) (i : Nat) : Nat := if (tailL s (i + 1)).head? = some 47 then i + 2 else i + 1

set_option maxHeartbeats 1000000 in
theorem specAfter (s : ByteArray) (i : Nat) (w : World) (hs : s.size ≤ 17592186044416) (hi : i ≤ s.size) :
    Calls Tryd.prog 46 #[.string s, .int .i64 (i : Int)] w fun e w' => e = .returned (.int .i64 (afterE s i : Int)) ∧ w' = w := by
  by_cases h : i + 1 < s.size
  · have hst := tailL_step s (i + 1) h
    have g0 : (i : Int) + 1 < (s.size : Int) := by omega
    by_cases h47 : (s[i + 1]'h).toNat = 47
    · have Hn : Hid (afterE s i = i + 2) := by
        show _ = _
        unfold afterE
        rw [hst, UInt8.toNat_inj.1 (show (s[i + 1]'h).toNat = (47 : UInt8).toNat from h47)]
        exact if_pos rfl
      have g1 : (((s[i + 1]'h).toNat : Int) == 47) = true := by simp [h47]
      clear hst h47
      go_enter Tryd.func46, Tryd.ntmps46
      go_wp2
      go_ret
      exact ⟨ret_i64' (by rw [Hn.out]; rfl), rfl⟩
    · have Hn : Hid (afterE s i = i + 1) := by
        show _ = _
        unfold afterE
        rw [hst, if_neg]
        intro e
        apply h47
        rw [Option.some.inj e]
        rfl
      have g1 : (((s[i + 1]'h).toNat : Int) == 47) = false := by simp; omega
      clear hst h47
      go_enter Tryd.func46, Tryd.ntmps46
      go_wp2
      go_ret
      exact ⟨ret_i64' (by rw [Hn.out]; rfl), rfl⟩
  · have Hn : Hid (afterE s i = i + 1) := by
      show _ = _
      unfold afterE
      rw [tailL_end s (i + 1) h]
      rfl
    have g0 : decide ((i : Int) + 1 < (s.size : Int)) = false := decide_eq_false (by omega)
    go_enter Tryd.func46, Tryd.ntmps46
    go_wp2
    go_ret
    exact ⟨ret_i64' (by rw [Hn.out]; rfl), rfl⟩

theorem afterE_le {s : ByteArray} {i : Nat} (h : i < s.size) : i + 1 ≤ afterE s i ∧ afterE s i ≤ s.size := by
  unfold afterE
  split
  · rename_i he
    refine ⟨by omega, ?_⟩
    apply Classical.byContradiction
    intro hc
    rw [tailL_end s (i + 1) (by omega)] at he
    cases he
  · omega

end Go.Proofs.YtlaidaghmhmgbaaDoor.Sg
