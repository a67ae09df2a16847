/- The error that is told of what is refused; told, that makes nothing of it. -/
import Derived.Test.YtfbnhjogkjbcbaaDoorErIs
import Derived.Test.YtfbnhjogkjbcbaaDoorGOwn
import Derived.Deep.QuietTactic
namespace Go.Proofs.YtfbnhjogkjbcbaaDoor.Sg
open Go.ChangeShapes Go.WideShapes Go.ChangeAt Go.RowKit

/-- An error of errors.New's make. -/
abbrev errV (a : Addr) : Value := .iface 116 (.pointer (some a))
/-- The variable holds that error. -/
def ErrA (a : Addr) (w : World) : Prop := w.cell? ⟨0, 0, none⟩ = some (errV a)
theorem ErrA.below {a : Addr} {w w' : World} (h : ErrA a w) (hb : Below w.heap.size w w') : ErrA a w' := keep_cell hb h

theorem told_no (s : ByteArray) (n : Int) (a : Addr) (w : World) (h : ErrA a w) :
    Calls Tryd.prog 28 #[.string s, .int .i64 n, errV a] w fun e w' => e = .returned (.tuple #[.string ⟨#[]⟩, .int .i64 (-1)]) ∧ Below w.heap.size w w' := by
  unfold ErrA at h
  go_enter Tryd.func28, Tryd.ntmps28
  go_wp2_with fail
  refine (is_same a _).mono ?_
  rintro e w1 ⟨rfl, rfl⟩
  go_wp2_with fail
  go_ret2
  exact ⟨rfl, Below.refl _ _⟩
theorem told_yes (s : ByteArray) (n : Int) (a : Addr) (w : World) (h : ErrA a w) :
    Calls Tryd.prog 28 #[.string s, .int .i64 n, .nilIface] w fun e w' => e = .returned (.tuple #[.string s, .int .i64 n]) ∧ Below w.heap.size w w' := by
  unfold ErrA at h
  go_enter Tryd.func28, Tryd.ntmps28
  go_wp2_with fail
  refine (is_nil a _).mono ?_
  rintro e w1 ⟨rfl, rfl⟩
  go_wp2_with fail
  go_ret2
  exact ⟨rfl, Below.refl _ _⟩

theorem toldA_no (x y : ByteArray) (n : Int) (a : Addr) (w : World) (h : ErrA a w) :
    Calls Tryd.prog 33 #[.agg #[.string x, .string y], .int .i64 n, errV a] w fun e w' => e = .returned (.tuple #[.agg #[.string ⟨#[]⟩, .string ⟨#[]⟩], .int .i64 (-1)]) ∧ Below w.heap.size w w' := by
  have b0 : Below w.heap.size w ((w.alloc (.cells #[.string x, .string y] 28)).alloc (.cells #[.string ⟨#[]⟩, .string ⟨#[]⟩] 28)) := ((Below.refl _ _).alloc (Nat.le_refl _) _).alloc (by simp) _
  have h1 := h.below b0
  unfold ErrA at h1
  clear h
  go_enter Tryd.func33, Tryd.ntmps33
  go_wp2_with fail
  refine (is_same a _).mono ?_
  rintro e w1 ⟨rfl, rfl⟩
  go_wp2_with fail
  refine bodyPost_ret (v := .tuple #[.agg #[.string ⟨#[]⟩, .string ⟨#[]⟩], .int .i64 (-1)]) ?_ rfl ⟨rfl, ?_⟩
  · simp [results, Tryd.results33, go_sem]
  · exact b0.alloc b0.size _
theorem toldA_yes (x y : ByteArray) (n : Int) (a : Addr) (w : World) (h : ErrA a w) :
    Calls Tryd.prog 33 #[.agg #[.string x, .string y], .int .i64 n, .nilIface] w fun e w' => e = .returned (.tuple #[.agg #[.string x, .string y], .int .i64 n]) ∧ Below w.heap.size w w' := by
  have b0 : Below w.heap.size w ((w.alloc (.cells #[.string x, .string y] 28)).alloc (.cells #[.string ⟨#[]⟩, .string ⟨#[]⟩] 28)) := ((Below.refl _ _).alloc (Nat.le_refl _) _).alloc (by simp) _
  have h1 := h.below b0
  unfold ErrA at h1
  clear h
  go_enter Tryd.func33, Tryd.ntmps33
  go_wp2_with fail
  refine (is_nil a _).mono ?_
  rintro e w1 ⟨rfl, rfl⟩
  go_wp2_with fail
  refine bodyPost_ret (v := .tuple #[.agg #[.string x, .string y], .int .i64 n]) ?_ rfl ⟨rfl, ?_⟩
  · simp [results, Tryd.results33, go_sem]
  · exact ((Below.refl _ _).alloc (Nat.le_refl _) _).alloc (by simp) _

end Go.Proofs.YtfbnhjogkjbcbaaDoor.Sg
