/- errors.Is at an error of errors.New's make, held against itself and nil held against it. -/
import Derived.Test.YthipdkagkdnaiaaGreatDoorChecked
import Derived.WalkKit
import Derived.LaidEql
import Derived.Stop.Asserts
import Derived.RowKitTokens
namespace Go.Proofs.YthipdkagkdnaiaaGreatDoor.Sg
open Go.RowKit Go.Extern.Stop Go.Stop Go.Extern

/-- The model's entry. -/
def cmpEntry : Array Value → Sem Value := Extern.ReflectliteType.method fun t => do Extern.Rtype.noPackHeld "Comparable" t; pure (.bool (← typeInfo t).comparable)
theorem is_typeOf (v : Value) (w : World) : (Extern.ReflectliteType.typeOf #[.iface 197 v]).run Tryz.prog w = .ok (.iface 148 (.agg #[.pointer (some ⟨4, 197, none⟩)])) w := by kernel_rfl
theorem is_comparable (w : World) : (cmpEntry #[.agg #[.pointer (some ⟨4, 197, none⟩)]]).run Tryz.prog w = .ok (.bool true) w := by kernel_rfl
theorem is_method (v : Value) (w : World) : (Go.method 337 148 v "Comparable").run Tryz.prog w = .ok (210, v) w := by kernel_rfl
theorem is_comp : (Tryz.prog.info? 197).map (·.comparable) = some true := by kernel_rfl
theorem is_size : (Tryz.prog.info? 226).map (·.size) = some 1 := by kernel_rfl

theorem is_same (a : Addr) (w : World) :
    Calls Tryz.prog 98 #[.iface 197 (.pointer (some a)), .iface 197 (.pointer (some a))] w fun e w' => e = .returned (.bool true) ∧ w' = w := by
  obtain ⟨i, hi, hcmp⟩ := Option.map_eq_some_iff.1 is_comp
  obtain ⟨j, hj, hjs⟩ := Option.map_eq_some_iff.1 is_size
  have h8 := @run_callFunc_extern Tryz.prog 115 _ Extern.ReflectliteType.typeOf Tryz.func115 (by kernel_rfl) (by kernel_rfl) (by kernel_rfl) (by kernel_rfl)
  have h32 := @run_callFunc_extern Tryz.prog 210 _ cmpEntry Tryz.func210 (by kernel_rfl) (by kernel_rfl) (by kernel_rfl) (by kernel_rfl)
  have tT := is_typeOf
  have cT := is_comparable
  have mR := is_method
  have heq := run_eql_iface_ptr_same (P := Tryz.prog) w a Tryz.underlying60 Tryz.underlying197 hi hcmp hj
  go_enter Tryz.func98, Tryz.ntmps98
  go_wp2
  refine wp_loop_rounds 1 ?_
  rw [rounds_succ]
  go_wp2
  go_ret
  exact ⟨rfl, rfl⟩
theorem is_nil (b : Addr) (w : World) :
    Calls Tryz.prog 98 #[.nilIface, .iface 197 (.pointer (some b))] w fun e w' => e = .returned (.bool false) ∧ w' = w := by
  have hn := run_eql_iface_nil_left (P := Tryz.prog) w 197 (.pointer (some b)) Tryz.underlying60
  go_enter Tryz.func98, Tryz.ntmps98
  go_wp2
  go_ret
  exact ⟨rfl, rfl⟩

end Go.Proofs.YthipdkagkdnaiaaGreatDoor.Sg
