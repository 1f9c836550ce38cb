/-
  ERRORS: errors.Is of no error, and of a fault.At around ErrTorn. Own work; after the kit's worked example of errors.Is.
-/
import Derived.Test.YtafpfiadapabaaaDoorSTe
namespace Go.Proofs.YtafpfiadapabaaaDoor
open Go.RowKit Go.Extern.Stop Go.Stop Go.Extern
set_option maxRecDepth 100000
theorem cmpE (w : World) : ((ReflectliteType.method fun t => do Rtype.noPackHeld "Comparable" t; (fun a => Value.bool a.comparable) <$> typeInfo t) #[.agg #[.pointer (some ⟨1, 25, none⟩)]]).run Tryd.prog w = .ok (.bool true) w := by kernel_rfl
theorem mC (h : Value) (w : World) : (Go.method 251 107 (.agg #[h]) "Comparable").run Tryd.prog w = .ok (75, .agg #[h]) w := by kernel_rfl
theorem noIsA (v : Value) (xT : TypeId) (w : World) : (Instr.typeAssert (.iface 89 v) xT 119 true).run Tryd.prog w = .ok (.tuple #[.nilIface, .bool false]) w := run_typeAssert_lacksB Tryd.underlying119 (by kernel_rfl) (by kernel_rfl) v xT w
theorem eqTorn (w : World) : (binOp .eql 59 (.iface 25 (.int .i64 10)) (.iface 25 (.int .i64 10))).run Tryd.prog w = .ok (.bool true) w := by kernel_rfl
set_option maxHeartbeats 4000000 in
/-- errors.Is of no error. -/
theorem is_nil (w : World) : Calls Tryd.prog 38 #[.nilIface, .iface 25 (.int .i64 10)] w fun e w' => e = .returned (.bool false) ∧ w' = w := by
  have hn := run_eql_iface_nil_left (P := Tryd.prog) w 25 (.int .i64 10) Tryd.underlying59
  go_enter Tryd.func38, Tryd.ntmps38
  go_wp2
  go_ret
  exact ⟨rfl, rfl⟩
set_option maxHeartbeats 16000000 in
theorem isIn_torn (s : Value) (w : World) : Calls Tryd.prog 47 #[.iface 89 (.agg #[s, .iface 25 (.int .i64 10)]), .iface 25 (.int .i64 10), .bool true] w fun e w' => e = .returned (.bool true) ∧ w' = w.alloc (.cells #[s, .iface 25 (.int .i64 10)] 89) := by
  have nA := noIsA
  have hU := hasU
  have mU := mU
  have heq := eqTorn
  have hty := fun w => run_eql_iface_types (P := Tryd.prog) 89 25 (.agg #[s, .iface 25 (.int .i64 10)]) (.int .i64 10) Tryd.underlying59 (by decide) w
  go_enter Tryd.func47, Tryd.ntmps47
  go_wp2
  refine wp_loop_rounds 2 ?_
  rw [rounds_succ]
  go_wp2_with (go_at_call 69; refine (unwrap _ _ _).mono ?_; rintro ev w' ⟨rfl, rfl⟩)
  rw [rounds_succ]
  go_wp2
  go_ret
  exact ⟨rfl, rfl⟩
set_option maxHeartbeats 16000000 in
/-- errors.Is of a fault.At around ErrTorn. -/
theorem is_torn (s : Value) (w : World) : Calls Tryd.prog 38 #[.iface 89 (.agg #[s, .iface 25 (.int .i64 10)]), .iface 25 (.int .i64 10)] w fun e w' => e = .returned (.bool true) ∧ Below w.heap.size w w' := by
  have h1 := @run_callFunc_extern Tryd.prog 46 _ ReflectliteType.typeOf Tryd.func46 (by kernel_rfl) (by kernel_rfl) (by kernel_rfl) (by kernel_rfl)
  have h2 := @run_callFunc_extern Tryd.prog 75 _ (ReflectliteType.method fun t => do Rtype.noPackHeld "Comparable" t; pure (.bool (← typeInfo t).comparable)) Tryd.func75 (by kernel_rfl) (by kernel_rfl) (by kernel_rfl) (by kernel_rfl)
  have tT := tOE
  have cT := cmpE
  have mR := mC
  go_enter Tryd.func38, Tryd.ntmps38
  go_wp2_with (go_at_call 47; refine (isIn_torn _ _).mono ?_; rintro ev w' ⟨rfl, rfl⟩)
  go_ret
  exact ⟨rfl, (Below.refl _ _).alloc (Nat.le_refl _) _⟩
end Go.Proofs.YtafpfiadapabaaaDoor
