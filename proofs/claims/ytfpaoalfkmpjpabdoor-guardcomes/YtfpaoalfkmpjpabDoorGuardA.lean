/- Walks of the library's errors.Is at a kind, over a kind and over a fault that wraps nothing. -/
import Derived.Test.YtfpaoalfkmpjpabDoorChecked
import Derived.WalkKit
import Derived.LaidEql
import Derived.Stop.Asserts
import Derived.RowKitTokens
import Derived.KernelRfl
namespace Go.Proofs.YtfpaoalfkmpjpabDoor
open Go.RowKit Go.Extern.Stop Go.Stop Go.Extern

/-! Closed facts on the types of errors: Kind (42), Error (35), *errorString (56). -/
theorem isTypeOf (v : Value) (w : World) : (Extern.ReflectliteType.typeOf #[.iface 42 v]).run Tryd.prog w = .ok (.iface 60 (.agg #[.pointer (some ⟨4, 42, none⟩)])) w := by kernel_rfl
theorem isTypeOfCall (v : Value) (w : World) : (callFunc 21 #[.iface 42 v]).run Tryd.prog w = .ok (.value (.iface 60 (.agg #[.pointer (some ⟨4, 42, none⟩)]))) w := by
  have h21 := @run_callFunc_extern Tryd.prog 21 _ Extern.ReflectliteType.typeOf Tryd.func21 (by kernel_rfl) (by kernel_rfl) (by kernel_rfl) (by kernel_rfl)
  rw [h21, isTypeOf]
  rfl
def comparableE : Array Value → Sem Value := Extern.ReflectliteType.method fun t => do Extern.Rtype.noPackHeld "Comparable" t; pure (.bool (← typeInfo t).comparable)
theorem isComparable (w : World) : (comparableE #[.agg #[.pointer (some ⟨4, 42, none⟩)]]).run Tryd.prog w = .ok (.bool true) w := by kernel_rfl
theorem isComparableCall (w : World) : (callFunc 67 #[.agg #[.pointer (some ⟨4, 42, none⟩)]]).run Tryd.prog w = .ok (.value (.bool true)) w := by
  have h67 := @run_callFunc_extern Tryd.prog 67 _ comparableE Tryd.func67 (by kernel_rfl) (by kernel_rfl) (by kernel_rfl) (by kernel_rfl)
  rw [h67, isComparable]
  rfl
theorem isMethodComparable (v : Value) (w : World) : (Go.method 226 60 v "Comparable").run Tryd.prog w = .ok (67, v) w := by kernel_rfl
theorem hasIsE (v : Value) (xT : TypeId) (w : World) : (Instr.typeAssert (.iface 35 v) xT 74 true).run Tryd.prog w = .ok (.tuple #[.iface 35 v, .bool true]) w := run_typeAssert_hasB Tryd.underlying74 (by kernel_rfl) v xT w
theorem hasUnwrapE (v : Value) (xT : TypeId) (w : World) : (Instr.typeAssert (.iface 35 v) xT 68 true).run Tryd.prog w = .ok (.tuple #[.iface 35 v, .bool true]) w := run_typeAssert_hasB Tryd.underlying68 (by kernel_rfl) v xT w
theorem methodIs (v : Value) (w : World) : (Go.method 226 35 v "Is").run Tryd.prog w = .ok (43, v) w := by kernel_rfl
theorem methodUnwrap (v : Value) (w : World) : (Go.method 226 35 v "Unwrap").run Tryd.prog w = .ok (44, v) w := by kernel_rfl
theorem isComp : (Tryd.prog.info? 42).map (·.comparable) = some true := by kernel_rfl

/-- '==' of two Kinds, held as errors. -/
theorem eqlKind (a b : Int) (w : World) : (binOp .eql 32 (.iface 42 (.int .i64 a)) (.iface 42 (.int .i64 b))).run Tryd.prog w = .ok (.bool (decide (a = b))) w := by
  obtain ⟨i, hi, hcmp⟩ := Option.map_eq_some_iff.1 isComp
  have h : ∀ d : Nat, (Op.equalIn (d + 2) 32 (.iface 42 (.int .i64 a)) (.iface 42 (.int .i64 b))).run Tryd.prog w = .ok (decide (a = b)) w := fun d => by
    simp [Op.equalIn, run_underlying Tryd.underlying32, run_underlying Tryd.underlying42, typeInfo, hi, hcmp]
    by_cases e : a = b <;> simp [e]
  simp only [binOp]
  simp [Op.equal, Op.maxDepth, h 9998]

/-- A fault, as it lies in five cells. -/
def fltV (k fi ca inn : Int) (t : ByteArray) : Value := .agg #[.int .i64 k, .int .i64 fi, .int .i64 ca, .string t, .int .i64 inn]

set_option maxRecDepth 1000000 in
theorem is_self (a : Int) (w : World) :
    Calls Tryd.prog 24 #[.iface 42 (.int .i64 a), .iface 42 (.int .i64 a), .bool true] w fun e w' => e = .returned (.bool true) ∧ w' = w := by
  have heq := eqlKind
  go_enter Tryd.func24, Tryd.ntmps24
  go_wp2
  refine wp_loop_rounds 1 ?_
  rw [rounds_succ]
  go_wp2
  go_ret
  exact ⟨rfl, rfl⟩

set_option maxRecDepth 1000000 in
theorem is_bare (k fi ca a : Int) (t : ByteArray) (w : World) (hne : decide (a = k) = false) :
    Calls Tryd.prog 24 #[.iface 35 (fltV k fi ca 0 t), .iface 42 (.int .i64 a), .bool true] w fun e w' => e = .returned (.bool false) ∧ Below w.heap.size w w' := by
  unfold fltV
  have heq := eqlKind
  have hty := run_eql_iface_types (P := Tryd.prog) 35 42 (.agg #[.int .i64 k, .int .i64 fi, .int .i64 ca, .string t, .int .i64 0]) (.int .i64 a) Tryd.underlying32 (by decide) w
  have h1 := hasIsE
  have h2 := hasUnwrapE
  have m1 := methodIs
  have m2 := methodUnwrap
  go_enter Tryd.func24, Tryd.ntmps24
  go_wp2
  refine wp_loop_rounds 1 ?_
  rw [rounds_succ]
  go_wp2
  go_ret
  exact ⟨rfl, ((Below.refl _ _).alloc (Nat.le_refl _) _).alloc (by simp) _⟩

set_option maxRecDepth 1000000 in
theorem errorsIs_self (a : Int) (w : World) :
    Calls Tryd.prog 20 #[.iface 42 (.int .i64 a), .iface 42 (.int .i64 a)] w fun e w' => e = .returned (.bool true) ∧ w' = w := by
  have tT := isTypeOfCall
  have cT := isComparableCall
  have mR := isMethodComparable
  go_enter Tryd.func20, Tryd.ntmps20
  go_wp2_with (go_at_call 24; refine (is_self a _).mono ?_; rintro e w' ⟨rfl, rfl⟩)
  go_ret
  exact ⟨rfl, rfl⟩

set_option maxRecDepth 1000000 in
theorem errorsIs_bare (k fi ca a : Int) (t : ByteArray) (w : World) (hne : decide (a = k) = false) :
    Calls Tryd.prog 20 #[.iface 35 (fltV k fi ca 0 t), .iface 42 (.int .i64 a)] w fun e w' => e = .returned (.bool false) ∧ Below w.heap.size w w' := by
  have tT := isTypeOfCall
  have cT := isComparableCall
  have mR := isMethodComparable
  go_enter Tryd.func20, Tryd.ntmps20
  go_wp2_with (go_at_call 24; refine (is_bare k fi ca a t _ hne).mono ?_; rintro e w' ⟨rfl, hb⟩)
  go_ret
  exact ⟨rfl, hb⟩
end Go.Proofs.YtfpaoalfkmpjpabDoor
