/- Walks of package fault: a kind's name; Is, by the library's errors.Is, which asks the fault's own Is and Unwrap. -/
import Derived.Test.YtlkfkhpokkjkpaaDoorChecked
import Derived.WalkKit
import Derived.LaidEql
import Derived.Stop.Asserts
import Derived.RowKitTokens
import Derived.KernelRfl
namespace Go.Proofs.YtlkfkhpokkjkpaaDoor
open Go.RowKit Go.Extern.Stop Go.Stop Go.Extern

/-! Closed facts on the two types of errors, Kind (73) and Error (72). -/
theorem isTypeOf (v : Value) (w : World) : (Extern.ReflectliteType.typeOf #[.iface 73 v]).run Tryd.prog w = .ok (.iface 97 (.agg #[.pointer (some ⟨6, 73, none⟩)])) w := by kernel_rfl
theorem isTypeOfCall (v : Value) (w : World) : (callFunc 65 #[.iface 73 v]).run Tryd.prog w = .ok (.value (.iface 97 (.agg #[.pointer (some ⟨6, 73, none⟩)]))) w := by
  have h65 := @run_callFunc_extern Tryd.prog 65 _ Extern.ReflectliteType.typeOf Tryd.func65 (by kernel_rfl) (by kernel_rfl) (by kernel_rfl) (by kernel_rfl)
  rw [h65, isTypeOf]
  rfl
def comparableE : Array Value → Sem Value := Extern.ReflectliteType.method fun t => do Extern.Rtype.noPackHeld "Comparable" t; pure (.bool (← typeInfo t).comparable)
theorem isComparable (w : World) : (comparableE #[.agg #[.pointer (some ⟨6, 73, none⟩)]]).run Tryd.prog w = .ok (.bool true) w := by kernel_rfl
theorem isComparableCall (w : World) : (callFunc 125 #[.agg #[.pointer (some ⟨6, 73, none⟩)]]).run Tryd.prog w = .ok (.value (.bool true)) w := by
  have h125 := @run_callFunc_extern Tryd.prog 125 _ comparableE Tryd.func125 (by kernel_rfl) (by kernel_rfl) (by kernel_rfl) (by kernel_rfl)
  rw [h125, isComparable]
  rfl
theorem isMethodComparable (v : Value) (w : World) : (Go.method 271 97 v "Comparable").run Tryd.prog w = .ok (125, v) w := by kernel_rfl
theorem noIsK (v : Value) (xT : TypeId) (w : World) : (Instr.typeAssert (.iface 73 v) xT 99 true).run Tryd.prog w = .ok (.tuple #[.nilIface, .bool false]) w := run_typeAssert_lacksB Tryd.underlying99 (by kernel_rfl) (by kernel_rfl) v xT w
theorem noUnwrapK (v : Value) (xT : TypeId) (w : World) : (Instr.typeAssert (.iface 73 v) xT 102 true).run Tryd.prog w = .ok (.tuple #[.nilIface, .bool false]) w := run_typeAssert_lacksB Tryd.underlying102 (by kernel_rfl) (by kernel_rfl) v xT w
theorem noUnwrapsK (v : Value) (xT : TypeId) (w : World) : (Instr.typeAssert (.iface 73 v) xT 104 true).run Tryd.prog w = .ok (.tuple #[.nilIface, .bool false]) w := run_typeAssert_lacksB Tryd.underlying104 (by kernel_rfl) (by kernel_rfl) v xT w
theorem hasIsE (v : Value) (xT : TypeId) (w : World) : (Instr.typeAssert (.iface 72 v) xT 99 true).run Tryd.prog w = .ok (.tuple #[.iface 72 v, .bool true]) w := run_typeAssert_hasB Tryd.underlying99 (by kernel_rfl) v xT w
theorem hasUnwrapE (v : Value) (xT : TypeId) (w : World) : (Instr.typeAssert (.iface 72 v) xT 102 true).run Tryd.prog w = .ok (.tuple #[.iface 72 v, .bool true]) w := run_typeAssert_hasB Tryd.underlying102 (by kernel_rfl) v xT w
theorem methodIs (v : Value) (w : World) : (Go.method 271 72 v "Is").run Tryd.prog w = .ok (117, v) w := by kernel_rfl
theorem methodUnwrap (v : Value) (w : World) : (Go.method 271 72 v "Unwrap").run Tryd.prog w = .ok (118, v) w := by kernel_rfl
theorem isComp : (Tryd.prog.info? 73).map (·.comparable) = some true := by kernel_rfl

/-- '==' of two Kinds, held as errors. -/
theorem eqlKind (a b : Int) (w : World) : (binOp .eql 67 (.iface 73 (.int .i64 a)) (.iface 73 (.int .i64 b))).run Tryd.prog w = .ok (.bool (decide (a = b))) w := by
  obtain ⟨i, hi, hcmp⟩ := Option.map_eq_some_iff.1 isComp
  have h : ∀ d : Nat, (Op.equalIn (d + 2) 67 (.iface 73 (.int .i64 a)) (.iface 73 (.int .i64 b))).run Tryd.prog w = .ok (decide (a = b)) w := fun d => by
    simp [Op.equalIn, run_underlying Tryd.underlying67, run_underlying Tryd.underlying73, typeInfo, hi, hcmp]
    by_cases e : a = b <;> simp [e]
  simp only [binOp]
  simp [Op.equal, Op.maxDepth, h 9998]

/-- A fault, as it lies in five cells. -/
def fltV (k fi ca inn : Int) (t : ByteArray) : Value := .agg #[.int .i64 k, .int .i64 fi, .int .i64 ca, .string t, .int .i64 inn]
def isB (k inn a : Int) : Bool := decide (k = a) || (decide (inn ≠ 0) && decide (inn = a))

set_option maxRecDepth 1000000 in
theorem is_hit (k fi ca inn : Int) (t : ByteArray) (w : World) :
    Calls Tryd.prog 66 #[.iface 72 (fltV k fi ca inn t), .iface 73 (.int .i64 k), .bool true] w fun e w' => e = .returned (.bool true) ∧ Below w.heap.size w w' := by
  unfold fltV
  have heq := eqlKind
  have hty := run_eql_iface_types (P := Tryd.prog) 72 73 (.agg #[.int .i64 k, .int .i64 fi, .int .i64 ca, .string t, .int .i64 inn]) (.int .i64 k) Tryd.underlying67 (by decide) w
  have h1 := hasIsE
  have m1 := methodIs
  go_enter Tryd.func66, Tryd.ntmps66
  go_wp2
  refine wp_loop_rounds 1 ?_
  rw [rounds_succ]
  go_wp2
  go_ret
  exact ⟨rfl, (Below.refl _ _).alloc (Nat.le_refl _) _⟩

set_option maxRecDepth 1000000 in
theorem is_bare (k fi ca a : Int) (t : ByteArray) (w : World) (hne : decide (a = k) = false) :
    Calls Tryd.prog 66 #[.iface 72 (fltV k fi ca 0 t), .iface 73 (.int .i64 a), .bool true] w fun e w' => e = .returned (.bool false) ∧ Below w.heap.size w w' := by
  unfold fltV
  have heq := eqlKind
  have hty := run_eql_iface_types (P := Tryd.prog) 72 73 (.agg #[.int .i64 k, .int .i64 fi, .int .i64 ca, .string t, .int .i64 0]) (.int .i64 a) Tryd.underlying67 (by decide) w
  have h1 := hasIsE
  have h2 := hasUnwrapE
  have m1 := methodIs
  have m2 := methodUnwrap
  go_enter Tryd.func66, Tryd.ntmps66
  go_wp2
  refine wp_loop_rounds 1 ?_
  rw [rounds_succ]
  go_wp2
  go_ret
  exact ⟨rfl, ((Below.refl _ _).alloc (Nat.le_refl _) _).alloc (by simp) _⟩

set_option maxRecDepth 1000000 in
theorem is_inner (k fi ca inn a : Int) (t : ByteArray) (w : World) (hne : decide (a = k) = false) (h0 : (inn == 0) = false) :
    Calls Tryd.prog 66 #[.iface 72 (fltV k fi ca inn t), .iface 73 (.int .i64 a), .bool true] w fun e w' => e = .returned (.bool (decide (inn = a))) ∧ Below w.heap.size w w' := by
  unfold fltV
  have heq := eqlKind
  have hty := run_eql_iface_types (P := Tryd.prog) 72 73 (.agg #[.int .i64 k, .int .i64 fi, .int .i64 ca, .string t, .int .i64 inn]) (.int .i64 a) Tryd.underlying67 (by decide) w
  have h1 := hasIsE
  have h2 := hasUnwrapE
  have m1 := methodIs
  have m2 := methodUnwrap
  have n1 := noIsK
  have n2 := noUnwrapK
  have n3 := noUnwrapsK
  have hb : Below w.heap.size w ((w.alloc (.cells #[.int .i64 k, .int .i64 fi, .int .i64 ca, .string t, .int .i64 inn] 72)).alloc (.cells #[.int .i64 k, .int .i64 fi, .int .i64 ca, .string t, .int .i64 inn] 72)) := ((Below.refl _ _).alloc (Nat.le_refl _) _).alloc (by simp) _
  have HB : Hid (Below w.heap.size w ((w.alloc (.cells #[.int .i64 k, .int .i64 fi, .int .i64 ca, .string t, .int .i64 inn] 72)).alloc (.cells #[.int .i64 k, .int .i64 fi, .int .i64 ca, .string t, .int .i64 inn] 72))) := hb
  clear hb
  cases hq : decide (inn = a) with
  | true =>
    go_enter Tryd.func66, Tryd.ntmps66
    go_wp2
    refine wp_loop_rounds 2 ?_
    rw [rounds_succ]
    go_wp2
    rw [rounds_succ]
    go_wp2
    go_ret
    exact ⟨rfl, HB.out⟩
  | false =>
    go_enter Tryd.func66, Tryd.ntmps66
    go_wp2
    refine wp_loop_rounds 2 ?_
    rw [rounds_succ]
    go_wp2
    rw [rounds_succ]
    go_wp2
    go_ret
    exact ⟨rfl, HB.out⟩

/-- Is, as the library's own walk of the chain comes to it. -/
theorem is_any (k fi ca inn a : Int) (t : ByteArray) (w : World) :
    Calls Tryd.prog 66 #[.iface 72 (fltV k fi ca inn t), .iface 73 (.int .i64 a), .bool true] w fun e w' => e = .returned (.bool (isB k inn a)) ∧ Below w.heap.size w w' := by
  by_cases h : a = k
  · subst h
    have : isB a inn a = true := by simp [isB]
    rw [this]
    exact is_hit _ _ _ _ _ _
  · have hk : decide (a = k) = false := by simp [h]
    have hk' : decide (k = a) = false := by simp; exact fun e => h e.symm
    by_cases h0 : inn = 0
    · subst h0
      have : isB k 0 a = false := by simp [isB, hk']
      rw [this]
      exact is_bare _ _ _ _ _ _ hk
    · have : isB k inn a = decide (inn = a) := by simp [isB, hk', h0]
      rw [this]
      exact is_inner _ _ _ _ _ _ _ hk (by simp [h0])

set_option maxRecDepth 1000000 in
theorem errorsIs_any (k fi ca inn a : Int) (t : ByteArray) (w : World) :
    Calls Tryd.prog 53 #[.iface 72 (fltV k fi ca inn t), .iface 73 (.int .i64 a)] w fun e w' => e = .returned (.bool (isB k inn a)) ∧ Below w.heap.size w w' := by
  have tT := isTypeOfCall
  have cT := isComparableCall
  have mR := isMethodComparable
  go_enter Tryd.func53, Tryd.ntmps53
  go_wp2_with (go_at_call 66; refine (is_any k fi ca inn a t _).mono ?_; rintro e w' ⟨rfl, hb⟩)
  go_ret
  exact ⟨rfl, hb⟩

set_option maxRecDepth 1000000 in
theorem faultIs_any (k fi ca inn a : Int) (t : ByteArray) (w : World) :
    Calls Tryd.prog 28 #[fltV k fi ca inn t, .int .i64 a] w fun e w' => e = .returned (.bool (isB k inn a)) ∧ Below w.heap.size w w' := by
  unfold fltV
  go_enter Tryd.func28, Tryd.ntmps28
  go_wp2_with (go_at_call 53; refine (errorsIs_any k fi ca inn a t _).mono ?_; rintro e w' ⟨rfl, hb⟩)
  go_ret
  exact ⟨rfl, ((Below.refl _ _).alloc (Nat.le_refl _) _).trans (hb.mono (by simp))⟩
end Go.Proofs.YtlkfkhpokkjkpaaDoor
