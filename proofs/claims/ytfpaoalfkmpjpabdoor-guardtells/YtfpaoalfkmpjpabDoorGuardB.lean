/- Walks of the library's errors.As at a fault as its target: over an error of errors.New (not found), over a fault (found, and set). -/
import Derived.Test.YtfpaoalfkmpjpabDoorGuardA
namespace Go.Proofs.YtfpaoalfkmpjpabDoor
open Go.RowKit Go.Extern.Stop Go.Stop Go.Extern

/-! Closed facts on the model's entries for internal/reflectlite: 37: *fault.Error · 35: fault.Error · 56: *errors.errorString · 32: error · 60: rtype. -/
theorem valueOf37 (t : Addr) (w : World) : (ReflectliteValue.unpack (.iface 37 (.pointer (some t)))).run Tryd.prog w
    = .ok (.agg #[.pointer (some ⟨4, 37, none⟩), .pointer (some ⟨w.heap.size, 0, none⟩), .int .u64 150]) (w.alloc (.cells #[.pointer (some t)] 37)) := by kernel_rfl
theorem type37 (a : Addr) (w : World) : (ReflectliteValue.methodAny (ReflectliteValue.valueError "reflectlite.Value.Type" 0) (fun t _ _ _ => ReflectliteType.toType t) #[.agg #[.pointer (some ⟨4, 37, none⟩), .pointer (some a), .int .u64 150]]).run Tryd.prog w
    = .ok (.iface 60 (.agg #[.pointer (some ⟨4, 37, none⟩)])) w := by kernel_rfl
theorem methodKind (h : Value) (w : World) : (Go.method 226 60 (.agg #[h]) "Kind").run Tryd.prog w = .ok (39, h) w := by kernel_rfl
theorem kind37 (w : World) : ((ReflectliteType.abiMethod fun t => (fun a : Nat => Value.int IntKind.u8 (a : Int)) <$> Rtype.kind t) #[.pointer (some ⟨4, 37, none⟩)]).run Tryd.prog w = .ok (.int .u8 22) w := by kernel_rfl
theorem kind35 (w : World) : ((ReflectliteType.abiMethod fun t => (fun a : Nat => Value.int IntKind.u8 (a : Int)) <$> Rtype.kind t) #[.pointer (some ⟨4, 35, none⟩)]).run Tryd.prog w = .ok (.int .u8 25) w := by kernel_rfl

/-! The entries that read or write memory. -/
theorem parts37 (a : Addr) (w : World) : (ReflectliteValue.parts (.agg #[.pointer (some ⟨4, 37, none⟩), .pointer (some a), .int .u64 150])).run Tryd.prog w = .ok (some (37, a, 150)) w := by kernel_rfl
/-- IsNil at the Value of a *fault.Error that is not nil. -/
theorem isNil37 (a p : Addr) (W : World) (ha : W.cell? a = some (.pointer (some p))) :
    (ReflectliteValue.method (ReflectliteValue.valueError "reflectlite.Value.IsNil" 0) ReflectliteValue.isNil #[.agg #[.pointer (some ⟨4, 37, none⟩), .pointer (some a), .int .u64 150]]).run Tryd.prog W = .ok (.bool false) W := by
  delta ReflectliteValue.method
  delta ReflectliteValue.method.match_2
  simp only [List.size_toArray, List.length_cons, List.length_nil, Nat.zero_add, ↓reduceDIte, Array.getLit, List.getElem_toArray, List.getElem_cons_zero]
  simp only [Sem.run_bind, parts37, Result.andThen]
  simp [ReflectliteValue.isNil, loadVar, isAgg, underlying, Tryd.underlying37, ha, Result.andThen]

theorem methodElem (h : Value) (w : World) : (Go.method 226 60 (.agg #[h]) "Elem").run Tryd.prog w = .ok (68, .agg #[h]) w := by kernel_rfl
theorem methodImplements (h : Value) (w : World) : (Go.method 226 60 (.agg #[h]) "Implements").run Tryd.prog w = .ok (69, .agg #[h]) w := by kernel_rfl
theorem methodAssignableTo (h : Value) (w : World) : (Go.method 226 60 (.agg #[h]) "AssignableTo").run Tryd.prog w = .ok (66, .agg #[h]) w := by kernel_rfl
theorem elem37 (w : World) : (ReflectliteType.method ReflectliteType.elem #[.agg #[.pointer (some ⟨4, 37, none⟩)]]).run Tryd.prog w = .ok (.iface 60 (.agg #[.pointer (some ⟨4, 35, none⟩)])) w := by kernel_rfl
theorem implements35 (w : World) : (ReflectliteType.relation "Implements" ReflectliteType.implements_ #[.agg #[.pointer (some ⟨4, 35, none⟩)], .iface 60 (.agg #[.pointer (some ⟨4, 32, none⟩)])]).run Tryd.prog w = .ok (.bool true) w := by kernel_rfl
theorem typeOf35 (v : Value) (w : World) : (ReflectliteType.typeOf #[.iface 35 v]).run Tryd.prog w = .ok (.iface 60 (.agg #[.pointer (some ⟨4, 35, none⟩)])) w := by kernel_rfl
theorem typeOf56 (v : Value) (w : World) : (ReflectliteType.typeOf #[.iface 56 v]).run Tryd.prog w = .ok (.iface 60 (.agg #[.pointer (some ⟨4, 56, none⟩)])) w := by kernel_rfl
theorem assignable35 (w : World) : (ReflectliteType.relation "AssignableTo" ReflectliteType.assignableTo #[.agg #[.pointer (some ⟨4, 35, none⟩)], .iface 60 (.agg #[.pointer (some ⟨4, 35, none⟩)])]).run Tryd.prog w = .ok (.bool true) w := by kernel_rfl
theorem assignable56 (w : World) : (ReflectliteType.relation "AssignableTo" ReflectliteType.assignableTo #[.agg #[.pointer (some ⟨4, 56, none⟩)], .iface 60 (.agg #[.pointer (some ⟨4, 35, none⟩)])]).run Tryd.prog w = .ok (.bool false) w := by kernel_rfl
theorem valueOf35 (k fi ca inn : Int) (s : ByteArray) (w : World) : (ReflectliteValue.unpack (.iface 35 (.agg #[.int .i64 k, .int .i64 fi, .int .i64 ca, .string s, .int .i64 inn]))).run Tryd.prog w
    = .ok (.agg #[.pointer (some ⟨4, 35, none⟩), .pointer (some ⟨w.heap.size, 0, none⟩), .int .u64 153]) (w.alloc (.cells #[.int .i64 k, .int .i64 fi, .int .i64 ca, .string s, .int .i64 inn] 35)) := by kernel_rfl

theorem elemOf37 (w : World) : (Rtype.elem? 37).run Tryd.prog w = .ok (some 35) w := by kernel_rfl
theorem mk35 (p : Addr) (w : World) : (ReflectliteValue.mk 35 p ReflectliteValue.flagAddr).run Tryd.prog w = .ok (.agg #[.pointer (some ⟨4, 35, none⟩), .pointer (some p), .int .u64 409]) w := by kernel_rfl
/-- Elem at the Value of a *fault.Error that is not nil: the variable that it points to, addressable. -/
theorem elemV37 (a p : Addr) (W : World) (ha : W.cell? a = some (.pointer (some p))) :
    (ReflectliteValue.method (ReflectliteValue.valueError "reflectlite.Value.Elem" 0) ReflectliteValue.elem #[.agg #[.pointer (some ⟨4, 37, none⟩), .pointer (some a), .int .u64 150]]).run Tryd.prog W
      = .ok (.agg #[.pointer (some ⟨4, 35, none⟩), .pointer (some p), .int .u64 409]) W := by
  delta ReflectliteValue.method
  delta ReflectliteValue.method.match_2
  simp only [List.size_toArray, List.length_cons, List.length_nil, Nat.zero_add, ↓reduceDIte, Array.getLit, List.getElem_toArray, List.getElem_cons_zero]
  simp only [Sem.run_bind, parts37, Result.andThen]
  simp [ReflectliteValue.elem, loadVar, isAgg, underlying, Tryd.underlying37, ha, Result.andThen, elemOf37, mk35]
theorem parts35a (a : Addr) (w : World) : (ReflectliteValue.parts (.agg #[.pointer (some ⟨4, 35, none⟩), .pointer (some a), .int .u64 409])).run Tryd.prog w = .ok (some (35, a, 409)) w := by kernel_rfl
theorem parts35 (a : Addr) (w : World) : (ReflectliteValue.parts (.agg #[.pointer (some ⟨4, 35, none⟩), .pointer (some a), .int .u64 153])).run Tryd.prog w = .ok (some (35, a, 153)) w := by kernel_rfl
theorem direct35 (w : World) : (Rtype.directlyAssignable 35 35).run Tryd.prog w = .ok true w := by kernel_rfl

/-- A fault, stored into a block of five cells. -/
def setF (W : World) (b : Nat) (k fi ca inn : Int) (s : ByteArray) : World :=
  ((((W.setCell ⟨b, 0, none⟩ (.int .i64 k)).setCell ⟨b, 1, none⟩ (.int .i64 fi)).setCell ⟨b, 2, none⟩ (.int .i64 ca)).setCell ⟨b, 3, none⟩ (.string s)).setCell ⟨b, 4, none⟩ (.int .i64 inn)

theorem load35 (b : Nat) (k fi ca inn : Int) (s : ByteArray) (W : World) (h0 : W.cell? ⟨b, 0, none⟩ = some (.int .i64 k)) (h1 : W.cell? ⟨b, 1, none⟩ = some (.int .i64 fi)) (h2 : W.cell? ⟨b, 2, none⟩ = some (.int .i64 ca)) (h3 : W.cell? ⟨b, 3, none⟩ = some (.string s)) (h4 : W.cell? ⟨b, 4, none⟩ = some (.int .i64 inn)) :
    (loadVar 35 ⟨b, 0, none⟩).run Tryd.prog W = .ok (.agg #[.int .i64 k, .int .i64 fi, .int .i64 ca, .string s, .int .i64 inn]) W := by
  simp [loadVar, isAgg, underlying, Tryd.underlying35, loadCells, loadCellsFrom, Addr.add, Result.andThen, h0, h1, h2, h3, h4]

/-- Set: the fault at the target gets what the Value's own variable holds. -/
theorem set35 (tb sb : Nat) (k fi ca inn : Int) (s : ByteArray) (W : World) (h0 : W.cell? ⟨sb, 0, none⟩ = some (.int .i64 k)) (h1 : W.cell? ⟨sb, 1, none⟩ = some (.int .i64 fi)) (h2 : W.cell? ⟨sb, 2, none⟩ = some (.int .i64 ca)) (h3 : W.cell? ⟨sb, 3, none⟩ = some (.string s)) (h4 : W.cell? ⟨sb, 4, none⟩ = some (.int .i64 inn))
    (c0 c1 c2 c3 c4 : Value) (t0 : W.cell? ⟨tb, 0, none⟩ = some c0) (t1 : W.cell? ⟨tb, 1, none⟩ = some c1) (t2 : W.cell? ⟨tb, 2, none⟩ = some c2) (t3 : W.cell? ⟨tb, 3, none⟩ = some c3) (t4 : W.cell? ⟨tb, 4, none⟩ = some c4)
    (f : ∀ j, W.frozen? ⟨tb, j, none⟩ = false) :
    (ReflectliteValue.set #[.agg #[.pointer (some ⟨4, 35, none⟩), .pointer (some ⟨tb, 0, none⟩), .int .u64 409], .agg #[.pointer (some ⟨4, 35, none⟩), .pointer (some ⟨sb, 0, none⟩), .int .u64 153]]).run Tryd.prog W
      = .ok (.tuple #[]) (setF W tb k fi ca inn s) := by
  delta ReflectliteValue.set
  delta ReflectliteValue.set.match_3
  simp only [List.size_toArray, List.length_cons, List.length_nil, Nat.zero_add, Nat.reduceAdd, ↓reduceDIte, Array.getLit, List.getElem_toArray, List.getElem_cons_zero, List.getElem_cons_succ]
  simp only [Sem.run_bind, parts35a, parts35, Result.andThen]
  simp [ReflectliteValue.flagAddr, load35 sb k fi ca inn s W h0 h1 h2 h3 h4, Result.andThen, direct35, storeVar, Value.cells]
  simp [storeCells, Addr.add, setF, go_sem, t0, t1, t2, t3, t4, f]
end Go.Proofs.YtfpaoalfkmpjpabDoor
