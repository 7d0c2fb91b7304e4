/- Package sieve: what is wrong with a filter; package caps: what its value can. -/
import Derived.Test.YtbpmcabeghbalaaSvC
import Derived.Stop.Asserts
import Derived.Shelf.Abstract
namespace Go.Proofs.Ytbpmcabeghbalaa
open Go.RowKit

theorem asAsk70 (v : Value) (w : World) : (Instr.typeAssert (.iface 73 v) 59 62 true).run Try.prog w = .ok (.tuple #[.iface 73 v, .bool true]) w := run_typeAssert_hasB Try.underlying62 (by kernel_rfl) v 59 w
theorem asAnswer70 (v : Value) (w : World) : (Instr.typeAssert (.iface 73 v) 59 65 true).run Try.prog w = .ok (.tuple #[.nilIface, .bool false]) w := run_typeAssert_lacksB Try.underlying65 (by kernel_rfl) (by kernel_rfl) v 59 w
theorem asClose70 (v : Value) (w : World) : (Instr.typeAssert (.iface 73 v) 59 68 true).run Try.prog w = .ok (.tuple #[.nilIface, .bool false]) w := run_typeAssert_lacksB Try.underlying68 (by kernel_rfl) (by kernel_rfl) v 59 w
theorem asAsk71 (v : Value) (w : World) : (Instr.typeAssert (.iface 74 v) 59 62 true).run Try.prog w = .ok (.tuple #[.nilIface, .bool false]) w := run_typeAssert_lacksB Try.underlying62 (by kernel_rfl) (by kernel_rfl) v 59 w
theorem asAnswer71 (v : Value) (w : World) : (Instr.typeAssert (.iface 74 v) 59 65 true).run Try.prog w = .ok (.tuple #[.iface 74 v, .bool true]) w := run_typeAssert_hasB Try.underlying65 (by kernel_rfl) v 59 w
theorem asClose71 (v : Value) (w : World) : (Instr.typeAssert (.iface 74 v) 59 68 true).run Try.prog w = .ok (.tuple #[.nilIface, .bool false]) w := run_typeAssert_lacksB Try.underlying68 (by kernel_rfl) (by kernel_rfl) v 59 w
theorem asAsk72 (v : Value) (w : World) : (Instr.typeAssert (.iface 75 v) 59 62 true).run Try.prog w = .ok (.tuple #[.iface 75 v, .bool true]) w := run_typeAssert_hasB Try.underlying62 (by kernel_rfl) v 59 w
theorem asAnswer72 (v : Value) (w : World) : (Instr.typeAssert (.iface 75 v) 59 65 true).run Try.prog w = .ok (.tuple #[.nilIface, .bool false]) w := run_typeAssert_lacksB Try.underlying65 (by kernel_rfl) (by kernel_rfl) v 59 w
theorem asClose72 (v : Value) (w : World) : (Instr.typeAssert (.iface 75 v) 59 68 true).run Try.prog w = .ok (.tuple #[.nilIface, .bool false]) w := run_typeAssert_lacksB Try.underlying68 (by kernel_rfl) (by kernel_rfl) v 59 w
theorem asAsk76 (v : Value) (w : World) : (Instr.typeAssert (.iface 79 v) 59 62 true).run Try.prog w = .ok (.tuple #[.iface 79 v, .bool true]) w := run_typeAssert_hasB Try.underlying62 (by kernel_rfl) v 59 w
theorem asAnswer76 (v : Value) (w : World) : (Instr.typeAssert (.iface 79 v) 59 65 true).run Try.prog w = .ok (.tuple #[.nilIface, .bool false]) w := run_typeAssert_lacksB Try.underlying65 (by kernel_rfl) (by kernel_rfl) v 59 w
theorem asClose76 (v : Value) (w : World) : (Instr.typeAssert (.iface 79 v) 59 68 true).run Try.prog w = .ok (.tuple #[.nilIface, .bool false]) w := run_typeAssert_lacksB Try.underlying68 (by kernel_rfl) (by kernel_rfl) v 59 w
theorem asAsk77 (v : Value) (w : World) : (Instr.typeAssert (.iface 80 v) 59 62 true).run Try.prog w = .ok (.tuple #[.iface 80 v, .bool true]) w := run_typeAssert_hasB Try.underlying62 (by kernel_rfl) v 59 w
theorem asAnswer77 (v : Value) (w : World) : (Instr.typeAssert (.iface 80 v) 59 65 true).run Try.prog w = .ok (.tuple #[.nilIface, .bool false]) w := run_typeAssert_lacksB Try.underlying65 (by kernel_rfl) (by kernel_rfl) v 59 w
theorem asClose77 (v : Value) (w : World) : (Instr.typeAssert (.iface 80 v) 59 68 true).run Try.prog w = .ok (.tuple #[.nilIface, .bool false]) w := run_typeAssert_lacksB Try.underlying68 (by kernel_rfl) (by kernel_rfl) v 59 w
theorem asAsk78 (v : Value) (w : World) : (Instr.typeAssert (.iface 81 v) 59 62 true).run Try.prog w = .ok (.tuple #[.nilIface, .bool false]) w := run_typeAssert_lacksB Try.underlying62 (by kernel_rfl) (by kernel_rfl) v 59 w
theorem asAnswer78 (v : Value) (w : World) : (Instr.typeAssert (.iface 81 v) 59 65 true).run Try.prog w = .ok (.tuple #[.iface 81 v, .bool true]) w := run_typeAssert_hasB Try.underlying65 (by kernel_rfl) v 59 w
theorem asClose78 (v : Value) (w : World) : (Instr.typeAssert (.iface 81 v) 59 68 true).run Try.prog w = .ok (.tuple #[.nilIface, .bool false]) w := run_typeAssert_lacksB Try.underlying68 (by kernel_rfl) (by kernel_rfl) v 59 w
theorem asAsk81 (v : Value) (w : World) : (Instr.typeAssert (.iface 84 v) 59 62 true).run Try.prog w = .ok (.tuple #[.nilIface, .bool false]) w := run_typeAssert_lacksB Try.underlying62 (by kernel_rfl) (by kernel_rfl) v 59 w
theorem asAnswer81 (v : Value) (w : World) : (Instr.typeAssert (.iface 84 v) 59 65 true).run Try.prog w = .ok (.tuple #[.nilIface, .bool false]) w := run_typeAssert_lacksB Try.underlying65 (by kernel_rfl) (by kernel_rfl) v 59 w
theorem asClose81 (v : Value) (w : World) : (Instr.typeAssert (.iface 84 v) 59 68 true).run Try.prog w = .ok (.tuple #[.nilIface, .bool false]) w := run_typeAssert_lacksB Try.underlying68 (by kernel_rfl) (by kernel_rfl) v 59 w
theorem asAsk86 (v : Value) (w : World) : (Instr.typeAssert (.iface 87 v) 59 62 true).run Try.prog w = .ok (.tuple #[.iface 87 v, .bool true]) w := run_typeAssert_hasB Try.underlying62 (by kernel_rfl) v 59 w
theorem asAnswer86 (v : Value) (w : World) : (Instr.typeAssert (.iface 87 v) 59 65 true).run Try.prog w = .ok (.tuple #[.nilIface, .bool false]) w := run_typeAssert_lacksB Try.underlying65 (by kernel_rfl) (by kernel_rfl) v 59 w
theorem asClose86 (v : Value) (w : World) : (Instr.typeAssert (.iface 87 v) 59 68 true).run Try.prog w = .ok (.tuple #[.nilIface, .bool false]) w := run_typeAssert_lacksB Try.underlying68 (by kernel_rfl) (by kernel_rfl) v 59 w
theorem asAsk89 (v : Value) (w : World) : (Instr.typeAssert (.iface 90 v) 59 62 true).run Try.prog w = .ok (.tuple #[.nilIface, .bool false]) w := run_typeAssert_lacksB Try.underlying62 (by kernel_rfl) (by kernel_rfl) v 59 w
theorem asAnswer89 (v : Value) (w : World) : (Instr.typeAssert (.iface 90 v) 59 65 true).run Try.prog w = .ok (.tuple #[.iface 90 v, .bool true]) w := run_typeAssert_hasB Try.underlying65 (by kernel_rfl) v 59 w
theorem asClose89 (v : Value) (w : World) : (Instr.typeAssert (.iface 90 v) 59 68 true).run Try.prog w = .ok (.tuple #[.nilIface, .bool false]) w := run_typeAssert_lacksB Try.underlying68 (by kernel_rfl) (by kernel_rfl) v 59 w
theorem asAsk91 (v : Value) (w : World) : (Instr.typeAssert (.iface 92 v) 59 62 true).run Try.prog w = .ok (.tuple #[.iface 92 v, .bool true]) w := run_typeAssert_hasB Try.underlying62 (by kernel_rfl) v 59 w
theorem asAnswer91 (v : Value) (w : World) : (Instr.typeAssert (.iface 92 v) 59 65 true).run Try.prog w = .ok (.tuple #[.iface 92 v, .bool true]) w := run_typeAssert_hasB Try.underlying65 (by kernel_rfl) v 59 w
theorem asClose91 (v : Value) (w : World) : (Instr.typeAssert (.iface 92 v) 59 68 true).run Try.prog w = .ok (.tuple #[.nilIface, .bool false]) w := run_typeAssert_lacksB Try.underlying68 (by kernel_rfl) (by kernel_rfl) v 59 w
theorem asAsk94 (v : Value) (w : World) : (Instr.typeAssert (.iface 95 v) 59 62 true).run Try.prog w = .ok (.tuple #[.nilIface, .bool false]) w := run_typeAssert_lacksB Try.underlying62 (by kernel_rfl) (by kernel_rfl) v 59 w
theorem asAnswer94 (v : Value) (w : World) : (Instr.typeAssert (.iface 95 v) 59 65 true).run Try.prog w = .ok (.tuple #[.nilIface, .bool false]) w := run_typeAssert_lacksB Try.underlying65 (by kernel_rfl) (by kernel_rfl) v 59 w
theorem asClose94 (v : Value) (w : World) : (Instr.typeAssert (.iface 95 v) 59 68 true).run Try.prog w = .ok (.tuple #[.iface 95 v, .bool true]) w := run_typeAssert_hasB Try.underlying68 (by kernel_rfl) v 59 w
theorem asAsk96 (v : Value) (w : World) : (Instr.typeAssert (.iface 97 v) 59 62 true).run Try.prog w = .ok (.tuple #[.iface 97 v, .bool true]) w := run_typeAssert_hasB Try.underlying62 (by kernel_rfl) v 59 w
theorem asAnswer96 (v : Value) (w : World) : (Instr.typeAssert (.iface 97 v) 59 65 true).run Try.prog w = .ok (.tuple #[.nilIface, .bool false]) w := run_typeAssert_lacksB Try.underlying65 (by kernel_rfl) (by kernel_rfl) v 59 w
theorem asClose96 (v : Value) (w : World) : (Instr.typeAssert (.iface 97 v) 59 68 true).run Try.prog w = .ok (.tuple #[.iface 97 v, .bool true]) w := run_typeAssert_hasB Try.underlying68 (by kernel_rfl) v 59 w
theorem asAsk98 (v : Value) (w : World) : (Instr.typeAssert (.iface 99 v) 59 62 true).run Try.prog w = .ok (.tuple #[.nilIface, .bool false]) w := run_typeAssert_lacksB Try.underlying62 (by kernel_rfl) (by kernel_rfl) v 59 w
theorem asAnswer98 (v : Value) (w : World) : (Instr.typeAssert (.iface 99 v) 59 65 true).run Try.prog w = .ok (.tuple #[.iface 99 v, .bool true]) w := run_typeAssert_hasB Try.underlying65 (by kernel_rfl) v 59 w
theorem asClose98 (v : Value) (w : World) : (Instr.typeAssert (.iface 99 v) 59 68 true).run Try.prog w = .ok (.tuple #[.iface 99 v, .bool true]) w := run_typeAssert_hasB Try.underlying68 (by kernel_rfl) v 59 w
theorem asAsk100 (v : Value) (w : World) : (Instr.typeAssert (.iface 101 v) 59 62 true).run Try.prog w = .ok (.tuple #[.iface 101 v, .bool true]) w := run_typeAssert_hasB Try.underlying62 (by kernel_rfl) v 59 w
theorem asAnswer100 (v : Value) (w : World) : (Instr.typeAssert (.iface 101 v) 59 65 true).run Try.prog w = .ok (.tuple #[.iface 101 v, .bool true]) w := run_typeAssert_hasB Try.underlying65 (by kernel_rfl) v 59 w
theorem asClose100 (v : Value) (w : World) : (Instr.typeAssert (.iface 101 v) 59 68 true).run Try.prog w = .ok (.tuple #[.iface 101 v, .bool true]) w := run_typeAssert_hasB Try.underlying68 (by kernel_rfl) v 59 w
theorem asAsk101 (v : Value) (w : World) : (Instr.typeAssert (.iface 102 v) 59 62 true).run Try.prog w = .ok (.tuple #[.nilIface, .bool false]) w := run_typeAssert_lacksB Try.underlying62 (by kernel_rfl) (by kernel_rfl) v 59 w
theorem asAnswer101 (v : Value) (w : World) : (Instr.typeAssert (.iface 102 v) 59 65 true).run Try.prog w = .ok (.tuple #[.nilIface, .bool false]) w := run_typeAssert_lacksB Try.underlying65 (by kernel_rfl) (by kernel_rfl) v 59 w
theorem asClose101 (v : Value) (w : World) : (Instr.typeAssert (.iface 102 v) 59 68 true).run Try.prog w = .ok (.tuple #[.nilIface, .bool false]) w := run_typeAssert_lacksB Try.underlying68 (by kernel_rfl) (by kernel_rfl) v 59 w

theorem wildT_cases (x : Int) : wildT x = 87 ∨ wildT x = 90 ∨ wildT x = 92 ∨ wildT x = 95 ∨ wildT x = 97 ∨ wildT x = 99 ∨ wildT x = 101 ∨ wildT x = 102 := by
  unfold wildT
  repeat' split
  all_goals simp

/-- What is wrong with a filter. -/
def sieveE (k n : Int) (key text : ByteArray) : Int :=
  if k = 1 ∨ k = 2 ∨ k = 3 then namedE key text else if k = 4 then countE n 40 else if k = 5 ∨ k = 6 then countE n 4 else if k = 7 then countE n 7 else 1

/-! What a filter's value can. -/
def has3 (a b c : Bool) : Int := (if a then 1 else 0) + (if b then 2 else 0) + (if c then 4 else 0)
def gotB (T : TypeId) (x : Value) (b : Bool) : Value := if b then .iface T x else .nilIface

set_option maxHeartbeats 1000000 in
theorem of_has (k n : Int) (key text : ByteArray) (T : TypeId) (x : Value) (a b c : Bool) (w : World) (hv : fltV k n key text = .iface T x)
    (ha : ∀ w, (Instr.typeAssert (.iface T x) 59 62 true).run Try.prog w = .ok (.tuple #[gotB T x a, .bool a]) w)
    (hb : ∀ w, (Instr.typeAssert (.iface T x) 59 65 true).run Try.prog w = .ok (.tuple #[gotB T x b, .bool b]) w)
    (hc : ∀ w, (Instr.typeAssert (.iface T x) 59 68 true).run Try.prog w = .ok (.tuple #[gotB T x c, .bool c]) w) :
    Calls Try.prog 18 #[.agg #[.int .i64 k, .int .i64 n, .string key, .string text]] w fun e w' => e = .returned (.int .i64 (has3 a b c)) ∧ Below w.heap.size w w' := by
  have HV : Hid (fltV k n key text = .iface T x) := hv
  clear hv
  have o1 : bits .or .i64 0 1 = 1 := by decide
  have o2 : bits .or .i64 0 2 = 2 := by decide
  have o3 : bits .or .i64 1 2 = 3 := by decide
  have o4 : bits .or .i64 0 4 = 4 := by decide
  have o5 : bits .or .i64 1 4 = 5 := by decide
  have o6 : bits .or .i64 2 4 = 6 := by decide
  have o7 : bits .or .i64 3 4 = 7 := by decide
  cases a <;> cases b <;> cases c
  all_goals
    simp only [gotB, if_true, if_false, Bool.false_eq_true] at ha hb hc
    go_enter Try.func18, Try.ntmps18
    go_wp2_with fail
    refine (new_any k n key text _).mono ?_
    rintro e w0 ⟨rfl, b0⟩
    rw [HV.out]
    have B0 : Hid (Below w.heap.size w w0) := ((Below.refl _ _).alloc (Nat.le_refl _) _).trans (b0.mono (by simp))
    clear b0
    go_wp2
    go_ret
    exact ⟨by simp [has3], B0.out⟩

/-- What a filter can: bits. -/
def canI (k n : Int) : Int := if k = 7 then bits .and .i64 n 7 else if k = 1 ∨ k = 3 ∨ k = 4 ∨ k = 5 then 1 else if k = 2 ∨ k = 6 then 2 else 0

theorem capsOf_any (k n : Int) (key text : ByteArray) (w : World) (hn : 0 ≤ bits .and .i64 n 7 ∧ bits .and .i64 n 7 ≤ 7) :
    Calls Try.prog 18 #[.agg #[.int .i64 k, .int .i64 n, .string key, .string text]] w fun e w' => e = .returned (.int .i64 (canI k n)) ∧ Below w.heap.size w w' := by
  rcases kind_cases k with rfl | rfl | rfl | rfl | rfl | rfl | rfl | h
  · exact of_has 1 n key text 73 _ true false false w rfl (asAsk70 _) (asAnswer70 _) (asClose70 _)
  · exact of_has 2 n key text 74 _ false true false w rfl (asAsk71 _) (asAnswer71 _) (asClose71 _)
  · exact of_has 3 n key text 75 _ true false false w rfl (asAsk72 _) (asAnswer72 _) (asClose72 _)
  · exact of_has 4 n key text 79 _ true false false w rfl (asAsk76 _) (asAnswer76 _) (asClose76 _)
  · exact of_has 5 n key text 80 _ true false false w rfl (asAsk77 _) (asAnswer77 _) (asClose77 _)
  · exact of_has 6 n key text 81 _ false true false w rfl (asAsk78 _) (asAnswer78 _) (asClose78 _)
  · have hv : fltV 7 n key text = .iface (wildT (bits .and .i64 n 7)) (.agg #[.int .i64 n, .int .i64 7]) := rfl
    have hc : canI 7 n = bits .and .i64 n 7 := rfl
    rw [hc]
    generalize bits .and .i64 n 7 = x at hn hv
    obtain rfl | rfl | rfl | rfl | rfl | rfl | rfl | rfl : x = 1 ∨ x = 2 ∨ x = 3 ∨ x = 4 ∨ x = 5 ∨ x = 6 ∨ x = 7 ∨ x = 0 := by omega
    · exact of_has 7 n key text 87 _ true false false w hv (asAsk86 _) (asAnswer86 _) (asClose86 _)
    · exact of_has 7 n key text 90 _ false true false w hv (asAsk89 _) (asAnswer89 _) (asClose89 _)
    · exact of_has 7 n key text 92 _ true true false w hv (asAsk91 _) (asAnswer91 _) (asClose91 _)
    · exact of_has 7 n key text 95 _ false false true w hv (asAsk94 _) (asAnswer94 _) (asClose94 _)
    · exact of_has 7 n key text 97 _ true false true w hv (asAsk96 _) (asAnswer96 _) (asClose96 _)
    · exact of_has 7 n key text 99 _ false true true w hv (asAsk98 _) (asAnswer98 _) (asClose98 _)
    · exact of_has 7 n key text 101 _ true true true w hv (asAsk100 _) (asAnswer100 _) (asClose100 _)
    · exact of_has 7 n key text 102 _ false false false w hv (asAsk101 _) (asAnswer101 _) (asClose101 _)
  · obtain ⟨h1, h2, h3, h4, h5, h6, h7⟩ := h
    have e : canI k n = 0 := by simp [canI, h1, h2, h3, h4, h5, h6, h7]
    rw [e]
    exact of_has k n key text 84 _ false false false w (by simp [fltV, h1, h2, h3, h4, h5, h6, h7]; rfl) (asAsk81 _) (asAnswer81 _) (asClose81 _)
end Go.Proofs.Ytbpmcabeghbalaa
