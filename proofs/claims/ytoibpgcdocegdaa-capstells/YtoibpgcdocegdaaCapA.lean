/- Package sieve: what is wrong with a filter; package caps: what its value can. -/
import Derived.Test.YtoibpgcdocegdaaSvC
import Derived.Stop.Asserts
import Derived.Shelf.Abstract
namespace Go.Proofs.Ytoibpgcdocegdaa
open Go.RowKit

theorem asAsk70 (v : Value) (w : World) : (Instr.typeAssert (.iface 70 v) 51 54 true).run Try.prog w = .ok (.tuple #[.iface 70 v, .bool true]) w := run_typeAssert_hasB Try.underlying54 (by kernel_rfl) v 51 w
theorem asAnswer70 (v : Value) (w : World) : (Instr.typeAssert (.iface 70 v) 51 57 true).run Try.prog w = .ok (.tuple #[.nilIface, .bool false]) w := run_typeAssert_lacksB Try.underlying57 (by kernel_rfl) (by kernel_rfl) v 51 w
theorem asClose70 (v : Value) (w : World) : (Instr.typeAssert (.iface 70 v) 51 60 true).run Try.prog w = .ok (.tuple #[.nilIface, .bool false]) w := run_typeAssert_lacksB Try.underlying60 (by kernel_rfl) (by kernel_rfl) v 51 w
theorem asAsk71 (v : Value) (w : World) : (Instr.typeAssert (.iface 71 v) 51 54 true).run Try.prog w = .ok (.tuple #[.nilIface, .bool false]) w := run_typeAssert_lacksB Try.underlying54 (by kernel_rfl) (by kernel_rfl) v 51 w
theorem asAnswer71 (v : Value) (w : World) : (Instr.typeAssert (.iface 71 v) 51 57 true).run Try.prog w = .ok (.tuple #[.iface 71 v, .bool true]) w := run_typeAssert_hasB Try.underlying57 (by kernel_rfl) v 51 w
theorem asClose71 (v : Value) (w : World) : (Instr.typeAssert (.iface 71 v) 51 60 true).run Try.prog w = .ok (.tuple #[.nilIface, .bool false]) w := run_typeAssert_lacksB Try.underlying60 (by kernel_rfl) (by kernel_rfl) v 51 w
theorem asAsk72 (v : Value) (w : World) : (Instr.typeAssert (.iface 72 v) 51 54 true).run Try.prog w = .ok (.tuple #[.iface 72 v, .bool true]) w := run_typeAssert_hasB Try.underlying54 (by kernel_rfl) v 51 w
theorem asAnswer72 (v : Value) (w : World) : (Instr.typeAssert (.iface 72 v) 51 57 true).run Try.prog w = .ok (.tuple #[.nilIface, .bool false]) w := run_typeAssert_lacksB Try.underlying57 (by kernel_rfl) (by kernel_rfl) v 51 w
theorem asClose72 (v : Value) (w : World) : (Instr.typeAssert (.iface 72 v) 51 60 true).run Try.prog w = .ok (.tuple #[.nilIface, .bool false]) w := run_typeAssert_lacksB Try.underlying60 (by kernel_rfl) (by kernel_rfl) v 51 w
theorem asAsk76 (v : Value) (w : World) : (Instr.typeAssert (.iface 76 v) 51 54 true).run Try.prog w = .ok (.tuple #[.iface 76 v, .bool true]) w := run_typeAssert_hasB Try.underlying54 (by kernel_rfl) v 51 w
theorem asAnswer76 (v : Value) (w : World) : (Instr.typeAssert (.iface 76 v) 51 57 true).run Try.prog w = .ok (.tuple #[.nilIface, .bool false]) w := run_typeAssert_lacksB Try.underlying57 (by kernel_rfl) (by kernel_rfl) v 51 w
theorem asClose76 (v : Value) (w : World) : (Instr.typeAssert (.iface 76 v) 51 60 true).run Try.prog w = .ok (.tuple #[.nilIface, .bool false]) w := run_typeAssert_lacksB Try.underlying60 (by kernel_rfl) (by kernel_rfl) v 51 w
theorem asAsk77 (v : Value) (w : World) : (Instr.typeAssert (.iface 77 v) 51 54 true).run Try.prog w = .ok (.tuple #[.iface 77 v, .bool true]) w := run_typeAssert_hasB Try.underlying54 (by kernel_rfl) v 51 w
theorem asAnswer77 (v : Value) (w : World) : (Instr.typeAssert (.iface 77 v) 51 57 true).run Try.prog w = .ok (.tuple #[.nilIface, .bool false]) w := run_typeAssert_lacksB Try.underlying57 (by kernel_rfl) (by kernel_rfl) v 51 w
theorem asClose77 (v : Value) (w : World) : (Instr.typeAssert (.iface 77 v) 51 60 true).run Try.prog w = .ok (.tuple #[.nilIface, .bool false]) w := run_typeAssert_lacksB Try.underlying60 (by kernel_rfl) (by kernel_rfl) v 51 w
theorem asAsk78 (v : Value) (w : World) : (Instr.typeAssert (.iface 78 v) 51 54 true).run Try.prog w = .ok (.tuple #[.nilIface, .bool false]) w := run_typeAssert_lacksB Try.underlying54 (by kernel_rfl) (by kernel_rfl) v 51 w
theorem asAnswer78 (v : Value) (w : World) : (Instr.typeAssert (.iface 78 v) 51 57 true).run Try.prog w = .ok (.tuple #[.iface 78 v, .bool true]) w := run_typeAssert_hasB Try.underlying57 (by kernel_rfl) v 51 w
theorem asClose78 (v : Value) (w : World) : (Instr.typeAssert (.iface 78 v) 51 60 true).run Try.prog w = .ok (.tuple #[.nilIface, .bool false]) w := run_typeAssert_lacksB Try.underlying60 (by kernel_rfl) (by kernel_rfl) v 51 w
theorem asAsk81 (v : Value) (w : World) : (Instr.typeAssert (.iface 81 v) 51 54 true).run Try.prog w = .ok (.tuple #[.nilIface, .bool false]) w := run_typeAssert_lacksB Try.underlying54 (by kernel_rfl) (by kernel_rfl) v 51 w
theorem asAnswer81 (v : Value) (w : World) : (Instr.typeAssert (.iface 81 v) 51 57 true).run Try.prog w = .ok (.tuple #[.nilIface, .bool false]) w := run_typeAssert_lacksB Try.underlying57 (by kernel_rfl) (by kernel_rfl) v 51 w
theorem asClose81 (v : Value) (w : World) : (Instr.typeAssert (.iface 81 v) 51 60 true).run Try.prog w = .ok (.tuple #[.nilIface, .bool false]) w := run_typeAssert_lacksB Try.underlying60 (by kernel_rfl) (by kernel_rfl) v 51 w
theorem asAsk86 (v : Value) (w : World) : (Instr.typeAssert (.iface 86 v) 51 54 true).run Try.prog w = .ok (.tuple #[.iface 86 v, .bool true]) w := run_typeAssert_hasB Try.underlying54 (by kernel_rfl) v 51 w
theorem asAnswer86 (v : Value) (w : World) : (Instr.typeAssert (.iface 86 v) 51 57 true).run Try.prog w = .ok (.tuple #[.nilIface, .bool false]) w := run_typeAssert_lacksB Try.underlying57 (by kernel_rfl) (by kernel_rfl) v 51 w
theorem asClose86 (v : Value) (w : World) : (Instr.typeAssert (.iface 86 v) 51 60 true).run Try.prog w = .ok (.tuple #[.nilIface, .bool false]) w := run_typeAssert_lacksB Try.underlying60 (by kernel_rfl) (by kernel_rfl) v 51 w
theorem asAsk89 (v : Value) (w : World) : (Instr.typeAssert (.iface 89 v) 51 54 true).run Try.prog w = .ok (.tuple #[.nilIface, .bool false]) w := run_typeAssert_lacksB Try.underlying54 (by kernel_rfl) (by kernel_rfl) v 51 w
theorem asAnswer89 (v : Value) (w : World) : (Instr.typeAssert (.iface 89 v) 51 57 true).run Try.prog w = .ok (.tuple #[.iface 89 v, .bool true]) w := run_typeAssert_hasB Try.underlying57 (by kernel_rfl) v 51 w
theorem asClose89 (v : Value) (w : World) : (Instr.typeAssert (.iface 89 v) 51 60 true).run Try.prog w = .ok (.tuple #[.nilIface, .bool false]) w := run_typeAssert_lacksB Try.underlying60 (by kernel_rfl) (by kernel_rfl) v 51 w
theorem asAsk91 (v : Value) (w : World) : (Instr.typeAssert (.iface 91 v) 51 54 true).run Try.prog w = .ok (.tuple #[.iface 91 v, .bool true]) w := run_typeAssert_hasB Try.underlying54 (by kernel_rfl) v 51 w
theorem asAnswer91 (v : Value) (w : World) : (Instr.typeAssert (.iface 91 v) 51 57 true).run Try.prog w = .ok (.tuple #[.iface 91 v, .bool true]) w := run_typeAssert_hasB Try.underlying57 (by kernel_rfl) v 51 w
theorem asClose91 (v : Value) (w : World) : (Instr.typeAssert (.iface 91 v) 51 60 true).run Try.prog w = .ok (.tuple #[.nilIface, .bool false]) w := run_typeAssert_lacksB Try.underlying60 (by kernel_rfl) (by kernel_rfl) v 51 w
theorem asAsk94 (v : Value) (w : World) : (Instr.typeAssert (.iface 94 v) 51 54 true).run Try.prog w = .ok (.tuple #[.nilIface, .bool false]) w := run_typeAssert_lacksB Try.underlying54 (by kernel_rfl) (by kernel_rfl) v 51 w
theorem asAnswer94 (v : Value) (w : World) : (Instr.typeAssert (.iface 94 v) 51 57 true).run Try.prog w = .ok (.tuple #[.nilIface, .bool false]) w := run_typeAssert_lacksB Try.underlying57 (by kernel_rfl) (by kernel_rfl) v 51 w
theorem asClose94 (v : Value) (w : World) : (Instr.typeAssert (.iface 94 v) 51 60 true).run Try.prog w = .ok (.tuple #[.iface 94 v, .bool true]) w := run_typeAssert_hasB Try.underlying60 (by kernel_rfl) v 51 w
theorem asAsk96 (v : Value) (w : World) : (Instr.typeAssert (.iface 96 v) 51 54 true).run Try.prog w = .ok (.tuple #[.iface 96 v, .bool true]) w := run_typeAssert_hasB Try.underlying54 (by kernel_rfl) v 51 w
theorem asAnswer96 (v : Value) (w : World) : (Instr.typeAssert (.iface 96 v) 51 57 true).run Try.prog w = .ok (.tuple #[.nilIface, .bool false]) w := run_typeAssert_lacksB Try.underlying57 (by kernel_rfl) (by kernel_rfl) v 51 w
theorem asClose96 (v : Value) (w : World) : (Instr.typeAssert (.iface 96 v) 51 60 true).run Try.prog w = .ok (.tuple #[.iface 96 v, .bool true]) w := run_typeAssert_hasB Try.underlying60 (by kernel_rfl) v 51 w
theorem asAsk98 (v : Value) (w : World) : (Instr.typeAssert (.iface 98 v) 51 54 true).run Try.prog w = .ok (.tuple #[.nilIface, .bool false]) w := run_typeAssert_lacksB Try.underlying54 (by kernel_rfl) (by kernel_rfl) v 51 w
theorem asAnswer98 (v : Value) (w : World) : (Instr.typeAssert (.iface 98 v) 51 57 true).run Try.prog w = .ok (.tuple #[.iface 98 v, .bool true]) w := run_typeAssert_hasB Try.underlying57 (by kernel_rfl) v 51 w
theorem asClose98 (v : Value) (w : World) : (Instr.typeAssert (.iface 98 v) 51 60 true).run Try.prog w = .ok (.tuple #[.iface 98 v, .bool true]) w := run_typeAssert_hasB Try.underlying60 (by kernel_rfl) v 51 w
theorem asAsk100 (v : Value) (w : World) : (Instr.typeAssert (.iface 100 v) 51 54 true).run Try.prog w = .ok (.tuple #[.iface 100 v, .bool true]) w := run_typeAssert_hasB Try.underlying54 (by kernel_rfl) v 51 w
theorem asAnswer100 (v : Value) (w : World) : (Instr.typeAssert (.iface 100 v) 51 57 true).run Try.prog w = .ok (.tuple #[.iface 100 v, .bool true]) w := run_typeAssert_hasB Try.underlying57 (by kernel_rfl) v 51 w
theorem asClose100 (v : Value) (w : World) : (Instr.typeAssert (.iface 100 v) 51 60 true).run Try.prog w = .ok (.tuple #[.iface 100 v, .bool true]) w := run_typeAssert_hasB Try.underlying60 (by kernel_rfl) v 51 w
theorem asAsk101 (v : Value) (w : World) : (Instr.typeAssert (.iface 101 v) 51 54 true).run Try.prog w = .ok (.tuple #[.nilIface, .bool false]) w := run_typeAssert_lacksB Try.underlying54 (by kernel_rfl) (by kernel_rfl) v 51 w
theorem asAnswer101 (v : Value) (w : World) : (Instr.typeAssert (.iface 101 v) 51 57 true).run Try.prog w = .ok (.tuple #[.nilIface, .bool false]) w := run_typeAssert_lacksB Try.underlying57 (by kernel_rfl) (by kernel_rfl) v 51 w
theorem asClose101 (v : Value) (w : World) : (Instr.typeAssert (.iface 101 v) 51 60 true).run Try.prog w = .ok (.tuple #[.nilIface, .bool false]) w := run_typeAssert_lacksB Try.underlying60 (by kernel_rfl) (by kernel_rfl) v 51 w
theorem methWrong70 (key text : ByteArray) (w : World) : (Go.method 228 70 (.agg #[.string key, .string text]) "Wrong").run Try.prog w = .ok (43, .agg #[.string key, .string text]) w := by kernel_rfl
theorem methWrong71 (key text : ByteArray) (w : World) : (Go.method 228 71 (.agg #[.string key, .string text]) "Wrong").run Try.prog w = .ok (43, .agg #[.string key, .string text]) w := by kernel_rfl
theorem methWrong72 (key text : ByteArray) (w : World) : (Go.method 228 72 (.agg #[.string key, .string text]) "Wrong").run Try.prog w = .ok (43, .agg #[.string key, .string text]) w := by kernel_rfl
theorem methWrong81 (w : World) : (Go.method 228 81 (.agg #[]) "Wrong").run Try.prog w = .ok (56, .agg #[]) w := by kernel_rfl
theorem methWrong76 (n most : Int) (w : World) : (Go.method 228 76 (.agg #[.int .i64 n, .int .i64 most]) "Wrong").run Try.prog w = .ok (52, .agg #[.int .i64 n, .int .i64 most]) w := by kernel_rfl
theorem methWrong77 (n most : Int) (w : World) : (Go.method 228 77 (.agg #[.int .i64 n, .int .i64 most]) "Wrong").run Try.prog w = .ok (52, .agg #[.int .i64 n, .int .i64 most]) w := by kernel_rfl
theorem methWrong78 (n most : Int) (w : World) : (Go.method 228 78 (.agg #[.int .i64 n, .int .i64 most]) "Wrong").run Try.prog w = .ok (52, .agg #[.int .i64 n, .int .i64 most]) w := by kernel_rfl
theorem methWrong86 (n most : Int) (w : World) : (Go.method 228 86 (.agg #[.int .i64 n, .int .i64 most]) "Wrong").run Try.prog w = .ok (52, .agg #[.int .i64 n, .int .i64 most]) w := by kernel_rfl
theorem methWrong89 (n most : Int) (w : World) : (Go.method 228 89 (.agg #[.int .i64 n, .int .i64 most]) "Wrong").run Try.prog w = .ok (52, .agg #[.int .i64 n, .int .i64 most]) w := by kernel_rfl
theorem methWrong91 (n most : Int) (w : World) : (Go.method 228 91 (.agg #[.int .i64 n, .int .i64 most]) "Wrong").run Try.prog w = .ok (52, .agg #[.int .i64 n, .int .i64 most]) w := by kernel_rfl
theorem methWrong94 (n most : Int) (w : World) : (Go.method 228 94 (.agg #[.int .i64 n, .int .i64 most]) "Wrong").run Try.prog w = .ok (52, .agg #[.int .i64 n, .int .i64 most]) w := by kernel_rfl
theorem methWrong96 (n most : Int) (w : World) : (Go.method 228 96 (.agg #[.int .i64 n, .int .i64 most]) "Wrong").run Try.prog w = .ok (52, .agg #[.int .i64 n, .int .i64 most]) w := by kernel_rfl
theorem methWrong98 (n most : Int) (w : World) : (Go.method 228 98 (.agg #[.int .i64 n, .int .i64 most]) "Wrong").run Try.prog w = .ok (52, .agg #[.int .i64 n, .int .i64 most]) w := by kernel_rfl
theorem methWrong100 (n most : Int) (w : World) : (Go.method 228 100 (.agg #[.int .i64 n, .int .i64 most]) "Wrong").run Try.prog w = .ok (52, .agg #[.int .i64 n, .int .i64 most]) w := by kernel_rfl
theorem methWrong101 (n most : Int) (w : World) : (Go.method 228 101 (.agg #[.int .i64 n, .int .i64 most]) "Wrong").run Try.prog w = .ok (52, .agg #[.int .i64 n, .int .i64 most]) w := by kernel_rfl
theorem enters14 (args : Array Value) (w : World) : (callFunc 14 args).run Try.prog w = .ok (.enter 14 args) w := enters_of Try.func14 (by kernel_rfl) rfl args w
theorem enters16 (args : Array Value) (w : World) : (callFunc 16 args).run Try.prog w = .ok (.enter 16 args) w := enters_of Try.func16 (by kernel_rfl) rfl args w
theorem enters18 (args : Array Value) (w : World) : (callFunc 18 args).run Try.prog w = .ok (.enter 18 args) w := enters_of Try.func18 (by kernel_rfl) rfl args w
theorem enters43 (args : Array Value) (w : World) : (callFunc 43 args).run Try.prog w = .ok (.enter 43 args) w := enters_of Try.func43 (by kernel_rfl) rfl args w
theorem enters52 (args : Array Value) (w : World) : (callFunc 52 args).run Try.prog w = .ok (.enter 52 args) w := enters_of Try.func52 (by kernel_rfl) rfl args w
theorem enters56 (args : Array Value) (w : World) : (callFunc 56 args).run Try.prog w = .ok (.enter 56 args) w := enters_of Try.func56 (by kernel_rfl) rfl args w

theorem wildT_cases (x : Int) : wildT x = 86 ∨ wildT x = 89 ∨ wildT x = 91 ∨ wildT x = 94 ∨ wildT x = 96 ∨ wildT x = 98 ∨ wildT x = 100 ∨ wildT x = 101 := by
  unfold wildT
  repeat' split
  all_goals simp

set_option maxHeartbeats 1000000 in
theorem wrong_has (k n : Int) (key text : ByteArray) (T : TypeId) (x recv : Value) (F : FuncId) (E : Int) (w : World)
    (hv : fltV k n key text = .iface T x) (hme : ∀ w, (Go.method 228 T x "Wrong").run Try.prog w = .ok (F, recv) w) (eg : ∀ args w, (callFunc F args).run Try.prog w = .ok (.enter F args) w)
    (hF : ∀ W, Calls Try.prog F #[recv] W fun e w' => e = .returned (.int .i64 E) ∧ Below W.heap.size W w') :
    Calls Try.prog 14 #[.agg #[.int .i64 k, .int .i64 n, .string key, .string text]] w fun e w' => e = .returned (.int .i64 E) ∧ Below w.heap.size w w' := by
  have HV : Hid (fltV k n key text = .iface T x) := hv
  have HF : Hid (∀ W, Calls Try.prog F #[recv] W fun e w' => e = .returned (.int .i64 E) ∧ Below W.heap.size W w') := hF
  clear hv hF
  go_enter Try.func14, Try.ntmps14
  go_wp2_with fail
  refine (new_any k n key text _).mono ?_
  rintro e w0 ⟨rfl, b0⟩
  rw [HV.out]
  go_wp2_with fail
  refine (HF.out _).mono ?_
  rintro e w1 ⟨rfl, b1⟩
  go_wp2
  go_ret
  exact ⟨rfl, (((Below.refl _ _).alloc (Nat.le_refl _) _).trans (b0.mono (by simp))).trans (b1.mono (by have := b0.size; simp at this; omega))⟩

/-- What is wrong with a filter. -/
def sieveE (k n : Int) (key text : ByteArray) : Int :=
  if k = 1 ∨ k = 2 ∨ k = 3 then namedE key text else if k = 4 then countE n 40 else if k = 5 ∨ k = 6 then countE n 4 else if k = 7 then countE n 7 else 1

theorem swrong_any (k n : Int) (key text : ByteArray) (w : World) (hk : key.size ≤ maxLen) (ht : text.size ≤ maxLen) :
    Calls Try.prog 14 #[.agg #[.int .i64 k, .int .i64 n, .string key, .string text]] w fun e w' => e = .returned (.int .i64 (sieveE k n key text)) ∧ Below w.heap.size w w' := by
  rcases kind_cases k with rfl | rfl | rfl | rfl | rfl | rfl | rfl | h
  · exact wrong_has 1 n key text 70 _ _ 43 (namedE key text) w rfl (methWrong70 key text) enters43 (fun W => namedWrong_any key text W hk ht)
  · exact wrong_has 2 n key text 71 _ _ 43 (namedE key text) w rfl (methWrong71 key text) enters43 (fun W => namedWrong_any key text W hk ht)
  · exact wrong_has 3 n key text 72 _ _ 43 (namedE key text) w rfl (methWrong72 key text) enters43 (fun W => namedWrong_any key text W hk ht)
  · exact wrong_has 4 n key text 76 _ _ 52 (countE n 40) w rfl (methWrong76 n 40) enters52 (fun W => countedWrong_any n 40 W)
  · exact wrong_has 5 n key text 77 _ _ 52 (countE n 4) w rfl (methWrong77 n 4) enters52 (fun W => countedWrong_any n 4 W)
  · exact wrong_has 6 n key text 78 _ _ 52 (countE n 4) w rfl (methWrong78 n 4) enters52 (fun W => countedWrong_any n 4 W)
  · have hv : fltV 7 n key text = .iface (wildT (bits .and .i64 n 7)) (.agg #[.int .i64 n, .int .i64 7]) := rfl
    rcases wildT_cases (bits .and .i64 n 7) with e | e | e | e | e | e | e | e
    · exact wrong_has 7 n key text 86 _ _ 52 (countE n 7) w (by rw [hv, e]) (methWrong86 n 7) enters52 (fun W => countedWrong_any n 7 W)
    · exact wrong_has 7 n key text 89 _ _ 52 (countE n 7) w (by rw [hv, e]) (methWrong89 n 7) enters52 (fun W => countedWrong_any n 7 W)
    · exact wrong_has 7 n key text 91 _ _ 52 (countE n 7) w (by rw [hv, e]) (methWrong91 n 7) enters52 (fun W => countedWrong_any n 7 W)
    · exact wrong_has 7 n key text 94 _ _ 52 (countE n 7) w (by rw [hv, e]) (methWrong94 n 7) enters52 (fun W => countedWrong_any n 7 W)
    · exact wrong_has 7 n key text 96 _ _ 52 (countE n 7) w (by rw [hv, e]) (methWrong96 n 7) enters52 (fun W => countedWrong_any n 7 W)
    · exact wrong_has 7 n key text 98 _ _ 52 (countE n 7) w (by rw [hv, e]) (methWrong98 n 7) enters52 (fun W => countedWrong_any n 7 W)
    · exact wrong_has 7 n key text 100 _ _ 52 (countE n 7) w (by rw [hv, e]) (methWrong100 n 7) enters52 (fun W => countedWrong_any n 7 W)
    · exact wrong_has 7 n key text 101 _ _ 52 (countE n 7) w (by rw [hv, e]) (methWrong101 n 7) enters52 (fun W => countedWrong_any n 7 W)
  · obtain ⟨h1, h2, h3, h4, h5, h6, h7⟩ := h
    have e : sieveE k n key text = 1 := by simp [sieveE, h1, h2, h3, h4, h5, h6, h7]
    rw [e]
    exact wrong_has k n key text 81 (.agg #[]) (.agg #[]) 56 1 w (by simp [fltV, h1, h2, h3, h4, h5, h6, h7]) methWrong81 enters56 (fun W => unknownWrong_any W)

/-! What a filter's value can. -/
def has3 (a b c : Bool) : Int := (if a then 1 else 0) + (if b then 2 else 0) + (if c then 4 else 0)
def gotB (T : TypeId) (x : Value) (b : Bool) : Value := if b then .iface T x else .nilIface

set_option maxHeartbeats 1000000 in
theorem of_has (k n : Int) (key text : ByteArray) (T : TypeId) (x : Value) (a b c : Bool) (w : World) (hv : fltV k n key text = .iface T x)
    (ha : ∀ w, (Instr.typeAssert (.iface T x) 51 54 true).run Try.prog w = .ok (.tuple #[gotB T x a, .bool a]) w)
    (hb : ∀ w, (Instr.typeAssert (.iface T x) 51 57 true).run Try.prog w = .ok (.tuple #[gotB T x b, .bool b]) w)
    (hc : ∀ w, (Instr.typeAssert (.iface T x) 51 60 true).run Try.prog w = .ok (.tuple #[gotB T x c, .bool c]) w) :
    Calls Try.prog 7 #[.agg #[.int .i64 k, .int .i64 n, .string key, .string text]] w fun e w' => e = .returned (.int .i64 (has3 a b c)) ∧ Below w.heap.size w w' := by
  have HV : Hid (fltV k n key text = .iface T x) := hv
  clear hv
  have o1 : bits .or .i64 0 1 = 1 := by decide
  have o2 : bits .or .i64 0 2 = 2 := by decide
  have o3 : bits .or .i64 1 2 = 3 := by decide
  have o4 : bits .or .i64 0 4 = 4 := by decide
  have o5 : bits .or .i64 1 4 = 5 := by decide
  have o6 : bits .or .i64 2 4 = 6 := by decide
  have o7 : bits .or .i64 3 4 = 7 := by decide
  cases a <;> cases b <;> cases c
  all_goals
    simp only [gotB, if_true, if_false, Bool.false_eq_true] at ha hb hc
    go_enter Try.func7, Try.ntmps7
    go_wp2_with fail
    refine (new_any k n key text _).mono ?_
    rintro e w0 ⟨rfl, b0⟩
    rw [HV.out]
    have B0 : Hid (Below w.heap.size w w0) := ((Below.refl _ _).alloc (Nat.le_refl _) _).trans (b0.mono (by simp))
    clear b0
    go_wp2
    go_ret
    exact ⟨by simp [has3], B0.out⟩

/-- What a filter can: bits. -/
def canI (k n : Int) : Int := if k = 7 then bits .and .i64 n 7 else if k = 1 ∨ k = 3 ∨ k = 4 ∨ k = 5 then 1 else if k = 2 ∨ k = 6 then 2 else 0

theorem capsOf_any (k n : Int) (key text : ByteArray) (w : World) (hn : 0 ≤ bits .and .i64 n 7 ∧ bits .and .i64 n 7 ≤ 7) :
    Calls Try.prog 7 #[.agg #[.int .i64 k, .int .i64 n, .string key, .string text]] w fun e w' => e = .returned (.int .i64 (canI k n)) ∧ Below w.heap.size w w' := by
  rcases kind_cases k with rfl | rfl | rfl | rfl | rfl | rfl | rfl | h
  · exact of_has 1 n key text 70 _ true false false w rfl (asAsk70 _) (asAnswer70 _) (asClose70 _)
  · exact of_has 2 n key text 71 _ false true false w rfl (asAsk71 _) (asAnswer71 _) (asClose71 _)
  · exact of_has 3 n key text 72 _ true false false w rfl (asAsk72 _) (asAnswer72 _) (asClose72 _)
  · exact of_has 4 n key text 76 _ true false false w rfl (asAsk76 _) (asAnswer76 _) (asClose76 _)
  · exact of_has 5 n key text 77 _ true false false w rfl (asAsk77 _) (asAnswer77 _) (asClose77 _)
  · exact of_has 6 n key text 78 _ false true false w rfl (asAsk78 _) (asAnswer78 _) (asClose78 _)
  · have hv : fltV 7 n key text = .iface (wildT (bits .and .i64 n 7)) (.agg #[.int .i64 n, .int .i64 7]) := rfl
    have hc : canI 7 n = bits .and .i64 n 7 := rfl
    rw [hc]
    generalize bits .and .i64 n 7 = x at hn hv
    obtain rfl | rfl | rfl | rfl | rfl | rfl | rfl | rfl : x = 1 ∨ x = 2 ∨ x = 3 ∨ x = 4 ∨ x = 5 ∨ x = 6 ∨ x = 7 ∨ x = 0 := by omega
    · exact of_has 7 n key text 86 _ true false false w hv (asAsk86 _) (asAnswer86 _) (asClose86 _)
    · exact of_has 7 n key text 89 _ false true false w hv (asAsk89 _) (asAnswer89 _) (asClose89 _)
    · exact of_has 7 n key text 91 _ true true false w hv (asAsk91 _) (asAnswer91 _) (asClose91 _)
    · exact of_has 7 n key text 94 _ false false true w hv (asAsk94 _) (asAnswer94 _) (asClose94 _)
    · exact of_has 7 n key text 96 _ true false true w hv (asAsk96 _) (asAnswer96 _) (asClose96 _)
    · exact of_has 7 n key text 98 _ false true true w hv (asAsk98 _) (asAnswer98 _) (asClose98 _)
    · exact of_has 7 n key text 100 _ true true true w hv (asAsk100 _) (asAnswer100 _) (asClose100 _)
    · exact of_has 7 n key text 101 _ false false false w hv (asAsk101 _) (asAnswer101 _) (asClose101 _)
  · obtain ⟨h1, h2, h3, h4, h5, h6, h7⟩ := h
    have e : canI k n = 0 := by simp [canI, h1, h2, h3, h4, h5, h6, h7]
    rw [e]
    exact of_has k n key text 81 _ false false false w (by simp [fltV, h1, h2, h3, h4, h5, h6, h7]; rfl) (asAsk81 _) (asAnswer81 _) (asClose81 _)
end Go.Proofs.Ytoibpgcdocegdaa
