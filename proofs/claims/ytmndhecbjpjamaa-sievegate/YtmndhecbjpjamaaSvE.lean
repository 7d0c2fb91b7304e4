/- Package sieve: Wrong, Ask and Answer of any filter. -/
import Derived.Test.YtmndhecbjpjamaaSvD
import Derived.Shelf.Abstract
namespace Go.Proofs.Ytmndhecbjpjamaa
open Go.RowKit

theorem hasAsk63 (v : Value) (w : World) : (Instr.typeAssert (.iface 63 v) 40 45 true).run Try.prog w = .ok (.tuple #[.iface 63 v, .bool true]) w := run_typeAssert_hasB Try.underlying45 (by kernel_rfl) v 40 w
theorem noAnswer63 (v : Value) (w : World) : (Instr.typeAssert (.iface 63 v) 40 55 true).run Try.prog w = .ok (.tuple #[.nilIface, .bool false]) w := run_typeAssert_lacksB Try.underlying55 (by kernel_rfl) (by kernel_rfl) v 40 w
theorem noAsk64 (v : Value) (w : World) : (Instr.typeAssert (.iface 64 v) 40 45 true).run Try.prog w = .ok (.tuple #[.nilIface, .bool false]) w := run_typeAssert_lacksB Try.underlying45 (by kernel_rfl) (by kernel_rfl) v 40 w
theorem hasAnswer64 (v : Value) (w : World) : (Instr.typeAssert (.iface 64 v) 40 55 true).run Try.prog w = .ok (.tuple #[.iface 64 v, .bool true]) w := run_typeAssert_hasB Try.underlying55 (by kernel_rfl) v 40 w
theorem hasAsk65 (v : Value) (w : World) : (Instr.typeAssert (.iface 65 v) 40 45 true).run Try.prog w = .ok (.tuple #[.iface 65 v, .bool true]) w := run_typeAssert_hasB Try.underlying45 (by kernel_rfl) v 40 w
theorem noAnswer65 (v : Value) (w : World) : (Instr.typeAssert (.iface 65 v) 40 55 true).run Try.prog w = .ok (.tuple #[.nilIface, .bool false]) w := run_typeAssert_lacksB Try.underlying55 (by kernel_rfl) (by kernel_rfl) v 40 w
theorem hasAsk69 (v : Value) (w : World) : (Instr.typeAssert (.iface 69 v) 40 45 true).run Try.prog w = .ok (.tuple #[.iface 69 v, .bool true]) w := run_typeAssert_hasB Try.underlying45 (by kernel_rfl) v 40 w
theorem noAnswer69 (v : Value) (w : World) : (Instr.typeAssert (.iface 69 v) 40 55 true).run Try.prog w = .ok (.tuple #[.nilIface, .bool false]) w := run_typeAssert_lacksB Try.underlying55 (by kernel_rfl) (by kernel_rfl) v 40 w
theorem hasAsk70 (v : Value) (w : World) : (Instr.typeAssert (.iface 70 v) 40 45 true).run Try.prog w = .ok (.tuple #[.iface 70 v, .bool true]) w := run_typeAssert_hasB Try.underlying45 (by kernel_rfl) v 40 w
theorem noAnswer70 (v : Value) (w : World) : (Instr.typeAssert (.iface 70 v) 40 55 true).run Try.prog w = .ok (.tuple #[.nilIface, .bool false]) w := run_typeAssert_lacksB Try.underlying55 (by kernel_rfl) (by kernel_rfl) v 40 w
theorem noAsk71 (v : Value) (w : World) : (Instr.typeAssert (.iface 71 v) 40 45 true).run Try.prog w = .ok (.tuple #[.nilIface, .bool false]) w := run_typeAssert_lacksB Try.underlying45 (by kernel_rfl) (by kernel_rfl) v 40 w
theorem hasAnswer71 (v : Value) (w : World) : (Instr.typeAssert (.iface 71 v) 40 55 true).run Try.prog w = .ok (.tuple #[.iface 71 v, .bool true]) w := run_typeAssert_hasB Try.underlying55 (by kernel_rfl) v 40 w
theorem noAsk74 (v : Value) (w : World) : (Instr.typeAssert (.iface 74 v) 40 45 true).run Try.prog w = .ok (.tuple #[.nilIface, .bool false]) w := run_typeAssert_lacksB Try.underlying45 (by kernel_rfl) (by kernel_rfl) v 40 w
theorem noAnswer74 (v : Value) (w : World) : (Instr.typeAssert (.iface 74 v) 40 55 true).run Try.prog w = .ok (.tuple #[.nilIface, .bool false]) w := run_typeAssert_lacksB Try.underlying55 (by kernel_rfl) (by kernel_rfl) v 40 w
theorem hasAsk80 (v : Value) (w : World) : (Instr.typeAssert (.iface 80 v) 40 45 true).run Try.prog w = .ok (.tuple #[.iface 80 v, .bool true]) w := run_typeAssert_hasB Try.underlying45 (by kernel_rfl) v 40 w
theorem noAnswer80 (v : Value) (w : World) : (Instr.typeAssert (.iface 80 v) 40 55 true).run Try.prog w = .ok (.tuple #[.nilIface, .bool false]) w := run_typeAssert_lacksB Try.underlying55 (by kernel_rfl) (by kernel_rfl) v 40 w
theorem noAsk83 (v : Value) (w : World) : (Instr.typeAssert (.iface 83 v) 40 45 true).run Try.prog w = .ok (.tuple #[.nilIface, .bool false]) w := run_typeAssert_lacksB Try.underlying45 (by kernel_rfl) (by kernel_rfl) v 40 w
theorem hasAnswer83 (v : Value) (w : World) : (Instr.typeAssert (.iface 83 v) 40 55 true).run Try.prog w = .ok (.tuple #[.iface 83 v, .bool true]) w := run_typeAssert_hasB Try.underlying55 (by kernel_rfl) v 40 w
theorem hasAsk85 (v : Value) (w : World) : (Instr.typeAssert (.iface 85 v) 40 45 true).run Try.prog w = .ok (.tuple #[.iface 85 v, .bool true]) w := run_typeAssert_hasB Try.underlying45 (by kernel_rfl) v 40 w
theorem hasAnswer85 (v : Value) (w : World) : (Instr.typeAssert (.iface 85 v) 40 55 true).run Try.prog w = .ok (.tuple #[.iface 85 v, .bool true]) w := run_typeAssert_hasB Try.underlying55 (by kernel_rfl) v 40 w
theorem noAsk88 (v : Value) (w : World) : (Instr.typeAssert (.iface 88 v) 40 45 true).run Try.prog w = .ok (.tuple #[.nilIface, .bool false]) w := run_typeAssert_lacksB Try.underlying45 (by kernel_rfl) (by kernel_rfl) v 40 w
theorem noAnswer88 (v : Value) (w : World) : (Instr.typeAssert (.iface 88 v) 40 55 true).run Try.prog w = .ok (.tuple #[.nilIface, .bool false]) w := run_typeAssert_lacksB Try.underlying55 (by kernel_rfl) (by kernel_rfl) v 40 w
theorem hasAsk90 (v : Value) (w : World) : (Instr.typeAssert (.iface 90 v) 40 45 true).run Try.prog w = .ok (.tuple #[.iface 90 v, .bool true]) w := run_typeAssert_hasB Try.underlying45 (by kernel_rfl) v 40 w
theorem noAnswer90 (v : Value) (w : World) : (Instr.typeAssert (.iface 90 v) 40 55 true).run Try.prog w = .ok (.tuple #[.nilIface, .bool false]) w := run_typeAssert_lacksB Try.underlying55 (by kernel_rfl) (by kernel_rfl) v 40 w
theorem noAsk92 (v : Value) (w : World) : (Instr.typeAssert (.iface 92 v) 40 45 true).run Try.prog w = .ok (.tuple #[.nilIface, .bool false]) w := run_typeAssert_lacksB Try.underlying45 (by kernel_rfl) (by kernel_rfl) v 40 w
theorem hasAnswer92 (v : Value) (w : World) : (Instr.typeAssert (.iface 92 v) 40 55 true).run Try.prog w = .ok (.tuple #[.iface 92 v, .bool true]) w := run_typeAssert_hasB Try.underlying55 (by kernel_rfl) v 40 w
theorem hasAsk94 (v : Value) (w : World) : (Instr.typeAssert (.iface 94 v) 40 45 true).run Try.prog w = .ok (.tuple #[.iface 94 v, .bool true]) w := run_typeAssert_hasB Try.underlying45 (by kernel_rfl) v 40 w
theorem hasAnswer94 (v : Value) (w : World) : (Instr.typeAssert (.iface 94 v) 40 55 true).run Try.prog w = .ok (.tuple #[.iface 94 v, .bool true]) w := run_typeAssert_hasB Try.underlying55 (by kernel_rfl) v 40 w
theorem noAsk95 (v : Value) (w : World) : (Instr.typeAssert (.iface 95 v) 40 45 true).run Try.prog w = .ok (.tuple #[.nilIface, .bool false]) w := run_typeAssert_lacksB Try.underlying45 (by kernel_rfl) (by kernel_rfl) v 40 w
theorem noAnswer95 (v : Value) (w : World) : (Instr.typeAssert (.iface 95 v) 40 55 true).run Try.prog w = .ok (.tuple #[.nilIface, .bool false]) w := run_typeAssert_lacksB Try.underlying55 (by kernel_rfl) (by kernel_rfl) v 40 w
theorem methAsk63 (key text : ByteArray) (w : World) : (Go.method 218 63 (.agg #[.string key, .string text]) "Ask").run Try.prog w = .ok (49, .agg #[.string key, .string text]) w := by kernel_rfl
theorem methAsk65 (key text : ByteArray) (w : World) : (Go.method 218 65 (.agg #[.string key, .string text]) "Ask").run Try.prog w = .ok (55, .agg #[.string key, .string text]) w := by kernel_rfl
theorem methAsk69 (n most : Int) (w : World) : (Go.method 218 69 (.agg #[.int .i64 n, .int .i64 most]) "Ask").run Try.prog w = .ok (60, .agg #[.int .i64 n, .int .i64 most]) w := by kernel_rfl
theorem methAsk70 (n most : Int) (w : World) : (Go.method 218 70 (.agg #[.int .i64 n, .int .i64 most]) "Ask").run Try.prog w = .ok (61, .agg #[.int .i64 n, .int .i64 most]) w := by kernel_rfl
theorem methAsk80 (n most : Int) (w : World) : (Go.method 218 80 (.agg #[.int .i64 n, .int .i64 most]) "Ask").run Try.prog w = .ok (64, .agg #[]) w := by kernel_rfl
theorem methAsk85 (n most : Int) (w : World) : (Go.method 218 85 (.agg #[.int .i64 n, .int .i64 most]) "Ask").run Try.prog w = .ok (64, .agg #[]) w := by kernel_rfl
theorem methAsk90 (n most : Int) (w : World) : (Go.method 218 90 (.agg #[.int .i64 n, .int .i64 most]) "Ask").run Try.prog w = .ok (64, .agg #[]) w := by kernel_rfl
theorem methAsk94 (n most : Int) (w : World) : (Go.method 218 94 (.agg #[.int .i64 n, .int .i64 most]) "Ask").run Try.prog w = .ok (64, .agg #[]) w := by kernel_rfl
theorem methAnswer64 (key text : ByteArray) (w : World) : (Go.method 218 64 (.agg #[.string key, .string text]) "Answer").run Try.prog w = .ok (54, .agg #[.string key, .string text]) w := by kernel_rfl
theorem methAnswer71 (n most : Int) (w : World) : (Go.method 218 71 (.agg #[.int .i64 n, .int .i64 most]) "Answer").run Try.prog w = .ok (62, .agg #[.int .i64 n, .int .i64 most]) w := by kernel_rfl
theorem methAnswer83 (n most : Int) (w : World) : (Go.method 218 83 (.agg #[.int .i64 n, .int .i64 most]) "Answer").run Try.prog w = .ok (65, .agg #[]) w := by kernel_rfl
theorem methAnswer85 (n most : Int) (w : World) : (Go.method 218 85 (.agg #[.int .i64 n, .int .i64 most]) "Answer").run Try.prog w = .ok (65, .agg #[]) w := by kernel_rfl
theorem methAnswer92 (n most : Int) (w : World) : (Go.method 218 92 (.agg #[.int .i64 n, .int .i64 most]) "Answer").run Try.prog w = .ok (65, .agg #[]) w := by kernel_rfl
theorem methAnswer94 (n most : Int) (w : World) : (Go.method 218 94 (.agg #[.int .i64 n, .int .i64 most]) "Answer").run Try.prog w = .ok (65, .agg #[]) w := by kernel_rfl
theorem methWrong63 (key text : ByteArray) (w : World) : (Go.method 218 63 (.agg #[.string key, .string text]) "Wrong").run Try.prog w = .ok (43, .agg #[.string key, .string text]) w := by kernel_rfl
theorem methWrong64 (key text : ByteArray) (w : World) : (Go.method 218 64 (.agg #[.string key, .string text]) "Wrong").run Try.prog w = .ok (43, .agg #[.string key, .string text]) w := by kernel_rfl
theorem methWrong65 (key text : ByteArray) (w : World) : (Go.method 218 65 (.agg #[.string key, .string text]) "Wrong").run Try.prog w = .ok (43, .agg #[.string key, .string text]) w := by kernel_rfl
theorem methWrong69 (n most : Int) (w : World) : (Go.method 218 69 (.agg #[.int .i64 n, .int .i64 most]) "Wrong").run Try.prog w = .ok (59, .agg #[.int .i64 n, .int .i64 most]) w := by kernel_rfl
theorem methWrong70 (n most : Int) (w : World) : (Go.method 218 70 (.agg #[.int .i64 n, .int .i64 most]) "Wrong").run Try.prog w = .ok (59, .agg #[.int .i64 n, .int .i64 most]) w := by kernel_rfl
theorem methWrong71 (n most : Int) (w : World) : (Go.method 218 71 (.agg #[.int .i64 n, .int .i64 most]) "Wrong").run Try.prog w = .ok (59, .agg #[.int .i64 n, .int .i64 most]) w := by kernel_rfl
theorem methWrong74 (w : World) : (Go.method 218 74 (.agg #[]) "Wrong").run Try.prog w = .ok (63, .agg #[]) w := by kernel_rfl
theorem methWrong80 (n most : Int) (w : World) : (Go.method 218 80 (.agg #[.int .i64 n, .int .i64 most]) "Wrong").run Try.prog w = .ok (59, .agg #[.int .i64 n, .int .i64 most]) w := by kernel_rfl
theorem methWrong83 (n most : Int) (w : World) : (Go.method 218 83 (.agg #[.int .i64 n, .int .i64 most]) "Wrong").run Try.prog w = .ok (59, .agg #[.int .i64 n, .int .i64 most]) w := by kernel_rfl
theorem methWrong85 (n most : Int) (w : World) : (Go.method 218 85 (.agg #[.int .i64 n, .int .i64 most]) "Wrong").run Try.prog w = .ok (59, .agg #[.int .i64 n, .int .i64 most]) w := by kernel_rfl
theorem methWrong88 (n most : Int) (w : World) : (Go.method 218 88 (.agg #[.int .i64 n, .int .i64 most]) "Wrong").run Try.prog w = .ok (59, .agg #[.int .i64 n, .int .i64 most]) w := by kernel_rfl
theorem methWrong90 (n most : Int) (w : World) : (Go.method 218 90 (.agg #[.int .i64 n, .int .i64 most]) "Wrong").run Try.prog w = .ok (59, .agg #[.int .i64 n, .int .i64 most]) w := by kernel_rfl
theorem methWrong92 (n most : Int) (w : World) : (Go.method 218 92 (.agg #[.int .i64 n, .int .i64 most]) "Wrong").run Try.prog w = .ok (59, .agg #[.int .i64 n, .int .i64 most]) w := by kernel_rfl
theorem methWrong94 (n most : Int) (w : World) : (Go.method 218 94 (.agg #[.int .i64 n, .int .i64 most]) "Wrong").run Try.prog w = .ok (59, .agg #[.int .i64 n, .int .i64 most]) w := by kernel_rfl
theorem methWrong95 (n most : Int) (w : World) : (Go.method 218 95 (.agg #[.int .i64 n, .int .i64 most]) "Wrong").run Try.prog w = .ok (59, .agg #[.int .i64 n, .int .i64 most]) w := by kernel_rfl
theorem enters43 (args : Array Value) (w : World) : (callFunc 43 args).run Try.prog w = .ok (.enter 43 args) w := enters_of Try.func43 (by kernel_rfl) rfl args w
theorem enters49 (args : Array Value) (w : World) : (callFunc 49 args).run Try.prog w = .ok (.enter 49 args) w := enters_of Try.func49 (by kernel_rfl) rfl args w
theorem enters54 (args : Array Value) (w : World) : (callFunc 54 args).run Try.prog w = .ok (.enter 54 args) w := enters_of Try.func54 (by kernel_rfl) rfl args w
theorem enters55 (args : Array Value) (w : World) : (callFunc 55 args).run Try.prog w = .ok (.enter 55 args) w := enters_of Try.func55 (by kernel_rfl) rfl args w
theorem enters59 (args : Array Value) (w : World) : (callFunc 59 args).run Try.prog w = .ok (.enter 59 args) w := enters_of Try.func59 (by kernel_rfl) rfl args w
theorem enters60 (args : Array Value) (w : World) : (callFunc 60 args).run Try.prog w = .ok (.enter 60 args) w := enters_of Try.func60 (by kernel_rfl) rfl args w
theorem enters61 (args : Array Value) (w : World) : (callFunc 61 args).run Try.prog w = .ok (.enter 61 args) w := enters_of Try.func61 (by kernel_rfl) rfl args w
theorem enters62 (args : Array Value) (w : World) : (callFunc 62 args).run Try.prog w = .ok (.enter 62 args) w := enters_of Try.func62 (by kernel_rfl) rfl args w
theorem enters63 (args : Array Value) (w : World) : (callFunc 63 args).run Try.prog w = .ok (.enter 63 args) w := enters_of Try.func63 (by kernel_rfl) rfl args w
theorem enters64 (args : Array Value) (w : World) : (callFunc 64 args).run Try.prog w = .ok (.enter 64 args) w := enters_of Try.func64 (by kernel_rfl) rfl args w
theorem enters65 (args : Array Value) (w : World) : (callFunc 65 args).run Try.prog w = .ok (.enter 65 args) w := enters_of Try.func65 (by kernel_rfl) rfl args w

theorem wildT_cases (x : Int) : wildT x = 80 ∨ wildT x = 83 ∨ wildT x = 85 ∨ wildT x = 88 ∨ wildT x = 90 ∨ wildT x = 92 ∨ wildT x = 94 ∨ wildT x = 95 := by
  unfold wildT
  repeat' split
  all_goals simp

/-- What is wrong with a filter. -/
def sieveE (k n : Int) (key text : ByteArray) : Int :=
  if k = 1 ∨ k = 2 ∨ k = 3 then namedE key text else if k = 4 then countE n 40 else if k = 5 ∨ k = 6 then countE n 4 else if k = 7 then countE n 7 else 1

theorem swrong_any (k n : Int) (key text : ByteArray) (w : World) (hk : key.size ≤ maxLen) (ht : text.size ≤ maxLen) :
    Calls Try.prog 6 #[.agg #[.int .i64 k, .int .i64 n, .string key, .string text]] w fun e w' => e = .returned (.int .i64 (sieveE k n key text)) ∧ Below w.heap.size w w' := by
  rcases kind_cases k with rfl | rfl | rfl | rfl | rfl | rfl | rfl | h
  · exact wrong_has 1 n key text 63 _ _ 43 (namedE key text) w rfl (methWrong63 key text) enters43 (fun W => namedWrong_any key text W hk ht)
  · exact wrong_has 2 n key text 64 _ _ 43 (namedE key text) w rfl (methWrong64 key text) enters43 (fun W => namedWrong_any key text W hk ht)
  · exact wrong_has 3 n key text 65 _ _ 43 (namedE key text) w rfl (methWrong65 key text) enters43 (fun W => namedWrong_any key text W hk ht)
  · exact wrong_has 4 n key text 69 _ _ 59 (countE n 40) w rfl (methWrong69 n 40) enters59 (fun W => countedWrong_any n 40 W)
  · exact wrong_has 5 n key text 70 _ _ 59 (countE n 4) w rfl (methWrong70 n 4) enters59 (fun W => countedWrong_any n 4 W)
  · exact wrong_has 6 n key text 71 _ _ 59 (countE n 4) w rfl (methWrong71 n 4) enters59 (fun W => countedWrong_any n 4 W)
  · have hv : fltV 7 n key text = .iface (wildT (bits .and .i64 n 7)) (.agg #[.int .i64 n, .int .i64 7]) := rfl
    rcases wildT_cases (bits .and .i64 n 7) with e | e | e | e | e | e | e | e
    · exact wrong_has 7 n key text 80 _ _ 59 (countE n 7) w (by rw [hv, e]) (methWrong80 n 7) enters59 (fun W => countedWrong_any n 7 W)
    · exact wrong_has 7 n key text 83 _ _ 59 (countE n 7) w (by rw [hv, e]) (methWrong83 n 7) enters59 (fun W => countedWrong_any n 7 W)
    · exact wrong_has 7 n key text 85 _ _ 59 (countE n 7) w (by rw [hv, e]) (methWrong85 n 7) enters59 (fun W => countedWrong_any n 7 W)
    · exact wrong_has 7 n key text 88 _ _ 59 (countE n 7) w (by rw [hv, e]) (methWrong88 n 7) enters59 (fun W => countedWrong_any n 7 W)
    · exact wrong_has 7 n key text 90 _ _ 59 (countE n 7) w (by rw [hv, e]) (methWrong90 n 7) enters59 (fun W => countedWrong_any n 7 W)
    · exact wrong_has 7 n key text 92 _ _ 59 (countE n 7) w (by rw [hv, e]) (methWrong92 n 7) enters59 (fun W => countedWrong_any n 7 W)
    · exact wrong_has 7 n key text 94 _ _ 59 (countE n 7) w (by rw [hv, e]) (methWrong94 n 7) enters59 (fun W => countedWrong_any n 7 W)
    · exact wrong_has 7 n key text 95 _ _ 59 (countE n 7) w (by rw [hv, e]) (methWrong95 n 7) enters59 (fun W => countedWrong_any n 7 W)
  · obtain ⟨h1, h2, h3, h4, h5, h6, h7⟩ := h
    have e : sieveE k n key text = 1 := by simp [sieveE, h1, h2, h3, h4, h5, h6, h7]
    rw [e]
    exact wrong_has k n key text 74 (.agg #[]) (.agg #[]) 63 1 w (by simp [fltV, h1, h2, h3, h4, h5, h6, h7]) methWrong74 enters63 (fun W => unknownWrong_any W)

/-- Does a filter stop an ask? -/
def askS (k n : Int) (key text : ByteArray) (m : Ms) (g : Int) : Bool :=
  if k = 3 then !(getB key m.heads && decide (getS key m.heads = text)) else if k = 4 then decide (n < (m.body.size : Int)) else if k = 5 then decide (n ≤ g) else false
def askD (k n : Int) (key text : ByteArray) (m : Ms) (g : Int) : Int := if askS k n key text m g then 1 else 0
def askM (k n : Int) (key text : ByteArray) (m : Ms) (g : Int) : Ms :=
  if askS k n key text m g then (if k = 3 then sayM 401 ⟨#[116, 111, 107, 101, 110]⟩ else if k = 4 then sayM 413 ⟨#[108, 105, 109, 105, 116]⟩ else sayM 429 ⟨#[103, 97, 116, 101]⟩)
  else if k = 1 then setM m key text else m
def askG (k n g : Int) : Int := if k = 5 ∧ g < n then g + 1 else g

theorem ask_any (k n : Int) (key text : ByteArray) (m : Ms) (v : Value) (g : Int) (w : World) (hm : MsAt w v m) (hk : key.size ≤ maxLen) (ht : text.size ≤ maxLen) (h1 : -1000000 ≤ g) (h2 : g ≤ 1000000) :
    Calls Try.prog 8 #[.agg #[.int .i64 k, .int .i64 n, .string key, .string text], v, .int .i64 g] w fun e w' => ∃ v', e = .returned (.tuple #[.int .i64 (askD k n key text m g), v', .int .i64 (askG k n g)]) ∧ New w.heap.size w' v' (askM k n key text m g) ∧ Below w.heap.size w w' := by
  rcases kind_cases k with rfl | rfl | rfl | rfl | rfl | rfl | rfl | h
  · exact ask_has 1 n key text 63 _ _ 49 0 g m (setM m key text) v g w hm rfl (hasAsk63 _) (methAsk63 key text) enters49 (fun W u hu => setAsk_any key text m u g W hu hk ht)
  · exact ask_lacks 2 n key text 64 _ m v g w hm rfl (noAsk64 _)
  · rcases token_split (getB key m.heads) (getS key m.heads) text with ⟨a, b⟩ | a | ⟨a, b⟩
    · have e : askS 3 n key text m g = false := by simp [askS, a, b]
      rw [askD, askM, e]
      exact ask_has 3 n key text 65 _ _ 55 0 g m m v g w hm rfl (hasAsk65 _) (methAsk65 key text) enters55 (fun W u hu => tokenAsk_goes key text m u g W hu a b)
    · have e : askS 3 n key text m g = true := by simp [askS, a]
      rw [askD, askM, e]
      exact ask_has 3 n key text 65 _ _ 55 1 g m (sayM 401 ⟨#[116, 111, 107, 101, 110]⟩) v g w hm rfl (hasAsk65 _) (methAsk65 key text) enters55 (fun W u hu => tokenAsk_stop1 key text m u g W hu a)
    · have e : askS 3 n key text m g = true := by simp [askS, b]
      rw [askD, askM, e]
      exact ask_has 3 n key text 65 _ _ 55 1 g m (sayM 401 ⟨#[116, 111, 107, 101, 110]⟩) v g w hm rfl (hasAsk65 _) (methAsk65 key text) enters55 (fun W u hu => tokenAsk_stop2 key text m u g W hu a b)
  · by_cases hc : n < (m.body.size : Int)
    · have e : askS 4 n key text m g = true := by simp [askS, hc]
      rw [askD, askM, e]
      exact ask_has 4 n key text 69 _ _ 60 1 g m (sayM 413 ⟨#[108, 105, 109, 105, 116]⟩) v g w hm rfl (hasAsk69 _) (methAsk69 n 40) enters60 (fun W u hu => limitAsk_stop n 40 m u g W hu hc)
    · have e : askS 4 n key text m g = false := by simp [askS, hc]
      rw [askD, askM, e]
      exact ask_has 4 n key text 69 _ _ 60 0 g m m v g w hm rfl (hasAsk69 _) (methAsk69 n 40) enters60 (fun W u hu => limitAsk_goes n 40 m u g W hu hc)
  · by_cases hc : n ≤ g
    · have e : askS 5 n key text m g = true := by simp [askS, hc]
      have eg : askG 5 n g = g := by rw [askG, if_neg (by omega)]
      rw [askD, askM, e, eg]
      exact ask_has 5 n key text 70 _ _ 61 1 g m (sayM 429 ⟨#[103, 97, 116, 101]⟩) v g w hm rfl (hasAsk70 _) (methAsk70 n 4) enters61 (fun W u hu => gateAsk_stop n 4 m u g W hu hc)
    · have e : askS 5 n key text m g = false := by simp [askS, hc]
      have eg : askG 5 n g = g + 1 := by rw [askG, if_pos (by omega)]
      rw [askD, askM, e, eg]
      exact ask_has 5 n key text 70 _ _ 61 0 (g + 1) m m v g w hm rfl (hasAsk70 _) (methAsk70 n 4) enters61 (fun W u hu => gateAsk_goes n 4 m u g W hu hc h1 h2)
  · exact ask_lacks 6 n key text 71 _ m v g w hm rfl (noAsk71 _)
  · have hv : fltV 7 n key text = .iface (wildT (bits .and .i64 n 7)) (.agg #[.int .i64 n, .int .i64 7]) := rfl
    rcases wildT_cases (bits .and .i64 n 7) with e | e | e | e | e | e | e | e
    · exact ask_has 7 n key text 80 _ _ 64 0 g m m v g w hm (by rw [hv, e]) (hasAsk80 _) (methAsk80 n 7) enters64 (fun W u hu => asksAsk_any m u g W hu)
    · exact ask_lacks 7 n key text 83 _ m v g w hm (by rw [hv, e]) (noAsk83 _)
    · exact ask_has 7 n key text 85 _ _ 64 0 g m m v g w hm (by rw [hv, e]) (hasAsk85 _) (methAsk85 n 7) enters64 (fun W u hu => asksAsk_any m u g W hu)
    · exact ask_lacks 7 n key text 88 _ m v g w hm (by rw [hv, e]) (noAsk88 _)
    · exact ask_has 7 n key text 90 _ _ 64 0 g m m v g w hm (by rw [hv, e]) (hasAsk90 _) (methAsk90 n 7) enters64 (fun W u hu => asksAsk_any m u g W hu)
    · exact ask_lacks 7 n key text 92 _ m v g w hm (by rw [hv, e]) (noAsk92 _)
    · exact ask_has 7 n key text 94 _ _ 64 0 g m m v g w hm (by rw [hv, e]) (hasAsk94 _) (methAsk94 n 7) enters64 (fun W u hu => asksAsk_any m u g W hu)
    · exact ask_lacks 7 n key text 95 _ m v g w hm (by rw [hv, e]) (noAsk95 _)
  · obtain ⟨h1, h2, h3, h4, h5, h6, h7⟩ := h
    have e : askS k n key text m g = false := by simp [askS, h3, h4, h5]
    have em : askM k n key text m g = m := by simp [askM, e, h1]
    have eg : askG k n g = g := by simp [askG, h5]
    rw [askD, em, e, eg]
    exact ask_lacks k n key text 74 (.agg #[]) m v g w hm (by simp [fltV, h1, h2, h3, h4, h5, h6, h7]) (noAsk74 _)

def ansD (k n : Int) (m : Ms) (a : Int) : Int := if k = 6 ∧ 500 ≤ m.st ∧ a < n then 6 else 0
def ansM (k : Int) (key text : ByteArray) (m : Ms) : Ms := if k = 2 then setM m key text else m

theorem answers_any (k n : Int) (key text : ByteArray) (m : Ms) (v : Value) (g : Int) (w : World) (hm : MsAt w v m) (hk : key.size ≤ maxLen) (ht : text.size ≤ maxLen) :
    Calls Try.prog 11 #[.agg #[.int .i64 k, .int .i64 n, .string key, .string text], v, .int .i64 g] w fun e w' => ∃ v', e = .returned (.tuple #[.int .i64 (ansD k n m g), v']) ∧ New w.heap.size w' v' (ansM k key text m) ∧ Below w.heap.size w w' := by
  rcases kind_cases k with rfl | rfl | rfl | rfl | rfl | rfl | rfl | h
  · exact answer_lacks 1 n key text 63 _ m v g w hm rfl (noAnswer63 _)
  · exact answer_has 2 n key text 64 _ _ 54 0 m (setM m key text) v g w hm rfl (hasAnswer64 _) (methAnswer64 key text) enters54 (fun W u hu => markAnswer_any key text m u g W hu hk ht)
  · exact answer_lacks 3 n key text 65 _ m v g w hm rfl (noAnswer65 _)
  · exact answer_lacks 4 n key text 69 _ m v g w hm rfl (noAnswer69 _)
  · exact answer_lacks 5 n key text 70 _ m v g w hm rfl (noAnswer70 _)
  · by_cases h5 : 500 ≤ m.st
    · by_cases hn : g < n
      · have e : ansD 6 n m g = 6 := by rw [ansD, if_pos ⟨rfl, h5, hn⟩]
        rw [e]
        exact answer_has 6 n key text 71 _ _ 62 6 m m v g w hm rfl (hasAnswer71 _) (methAnswer71 n 4) enters62 (fun W u hu => retryAnswer_again n 4 m u g W hu h5 hn)
      · have e : ansD 6 n m g = 0 := by rw [ansD, if_neg (by omega)]
        rw [e]
        exact answer_has 6 n key text 71 _ _ 62 0 m m v g w hm rfl (hasAnswer71 _) (methAnswer71 n 4) enters62 (fun W u hu => retryAnswer_goes2 n 4 m u g W hu hn)
    · have e : ansD 6 n m g = 0 := by rw [ansD, if_neg (by omega)]
      rw [e]
      exact answer_has 6 n key text 71 _ _ 62 0 m m v g w hm rfl (hasAnswer71 _) (methAnswer71 n 4) enters62 (fun W u hu => retryAnswer_goes1 n 4 m u g W hu h5)
  · have hv : fltV 7 n key text = .iface (wildT (bits .and .i64 n 7)) (.agg #[.int .i64 n, .int .i64 7]) := rfl
    rcases wildT_cases (bits .and .i64 n 7) with e | e | e | e | e | e | e | e
    · exact answer_lacks 7 n key text 80 _ m v g w hm (by rw [hv, e]) (noAnswer80 _)
    · exact answer_has 7 n key text 83 _ _ 65 0 m m v g w hm (by rw [hv, e]) (hasAnswer83 _) (methAnswer83 n 7) enters65 (fun W u hu => answersAnswer_any m u g W hu)
    · exact answer_has 7 n key text 85 _ _ 65 0 m m v g w hm (by rw [hv, e]) (hasAnswer85 _) (methAnswer85 n 7) enters65 (fun W u hu => answersAnswer_any m u g W hu)
    · exact answer_lacks 7 n key text 88 _ m v g w hm (by rw [hv, e]) (noAnswer88 _)
    · exact answer_lacks 7 n key text 90 _ m v g w hm (by rw [hv, e]) (noAnswer90 _)
    · exact answer_has 7 n key text 92 _ _ 65 0 m m v g w hm (by rw [hv, e]) (hasAnswer92 _) (methAnswer92 n 7) enters65 (fun W u hu => answersAnswer_any m u g W hu)
    · exact answer_has 7 n key text 94 _ _ 65 0 m m v g w hm (by rw [hv, e]) (hasAnswer94 _) (methAnswer94 n 7) enters65 (fun W u hu => answersAnswer_any m u g W hu)
    · exact answer_lacks 7 n key text 95 _ m v g w hm (by rw [hv, e]) (noAnswer95 _)
  · obtain ⟨h1, h2, h3, h4, h5, h6, h7⟩ := h
    have e : ansD k n m g = 0 := by simp [ansD, h6]
    have em : ansM k key text m = m := by simp [ansM, h2]
    rw [em, e]
    exact answer_lacks k n key text 74 (.agg #[]) m v g w hm (by simp [fltV, h1, h2, h3, h4, h5, h6, h7]) (noAnswer74 _)
end Go.Proofs.Ytmndhecbjpjamaa
