/- Package caps: bits of calls, Can, limits; what is wrong with an up and a bad. -/
import Derived.Test.YtbpmcabeghbalaaCapA
import Derived.Laws.BitsLemmas
namespace Go.Proofs.Ytbpmcabeghbalaa
open Go.RowKit

theorem and7 (n : Int) : 0 ≤ bits .and .i64 n 7 ∧ bits .and .i64 n 7 ≤ 7 := by
  have h : bits .and .i64 n 7 = IntKind.i64.wrap (((BitVec.ofInt 64 n &&& BitVec.ofInt 64 7).toNat : Nat) : Int) := rfl
  have h7 : (BitVec.ofInt 64 7).toNat = 7 := by decide
  have h2 : (BitVec.ofInt 64 n &&& BitVec.ofInt 64 7).toNat ≤ 7 := by
    rw [BitVec.toNat_and, h7]
    exact Nat.and_le_right
  rw [h, IntKind.wrap_i64]
  omega

theorem canI_bd (k n : Int) : 0 ≤ canI k n ∧ canI k n ≤ 7 := by
  have := and7 n
  unfold canI
  repeat' split
  all_goals omega

def bitI (call : Int) : Int := if call = 1 then 1 else if call = 2 then 2 else if call = 3 then 4 else 0
theorem call_cases (c : Int) : c = 1 ∨ c = 2 ∨ c = 3 ∨ (c ≠ 1 ∧ c ≠ 2 ∧ c ≠ 3) := by omega

theorem bit_any (call : Int) (w : World) : Calls Try.prog 19 #[.int .i64 call] w fun e w' => e = .returned (.int .i64 (bitI call)) ∧ w' = w := by
  rcases call_cases call with rfl | rfl | rfl | ⟨h1, h2, h3⟩
  · go_enter Try.func19, Try.ntmps19
    go_wp2
    go_ret
    exact ⟨rfl, rfl⟩
  · go_enter Try.func19, Try.ntmps19
    go_wp2
    go_ret
    exact ⟨rfl, rfl⟩
  · go_enter Try.func19, Try.ntmps19
    go_wp2
    go_ret
    exact ⟨rfl, rfl⟩
  · have e : bitI call = 0 := by simp [bitI, h1, h2, h3]
    have q1 : (call == 1) = false := by simpa using h1
    have q2 : (call == 2) = false := by simpa using h2
    have q3 : (call == 3) = false := by simpa using h3
    rw [e]
    clear e h1 h2 h3
    go_enter Try.func19, Try.ntmps19
    go_wp2
    go_ret
    exact ⟨rfl, rfl⟩

/-- Can a filter that call? -/
def canB (k n call : Int) : Bool := bits .and .i64 (canI k n) (bitI call) != 0

set_option maxHeartbeats 1000000 in
theorem can_any (k n : Int) (key text : ByteArray) (call : Int) (w : World) :
    Calls Try.prog 15 #[.agg #[.int .i64 k, .int .i64 n, .string key, .string text], .int .i64 call] w fun e w' => e = .returned (.bool (canB k n call)) ∧ Below w.heap.size w w' := by
  unfold canB
  go_enter Try.func15, Try.ntmps15
  go_wp2_with fail
  refine (capsOf_any k n key text _ (and7 n)).mono ?_
  rintro e w0 ⟨rfl, b0⟩
  have B0 : Hid (Below w.heap.size w w0) := ((Below.refl _ _).alloc (Nat.le_refl _) _).trans (b0.mono (by simp))
  clear b0
  go_wp2_with fail
  refine (bit_any call _).mono ?_
  rintro e w1 ⟨rfl, rfl⟩
  go_wp2
  go_ret
  exact ⟨rfl, B0.out⟩

def countB (n : Int) : Bool := decide (0 ≤ n) && decide (n ≤ 4)
/-- An up, a bad, a filter: as data. -/
structure Up where
  path : ByteArray
  st : Int
  text : ByteArray
  fails : Int
structure Bd where
  id : Int
  fi : Int
  call : Int
  act : Int
  text : ByteArray
structure Sv where
  k : Int
  n : Int
  key : ByteArray
  text : ByteArray
def upL (u : Up) : List Value := [.string u.path, .int .i64 u.st, .string u.text, .int .i64 u.fails]
def bdL (b : Bd) : List Value := [.int .i64 b.id, .int .i64 b.fi, .int .i64 b.call, .int .i64 b.act, .string b.text]
def svL (s : Sv) : List Value := [.int .i64 s.k, .int .i64 s.n, .string s.key, .string s.text]

def upE (u : Up) : Int := if decide (u.st < 100) || (decide (599 < u.st) || (!countB u.fails || (decide ((40 : Int) < (u.text.size : Int)) || decide ((24 : Int) < (u.path.size : Int))))) then 3 else 0
def bdE (b : Bd) : Int := if decide (b.call < 1) || (decide (4 < b.call) || (decide (b.act < 0) || decide (6 < b.act))) then 1 else if decide ((20 : Int) < (b.text.size : Int)) then 4 else 0
def svE (s : Sv) : Int := sieveE s.k s.n s.key s.text

end Go.Proofs.Ytbpmcabeghbalaa
