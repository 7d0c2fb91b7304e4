/- Package sieve: what is wrong with a filter; filters as values. -/
import Derived.Test.YtbpmcabeghbalaaMsgP
namespace Go.Proofs.Ytbpmcabeghbalaa
open Go.RowKit

def namedE (key text : ByteArray) : Int := if keyB key && linB text then 0 else 7
def countE (n most : Int) : Int := if n < 0 ∨ most < n then 3 else 0

/-- The type of a wild filter, by its lowest bits. -/
def wildT (x : Int) : TypeId := if x = 1 then 87 else if x = 2 then 90 else if x = 3 then 92 else if x = 4 then 95 else if x = 5 then 97 else if x = 6 then 99 else if x = 7 then 101 else 102
/-- A filter as a value. -/
def fltV (k n : Int) (key text : ByteArray) : Value :=
  if k = 1 then .iface 73 (.agg #[.string key, .string text]) else if k = 2 then .iface 74 (.agg #[.string key, .string text]) else if k = 3 then .iface 75 (.agg #[.string key, .string text])
  else if k = 4 then .iface 79 (.agg #[.int .i64 n, .int .i64 40]) else if k = 5 then .iface 80 (.agg #[.int .i64 n, .int .i64 4]) else if k = 6 then .iface 81 (.agg #[.int .i64 n, .int .i64 4])
  else if k = 7 then .iface (wildT (bits .and .i64 n 7)) (.agg #[.int .i64 n, .int .i64 7]) else .iface 84 (.agg #[])

set_option maxHeartbeats 1000000 in
theorem wild_any (n : Int) (w : World) :
    Calls Try.prog 21 #[.int .i64 n] w fun e w' => e = .returned (.iface (wildT (bits .and .i64 n 7)) (.agg #[.int .i64 n, .int .i64 7])) ∧ Below w.heap.size w w' := by
  have hbw : ∀ o : Obj, Below w.heap.size w (w.alloc o) := fun o => (Below.refl _ _).alloc (Nat.le_refl _) o
  generalize hx : bits .and .i64 n 7 = x
  have HX : Hid (bits .and .i64 n 7 = x) := hx
  go_enter Try.func21, Try.ntmps21
  go_wp2
  all_goals
    go_ret
    refine ⟨?_, hbw _⟩
    simp_all [wildT]

theorem kind_cases (k : Int) : k = 1 ∨ k = 2 ∨ k = 3 ∨ k = 4 ∨ k = 5 ∨ k = 6 ∨ k = 7 ∨ (k ≠ 1 ∧ k ≠ 2 ∧ k ≠ 3 ∧ k ≠ 4 ∧ k ≠ 5 ∧ k ≠ 6 ∧ k ≠ 7) := by omega

set_option maxHeartbeats 1000000 in
theorem new_any (k n : Int) (key text : ByteArray) (w : World) :
    Calls Try.prog 20 #[.agg #[.int .i64 k, .int .i64 n, .string key, .string text]] w fun e w' => e = .returned (fltV k n key text) ∧ Below w.heap.size w w' := by
  have hbw : ∀ o : Obj, Below w.heap.size w (w.alloc o) := fun o => (Below.refl _ _).alloc (Nat.le_refl _) o
  rcases kind_cases k with rfl | rfl | rfl | rfl | rfl | rfl | rfl | hk
  iterate 6
    · go_enter Try.func20, Try.ntmps20
      go_wp2
      go_ret
      exact ⟨by simp [fltV], hbw _⟩
  · go_enter Try.func20, Try.ntmps20
    go_wp2_with fail
    refine (wild_any n _).mono ?_
    rintro e w1 ⟨rfl, b1⟩
    go_wp2
    go_ret
    exact ⟨by simp [fltV], (hbw _).trans (b1.mono (by simp))⟩
  · obtain ⟨h1, h2, h3, h4, h5, h6, h7⟩ := hk
    have e1 : fltV k n key text = .iface 84 (.agg #[]) := by simp [fltV, h1, h2, h3, h4, h5, h6, h7]
    have q1 : (k == 1) = false := by simpa using h1
    have q2 : (k == 2) = false := by simpa using h2
    have q3 : (k == 3) = false := by simpa using h3
    have q4 : (k == 4) = false := by simpa using h4
    have q5 : (k == 5) = false := by simpa using h5
    have q6 : (k == 6) = false := by simpa using h6
    have q7 : (k == 7) = false := by simpa using h7
    rw [e1]
    clear e1 h1 h2 h3 h4 h5 h6 h7
    go_enter Try.func20, Try.ntmps20
    go_wp2
    go_ret
    exact ⟨rfl, hbw _⟩
end Go.Proofs.Ytbpmcabeghbalaa
