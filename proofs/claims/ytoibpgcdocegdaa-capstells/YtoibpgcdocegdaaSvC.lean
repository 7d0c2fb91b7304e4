/- Package sieve: what is wrong with a filter; filters as values. -/
import Derived.Test.YtoibpgcdocegdaaMsgP
namespace Go.Proofs.Ytoibpgcdocegdaa
open Go.RowKit

def namedE (key text : ByteArray) : Int := if keyB key && linB text then 0 else 7
def countE (n most : Int) : Int := if n < 0 ∨ most < n then 3 else 0

set_option maxHeartbeats 1000000 in
theorem namedWrong_any (key text : ByteArray) (w : World) (hk : key.size ≤ maxLen) (ht : text.size ≤ maxLen) :
    Calls Try.prog 43 #[.agg #[.string key, .string text]] w fun e w' => e = .returned (.int .i64 (namedE key text)) ∧ Below w.heap.size w w' := by
  have HK : Hid (key.size ≤ maxLen ∧ text.size ≤ maxLen) := ⟨hk, ht⟩
  clear hk ht
  have hbw : ∀ o : Obj, Below w.heap.size w (w.alloc o) := fun o => (Below.refl _ _).alloc (Nat.le_refl _) o
  cases h1 : keyB key with
  | false =>
    have H1 : Hid (keyB key = false) := h1
    clear h1
    go_enter Try.func43, Try.ntmps43
    go_wp2_with fail
    refine (key_any key _ HK.out.1).mono ?_
    rintro e w1 ⟨rfl, rfl⟩
    rw [H1.out]
    go_wp2
    go_ret
    exact ⟨by rw [namedE, H1.out]; rfl, hbw _⟩
  | true =>
    have H1 : Hid (keyB key = true) := h1
    clear h1
    cases h2 : linB text with
    | false =>
      have H2 : Hid (linB text = false) := h2
      clear h2
      go_enter Try.func43, Try.ntmps43
      go_wp2_with fail
      refine (key_any key _ HK.out.1).mono ?_
      rintro e w1 ⟨rfl, rfl⟩
      rw [H1.out]
      go_wp2_with fail
      refine (line_any text _ HK.out.2).mono ?_
      rintro e w1 ⟨rfl, rfl⟩
      rw [H2.out]
      go_wp2
      go_ret
      exact ⟨by rw [namedE, H1.out, H2.out]; rfl, hbw _⟩
    | true =>
      have H2 : Hid (linB text = true) := h2
      clear h2
      go_enter Try.func43, Try.ntmps43
      go_wp2_with fail
      refine (key_any key _ HK.out.1).mono ?_
      rintro e w1 ⟨rfl, rfl⟩
      rw [H1.out]
      go_wp2_with fail
      refine (line_any text _ HK.out.2).mono ?_
      rintro e w1 ⟨rfl, rfl⟩
      rw [H2.out]
      go_wp2
      go_ret
      exact ⟨by rw [namedE, H1.out, H2.out]; rfl, hbw _⟩

set_option maxHeartbeats 1000000 in
theorem countedWrong_any (n most : Int) (w : World) :
    Calls Try.prog 52 #[.agg #[.int .i64 n, .int .i64 most]] w fun e w' => e = .returned (.int .i64 (countE n most)) ∧ Below w.heap.size w w' := by
  have hbw : ∀ o : Obj, Below w.heap.size w (w.alloc o) := fun o => (Below.refl _ _).alloc (Nat.le_refl _) o
  by_cases h1 : n < 0
  · have e1 : countE n most = 3 := by rw [countE, if_pos (.inl h1)]
    rw [e1]
    clear e1
    go_enter Try.func52, Try.ntmps52
    go_wp2
    go_ret
    exact ⟨rfl, hbw _⟩
  · have h1' : decide (n < 0) = false := by simpa using h1
    by_cases h2 : most < n
    · have e1 : countE n most = 3 := by rw [countE, if_pos (.inr h2)]
      rw [e1]
      clear e1
      go_enter Try.func52, Try.ntmps52
      go_wp2
      go_ret
      exact ⟨rfl, hbw _⟩
    · have e1 : countE n most = 0 := by rw [countE, if_neg (by omega)]
      rw [e1]
      clear e1
      go_enter Try.func52, Try.ntmps52
      go_wp2
      go_ret
      exact ⟨rfl, hbw _⟩

theorem unknownWrong_any (w : World) :
    Calls Try.prog 56 #[.agg #[]] w fun e w' => e = .returned (.int .i64 1) ∧ Below w.heap.size w w' := by
  go_enter Try.func56, Try.ntmps56
  go_wp2
  go_ret
  exact ⟨rfl, (Below.refl _ _).alloc (Nat.le_refl _) _⟩

/-- The type of a wild filter, by its lowest bits. -/
def wildT (x : Int) : TypeId := if x = 1 then 86 else if x = 2 then 89 else if x = 3 then 91 else if x = 4 then 94 else if x = 5 then 96 else if x = 6 then 98 else if x = 7 then 100 else 101
/-- A filter as a value. -/
def fltV (k n : Int) (key text : ByteArray) : Value :=
  if k = 1 then .iface 70 (.agg #[.string key, .string text]) else if k = 2 then .iface 71 (.agg #[.string key, .string text]) else if k = 3 then .iface 72 (.agg #[.string key, .string text])
  else if k = 4 then .iface 76 (.agg #[.int .i64 n, .int .i64 40]) else if k = 5 then .iface 77 (.agg #[.int .i64 n, .int .i64 4]) else if k = 6 then .iface 78 (.agg #[.int .i64 n, .int .i64 4])
  else if k = 7 then .iface (wildT (bits .and .i64 n 7)) (.agg #[.int .i64 n, .int .i64 7]) else .iface 81 (.agg #[])

set_option maxHeartbeats 1000000 in
theorem wild_any (n : Int) (w : World) :
    Calls Try.prog 25 #[.int .i64 n] w fun e w' => e = .returned (.iface (wildT (bits .and .i64 n 7)) (.agg #[.int .i64 n, .int .i64 7])) ∧ Below w.heap.size w w' := by
  have hbw : ∀ o : Obj, Below w.heap.size w (w.alloc o) := fun o => (Below.refl _ _).alloc (Nat.le_refl _) o
  generalize hx : bits .and .i64 n 7 = x
  have HX : Hid (bits .and .i64 n 7 = x) := hx
  go_enter Try.func25, Try.ntmps25
  go_wp2
  all_goals
    go_ret
    refine ⟨?_, hbw _⟩
    simp_all [wildT]

theorem kind_cases (k : Int) : k = 1 ∨ k = 2 ∨ k = 3 ∨ k = 4 ∨ k = 5 ∨ k = 6 ∨ k = 7 ∨ (k ≠ 1 ∧ k ≠ 2 ∧ k ≠ 3 ∧ k ≠ 4 ∧ k ≠ 5 ∧ k ≠ 6 ∧ k ≠ 7) := by omega

set_option maxHeartbeats 1000000 in
theorem new_any (k n : Int) (key text : ByteArray) (w : World) :
    Calls Try.prog 20 #[.agg #[.int .i64 k, .int .i64 n, .string key, .string text]] w fun e w' => e = .returned (fltV k n key text) ∧ Below w.heap.size w w' := by
  have hbw : ∀ o : Obj, Below w.heap.size w (w.alloc o) := fun o => (Below.refl _ _).alloc (Nat.le_refl _) o
  rcases kind_cases k with rfl | rfl | rfl | rfl | rfl | rfl | rfl | hk
  iterate 6
    · go_enter Try.func20, Try.ntmps20
      go_wp2
      go_ret
      exact ⟨by simp [fltV], hbw _⟩
  · go_enter Try.func20, Try.ntmps20
    go_wp2_with fail
    refine (wild_any n _).mono ?_
    rintro e w1 ⟨rfl, b1⟩
    go_wp2
    go_ret
    exact ⟨by simp [fltV], (hbw _).trans (b1.mono (by simp))⟩
  · obtain ⟨h1, h2, h3, h4, h5, h6, h7⟩ := hk
    have e1 : fltV k n key text = .iface 81 (.agg #[]) := by simp [fltV, h1, h2, h3, h4, h5, h6, h7]
    have q1 : (k == 1) = false := by simpa using h1
    have q2 : (k == 2) = false := by simpa using h2
    have q3 : (k == 3) = false := by simpa using h3
    have q4 : (k == 4) = false := by simpa using h4
    have q5 : (k == 5) = false := by simpa using h5
    have q6 : (k == 6) = false := by simpa using h6
    have q7 : (k == 7) = false := by simpa using h7
    rw [e1]
    clear e1 h1 h2 h3 h4 h5 h6 h7
    go_enter Try.func20, Try.ntmps20
    go_wp2
    go_ret
    exact ⟨rfl, hbw _⟩
end Go.Proofs.Ytoibpgcdocegdaa
