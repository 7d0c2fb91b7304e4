/- The document's own answer: a filter's Wrong, Ask, Answer. -/
import Derived.Test.YtbpmcabeghbalaaMsgP
import Derived.Test.YtbpmcabeghbalaaCapA
import Derived.RegionTactic
namespace Go.Proofs.Ytbpmcabeghbalaa
open Go.RowKit

/-! What is wrong with a filter. -/
set_option maxHeartbeats 1000000 in
theorem rws_named (k n : Int) (key text : ByteArray) (w : World) (hk : key.size ≤ maxLen) (ht : text.size ≤ maxLen) (h : k = 1 ∨ k = 2 ∨ k = 3) :
    Calls Try.prog 8 #[.agg #[.int .i64 k, .int .i64 n, .string key, .string text]] w fun e w' => e = .returned (.int .i64 (namedE key text)) ∧ Below w.heap.size w w' := by
  have HK : Hid (key.size ≤ maxLen ∧ text.size ≤ maxLen) := ⟨hk, ht⟩
  clear hk ht
  have hbw : ∀ (o : Obj) (j : Nat), Below w.heap.size w ((w.alloc o).drewN j) := fun o j => belDrewN ((Below.refl _ _).alloc (Nat.le_refl _) o) j
  cases h1 : keyB key with
  | false =>
    have H1 : Hid (keyB key = false) := h1
    clear h1
    rcases h with rfl | rfl | rfl
    all_goals
      go_enter Try.func8, Try.ntmps8
      go_wp2_with fail
      refine (rkey_any key _ HK.out.1).mono ?_
      rintro e w1 ⟨rfl, j, rfl⟩
      rw [H1.out]
      go_wp2
      go_ret
      exact ⟨by rw [namedE, H1.out]; rfl, hbw _ _⟩
  | true =>
    have H1 : Hid (keyB key = true) := h1
    clear h1
    cases h2 : linB text with
    | false =>
      have H2 : Hid (linB text = false) := h2
      clear h2
      rcases h with rfl | rfl | rfl
      all_goals
        go_enter Try.func8, Try.ntmps8
        go_wp2_with fail
        refine (rkey_any key _ HK.out.1).mono ?_
        rintro e w1 ⟨rfl, j, rfl⟩
        rw [H1.out]
        go_wp2_with fail
        refine (rline_any text _ HK.out.2).mono ?_
        rintro e w1 ⟨rfl, rfl⟩
        rw [H2.out]
        go_wp2
        go_ret
        exact ⟨by rw [namedE, H1.out, H2.out]; rfl, hbw _ _⟩
    | true =>
      have H2 : Hid (linB text = true) := h2
      clear h2
      rcases h with rfl | rfl | rfl
      all_goals
        go_enter Try.func8, Try.ntmps8
        go_wp2_with fail
        refine (rkey_any key _ HK.out.1).mono ?_
        rintro e w1 ⟨rfl, j, rfl⟩
        rw [H1.out]
        go_wp2_with fail
        refine (rline_any text _ HK.out.2).mono ?_
        rintro e w1 ⟨rfl, rfl⟩
        rw [H2.out]
        go_wp2
        go_ret
        exact ⟨by rw [namedE, H1.out, H2.out]; rfl, hbw _ _⟩

set_option maxHeartbeats 1000000 in
theorem rws_4 (n : Int) (key text : ByteArray) (w : World) :
    Calls Try.prog 8 #[.agg #[.int .i64 4, .int .i64 n, .string key, .string text]] w fun e w' => e = .returned (.int .i64 (countE n 40)) ∧ Below w.heap.size w w' := by
  have hbw : ∀ o : Obj, Below w.heap.size w (w.alloc o) := fun o => (Below.refl _ _).alloc (Nat.le_refl _) o
  by_cases h1 : n < 0
  · have e1 : countE n 40 = 3 := by rw [countE, if_pos (.inl h1)]
    rw [e1]
    clear e1
    go_enter Try.func8, Try.ntmps8
    go_wp2
    go_ret
    exact ⟨rfl, hbw _⟩
  · have h1' : decide (n < 0) = false := by simpa using h1
    by_cases h2 : 40 < n
    · have e1 : countE n 40 = 3 := by rw [countE, if_pos (.inr h2)]
      rw [e1]
      clear e1
      go_enter Try.func8, Try.ntmps8
      go_wp2
      go_ret
      exact ⟨rfl, hbw _⟩
    · have e1 : countE n 40 = 0 := by rw [countE, if_neg (by omega)]
      rw [e1]
      clear e1
      go_enter Try.func8, Try.ntmps8
      go_wp2
      go_ret
      exact ⟨rfl, hbw _⟩

set_option maxHeartbeats 1000000 in
theorem rws_5 (n : Int) (key text : ByteArray) (w : World) :
    Calls Try.prog 8 #[.agg #[.int .i64 5, .int .i64 n, .string key, .string text]] w fun e w' => e = .returned (.int .i64 (countE n 4)) ∧ Below w.heap.size w w' := by
  have hbw : ∀ o : Obj, Below w.heap.size w (w.alloc o) := fun o => (Below.refl _ _).alloc (Nat.le_refl _) o
  by_cases h1 : n < 0
  · have e1 : countE n 4 = 3 := by rw [countE, if_pos (.inl h1)]
    rw [e1]
    clear e1
    go_enter Try.func8, Try.ntmps8
    go_wp2
    go_ret
    exact ⟨rfl, hbw _⟩
  · have h1' : decide (n < 0) = false := by simpa using h1
    by_cases h2 : 4 < n
    · have e1 : countE n 4 = 3 := by rw [countE, if_pos (.inr h2)]
      rw [e1]
      clear e1
      go_enter Try.func8, Try.ntmps8
      go_wp2
      go_ret
      exact ⟨rfl, hbw _⟩
    · have e1 : countE n 4 = 0 := by rw [countE, if_neg (by omega)]
      rw [e1]
      clear e1
      go_enter Try.func8, Try.ntmps8
      go_wp2
      go_ret
      exact ⟨rfl, hbw _⟩

set_option maxHeartbeats 1000000 in
theorem rws_6 (n : Int) (key text : ByteArray) (w : World) :
    Calls Try.prog 8 #[.agg #[.int .i64 6, .int .i64 n, .string key, .string text]] w fun e w' => e = .returned (.int .i64 (countE n 4)) ∧ Below w.heap.size w w' := by
  have hbw : ∀ o : Obj, Below w.heap.size w (w.alloc o) := fun o => (Below.refl _ _).alloc (Nat.le_refl _) o
  by_cases h1 : n < 0
  · have e1 : countE n 4 = 3 := by rw [countE, if_pos (.inl h1)]
    rw [e1]
    clear e1
    go_enter Try.func8, Try.ntmps8
    go_wp2
    go_ret
    exact ⟨rfl, hbw _⟩
  · have h1' : decide (n < 0) = false := by simpa using h1
    by_cases h2 : 4 < n
    · have e1 : countE n 4 = 3 := by rw [countE, if_pos (.inr h2)]
      rw [e1]
      clear e1
      go_enter Try.func8, Try.ntmps8
      go_wp2
      go_ret
      exact ⟨rfl, hbw _⟩
    · have e1 : countE n 4 = 0 := by rw [countE, if_neg (by omega)]
      rw [e1]
      clear e1
      go_enter Try.func8, Try.ntmps8
      go_wp2
      go_ret
      exact ⟨rfl, hbw _⟩

set_option maxHeartbeats 1000000 in
theorem rws_7 (n : Int) (key text : ByteArray) (w : World) :
    Calls Try.prog 8 #[.agg #[.int .i64 7, .int .i64 n, .string key, .string text]] w fun e w' => e = .returned (.int .i64 (countE n 7)) ∧ Below w.heap.size w w' := by
  have hbw : ∀ o : Obj, Below w.heap.size w (w.alloc o) := fun o => (Below.refl _ _).alloc (Nat.le_refl _) o
  by_cases h1 : n < 0
  · have e1 : countE n 7 = 3 := by rw [countE, if_pos (.inl h1)]
    rw [e1]
    clear e1
    go_enter Try.func8, Try.ntmps8
    go_wp2
    go_ret
    exact ⟨rfl, hbw _⟩
  · have h1' : decide (n < 0) = false := by simpa using h1
    by_cases h2 : 7 < n
    · have e1 : countE n 7 = 3 := by rw [countE, if_pos (.inr h2)]
      rw [e1]
      clear e1
      go_enter Try.func8, Try.ntmps8
      go_wp2
      go_ret
      exact ⟨rfl, hbw _⟩
    · have e1 : countE n 7 = 0 := by rw [countE, if_neg (by omega)]
      rw [e1]
      clear e1
      go_enter Try.func8, Try.ntmps8
      go_wp2
      go_ret
      exact ⟨rfl, hbw _⟩

set_option maxHeartbeats 1000000 in
theorem rws_any (k n : Int) (key text : ByteArray) (w : World) (hk : key.size ≤ maxLen) (ht : text.size ≤ maxLen) :
    Calls Try.prog 8 #[.agg #[.int .i64 k, .int .i64 n, .string key, .string text]] w fun e w' => e = .returned (.int .i64 (sieveE k n key text)) ∧ Below w.heap.size w w' := by
  rcases kind_cases k with rfl | rfl | rfl | rfl | rfl | rfl | rfl | h
  · exact rws_named 1 n key text w hk ht (.inl rfl)
  · exact rws_named 2 n key text w hk ht (.inr (.inl rfl))
  · exact rws_named 3 n key text w hk ht (.inr (.inr rfl))
  · exact rws_4 n key text w
  · exact rws_5 n key text w
  · exact rws_6 n key text w
  · exact rws_7 n key text w
  · obtain ⟨h1, h2, h3, h4, h5, h6, h7⟩ := h
    have e1 : sieveE k n key text = 1 := by simp [sieveE, h1, h2, h3, h4, h5, h6, h7]
    have q1 : (k == 1) = false := by simpa using h1
    have q2 : (k == 2) = false := by simpa using h2
    have q3 : (k == 3) = false := by simpa using h3
    have q4 : (k == 4) = false := by simpa using h4
    have q5 : (k == 5) = false := by simpa using h5
    have q6 : (k == 6) = false := by simpa using h6
    have q7 : (k == 7) = false := by simpa using h7
    rw [e1]
    clear e1 h1 h2 h3 h4 h5 h6 h7
    go_enter Try.func8, Try.ntmps8
    go_wp2
    go_ret
    exact ⟨rfl, (Below.refl _ _).alloc (Nat.le_refl _) _⟩
end Go.Proofs.Ytbpmcabeghbalaa
