/- The closed fact that package caps' laws ask first; the law CapsWild walked. -/
import Derived.Test.YtoibpgcdocegdaaCapD
namespace Go.Proofs.Ytoibpgcdocegdaa
open Go.RowKit

def cf0 : Cf := ⟨[], [], [], 0, 0, 0, 0⟩
theorem rows_nil {α : Type} (c : α → List Value) (k : Nat) (w : World) : RowsAt c k w none ([] : List α) := ⟨fun i h => absurd h (Nat.not_lt_zero i), Nat.zero_le _⟩
theorem lies0 (w : World) : CfLies w cf0 none none none :=
  ⟨rows_nil _ _ _, rows_nil _ _ _, rows_nil _ _ _, (fun _ h => nomatch h), (fun _ h => nomatch h), (fun _ h => nomatch h)⟩

set_option maxRecDepth 100000 in
set_option maxHeartbeats 1000000 in
theorem alive_any (w : World) : Calls Try.prog 11 #[] w fun e w' => e = .returned (.bool true) ∧ Below w.heap.size w w' := by
  go_enter Try.func11, Try.ntmps11
  go_wp2_with fail
  refine (wrongC_any cf0 none none none 0 0 0 _ (lies0 _)).mono ?_
  rintro e w1 ⟨rfl, b1⟩
  rw [show wrongC cf0 = (3, -1) from by decide]
  have B1 : Hid (Below w.heap.size w w1) := b1
  have s1 := b1.size
  clear b1
  go_wp2_with fail
  refine (capsOf_any 7 5 ⟨#[]⟩ ⟨#[]⟩ _ (and7 5)).mono ?_
  rintro e w2 ⟨rfl, b2⟩
  rw [show canI 7 5 = 5 from by decide]
  have B2 : Hid (Below w.heap.size w w2) := B1.out.trans (b2.mono s1)
  have s2 := b2.size
  clear b2
  go_wp2_with fail
  refine (can_any 2 0 ⟨#[]⟩ ⟨#[]⟩ 2 _).mono ?_
  rintro e w3 ⟨rfl, b3⟩
  rw [show canB 2 0 2 = true from by decide]
  have B3 : Hid (Below w.heap.size w w3) := B2.out.trans (b3.mono (by omega))
  have s3 := b3.size
  clear b3
  go_wp2_with fail
  refine (can_any 2 0 ⟨#[]⟩ ⟨#[]⟩ 1 _).mono ?_
  rintro e w4 ⟨rfl, b4⟩
  rw [show canB 2 0 1 = false from by decide]
  have B4 : Hid (Below w.heap.size w w4) := B3.out.trans (b4.mono (by omega))
  clear b4
  go_wp2
  go_ret
  exact ⟨rfl, B4.out⟩

theorem and0 (x : Int) : bits .and .i64 x 0 = 0 := by
  have h : bits .and .i64 x 0 = IntKind.i64.wrap (((BitVec.ofInt 64 x &&& BitVec.ofInt 64 0).toNat : Nat) : Int) := rfl
  have h7 : (BitVec.ofInt 64 0).toNat = 0 := by decide
  rw [h, BitVec.toNat_and, h7, Nat.and_zero]
  decide
theorem canB_other (k n call : Int) (h1 : call ≠ 1) (h2 : call ≠ 2) (h3 : call ≠ 3) : canB k n call = false := by
  unfold canB bitI
  rw [if_neg h1, if_neg h2, if_neg h3, and0]
  decide
theorem wild_cases {n : Int} (h0 : 0 ≤ n) (h7 : n ≤ 7) : n = 0 ∨ n = 1 ∨ n = 2 ∨ n = 3 ∨ n = 4 ∨ n = 5 ∨ n = 6 ∨ n = 7 := by omega
theorem canI_wild {n : Int} (h0 : 0 ≤ n) (h7 : n ≤ 7) : canI 7 n = n := by
  rcases wild_cases h0 h7 with rfl | rfl | rfl | rfl | rfl | rfl | rfl | rfl <;> decide

set_option maxRecDepth 100000 in
set_option maxHeartbeats 4000000 in
theorem cwild_in (n call : Int) (w : World) (h0 : 0 ≤ n) (h7 : n ≤ 7) :
    Calls Try.prog 4 #[.int .i64 n, .int .i64 call] w fun e w' => e = .returned (.bool true) ∧ Below w.heap.size w w' := by
  have HO : Hid (∀ W, Calls Try.prog 7 #[.agg #[.int .i64 7, .int .i64 n, .string ⟨#[]⟩, .string ⟨#[]⟩]] W fun e w' => e = .returned (.int .i64 n) ∧ Below W.heap.size W w') := by
    intro W
    have := capsOf_any 7 n ⟨#[]⟩ ⟨#[]⟩ W (and7 n)
    rw [canI_wild h0 h7] at this
    exact this
  rcases call_cases call with rfl | rfl | rfl | ⟨h1, h2, h3⟩
  case inr.inr.inr =>
    have q1 : (call == 1) = false := by simpa using h1
    have q2 : (call == 2) = false := by simpa using h2
    have q3 : (call == 3) = false := by simpa using h3
    have HC : Hid (∀ W, Calls Try.prog 9 #[.agg #[.int .i64 7, .int .i64 n, .string ⟨#[]⟩, .string ⟨#[]⟩], .int .i64 call] W fun e w' => e = .returned (.bool false) ∧ Below W.heap.size W w') := by
      intro W
      have := can_any 7 n ⟨#[]⟩ ⟨#[]⟩ call W
      rw [canB_other 7 n call h1 h2 h3] at this
      exact this
    have p1 : decide (n < 0) = false := by simpa using h0
    have p2 : decide (7 < n) = false := by simpa using h7
    clear h0 h7 h1 h2 h3
    go_enter Try.func4, Try.ntmps4
    go_wp2_with fail
    refine (alive_any _).mono ?_
    rintro e w1 ⟨rfl, b1⟩
    have s1 := b1.size
    have B1 : Hid (Below w.heap.size w w1) := b1
    clear b1
    go_wp2_with fail
    refine (HO.out _).mono ?_
    rintro e w2 ⟨rfl, b2⟩
    have hbx := fun j => b2.cell (p := ⟨w1.heap.size, j, none⟩) (by simp)
    have hb0 := hbx 0
    have hb1 := hbx 1
    have hb2 := hbx 2
    have hb3 := hbx 3
    simp at hb0 hb1 hb2 hb3
    have s2 := b2.size
    simp at s2
    have lt : w1.heap.size < w2.heap.size := by omega
    have B2 : Hid (Below w.heap.size w w2) := (B1.out.alloc s1 _).trans (b2.mono (by simp; omega))
    clear b2 hbx
    go_wp2_with fail
    refine (HC.out _).mono ?_
    rintro e w3 ⟨rfl, b3⟩
    have B3 : Hid (Below w.heap.size w w3) := B2.out.trans (b3.mono (by omega))
    clear b3
    go_wp2
    go_ret
    exact ⟨rfl, B3.out⟩
  all_goals
    rcases wild_cases h0 h7 with rfl | rfl | rfl | rfl | rfl | rfl | rfl | rfl
    all_goals
      go_enter Try.func4, Try.ntmps4
      go_wp2_with fail
      refine (alive_any _).mono ?_
      rintro e w1 ⟨rfl, b1⟩
      have s1 := b1.size
      have B1 : Hid (Below w.heap.size w w1) := b1
      clear b1
      go_wp2_with fail
      refine (HO.out _).mono ?_
      rintro e w2 ⟨rfl, b2⟩
      have hbx := fun j => b2.cell (p := ⟨w1.heap.size, j, none⟩) (by simp)
      have hb0 := hbx 0
      have hb1 := hbx 1
      have hb2 := hbx 2
      have hb3 := hbx 3
      simp at hb0 hb1 hb2 hb3
      have s2 := b2.size
      simp at s2
      have lt : w1.heap.size < w2.heap.size := by omega
      have B2 : Hid (Below w.heap.size w w2) := (B1.out.alloc s1 _).trans (b2.mono (by simp; omega))
      clear b2 hbx
      go_wp2_with fail
      refine (can_any _ _ _ _ _ _).mono ?_
      rintro e w3 ⟨rfl, b3⟩
      have B3 : Hid (Below w.heap.size w w3) := B2.out.trans (b3.mono (by omega))
      clear b3
      go_wp2
      go_ret
      exact ⟨ret_bool (by decide), B3.out⟩

set_option maxHeartbeats 1000000 in
theorem cwild_out (n call : Int) (w : World) (h : n < 0 ∨ 7 < n) :
    Calls Try.prog 4 #[.int .i64 n, .int .i64 call] w fun e w' => e = .returned (.bool true) ∧ Below w.heap.size w w' := by
  rcases h with h | h
  · go_enter Try.func4, Try.ntmps4
    go_wp2_with fail
    refine (alive_any _).mono ?_
    rintro e w1 ⟨rfl, b1⟩
    go_wp2
    go_ret
    exact ⟨rfl, b1⟩
  · have h' : decide (n < 0) = false := by simp; omega
    go_enter Try.func4, Try.ntmps4
    go_wp2_with fail
    refine (alive_any _).mono ?_
    rintro e w1 ⟨rfl, b1⟩
    go_wp2
    go_ret
    exact ⟨rfl, b1⟩

theorem cwild_any (n call : Int) (w : World) :
    Calls Try.prog 4 #[.int .i64 n, .int .i64 call] w fun e w' => e = .returned (.bool true) ∧ Below w.heap.size w w' := by
  by_cases h : n < 0 ∨ 7 < n
  · exact cwild_out n call w h
  · exact cwild_in n call w (by omega) (by omega)
end Go.Proofs.Ytoibpgcdocegdaa
