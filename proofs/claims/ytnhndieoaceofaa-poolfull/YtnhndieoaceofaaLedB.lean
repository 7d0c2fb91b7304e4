/- Two ledgers compared. -/
import Derived.Test.YtnhndieoaceofaaLedA
namespace Go.Proofs.Ytnhndieoaceofaa
open Go.RowKit

theorem Try.cells3 : (Try.prog.info? 3).map (·.size) = some 1 := by kernel_rfl
theorem part0 (a0 a1 a2 a3 : Int) (w : World) : (part 3 #[.int .i64 a0, .int .i64 a1, .int .i64 a2, .int .i64 a3] 0).run Try.prog w = .ok (.int .i64 a0) w := by kernel_rfl
theorem part1 (a0 a1 a2 a3 : Int) (w : World) : (part 3 #[.int .i64 a0, .int .i64 a1, .int .i64 a2, .int .i64 a3] 1).run Try.prog w = .ok (.int .i64 a1) w := by kernel_rfl
theorem part2 (a0 a1 a2 a3 : Int) (w : World) : (part 3 #[.int .i64 a0, .int .i64 a1, .int .i64 a2, .int .i64 a3] 2).run Try.prog w = .ok (.int .i64 a2) w := by kernel_rfl
theorem part3 (a0 a1 a2 a3 : Int) (w : World) : (part 3 #[.int .i64 a0, .int .i64 a1, .int .i64 a2, .int .i64 a3] 3).run Try.prog w = .ok (.int .i64 a3) w := by kernel_rfl
theorem run_eq23d (d : Nat) (a0 a1 a2 a3 b0 b1 b2 b3 : Int) (w : World) : (Op.equalIn (d + 2) 23 (.agg #[.int .i64 a0, .int .i64 a1, .int .i64 a2, .int .i64 a3]) (.agg #[.int .i64 b0, .int .i64 b1, .int .i64 b2, .int .i64 b3])).run Try.prog w = .ok ((a0 == b0) && ((a1 == b1) && ((a2 == b2) && (a3 == b3)))) w := by
  obtain ⟨i, hi, hs⟩ := Option.map_eq_some_iff.1 Try.cells3
  have h3 : ∀ a b, (Op.equalIn (d + 1) 3 (.int .i64 a) (.int .i64 b)).run Try.prog w = .ok (a == b) w := fun a b => run_equalIn_int (P := Try.prog) w d 3 .i64 .i64 a b Try.underlying3
  have hr : List.range' 0 4 = [0, 1, 2, 3] := by decide
  rw [Op.equalIn]
  simp [run_underlying Try.underlying23, sizeOf, typeInfo, hi, hs, hr, part0, part1, part2, part3, h3]
  by_cases h0 : a0 = b0 <;> by_cases h1 : a1 = b1 <;> by_cases h2 : a2 = b2 <;> by_cases h4 : a3 = b3 <;> simp [h0, h1, h2, h4]
theorem run_eq23 (a0 a1 a2 a3 b0 b1 b2 b3 : Int) (w : World) : (Op.equalIn 10000 23 (.agg #[.int .i64 a0, .int .i64 a1, .int .i64 a2, .int .i64 a3]) (.agg #[.int .i64 b0, .int .i64 b1, .int .i64 b2, .int .i64 b3])).run Try.prog w = .ok ((a0 == b0) && ((a1 == b1) && ((a2 == b2) && (a3 == b3)))) w := run_eq23d 9998 a0 a1 a2 a3 b0 b1 b2 b3 w
theorem Try.guard23 : Try.prog.eqGuardType Try.prog.depth 23 = false := by kernel_rfl
def mostB (a b : Lg) : Bool := (a.m0 == b.m0) && ((a.m1 == b.m1) && ((a.m2 == b.m2) && (a.m3 == b.m3)))
def lgB (a b : Lg) : Bool := mostB a b && hsB a.holds b.holds
theorem lgB_self (a : Lg) : lgB a a = true := by unfold lgB mostB; rw [(hsB_true _ _).2 rfl]; simp

set_option maxHeartbeats 1000000 in
theorem sameLedger_any (a b : Lg) (va vb : Value) (w : World) (ha : LgAt w va a) (hb : LgAt w vb b) :
    Calls Try.prog 14 #[va, vb] w fun e w' => e = .returned (.bool (lgB a b)) ∧ Below w.heap.size w w' := by
  obtain ⟨ao, c, rfl, a1, _⟩ := ha
  obtain ⟨bo, d, rfl, b1, _⟩ := hb
  unfold lgV
  have hbw : ∀ o o' : Obj, Below w.heap.size w ((w.alloc o).alloc o') := fun o o' => ((Below.refl _ _).alloc (Nat.le_refl _) _).alloc (by simp) _
  have a1' := fun o o' => a1.below (Nat.le_refl _) (hbw o o')
  have b1' := fun o o' => b1.below (Nat.le_refl _) (hbw o o')
  have HE : Hid (lgB a b = (mostB a b && hsB a.holds b.holds)) := rfl
  have q2 := Try.guard23
  have q3 := run_eq23
  cases hm : mostB a b with
  | true =>
    have hm' := hm
    simp only [mostB, Bool.and_eq_true] at hm'
    obtain ⟨e0, e1, e2, e3⟩ := hm'
    have HM : Hid (mostB a b = true) := hm
    clear hm
    go_enter Try.func14, Try.ntmps14
    go_wp2_with (go_at_call 24; refine (sameHolds_any _ _ _ _ _ _ _ (a1' _ _) (b1' _ _)).mono ?_; rintro e w1 ⟨rfl, n, rfl⟩)
    go_ret
    exact ⟨ret_bool (by rw [HE.out, HM.out]; rfl), belDrewN (hbw _ _) n⟩
  | false =>
    have hf : (a.m0 == b.m0) = false ∨ (a.m0 == b.m0) = true ∧ (a.m1 == b.m1) = false ∨ (a.m0 == b.m0) = true ∧ (a.m1 == b.m1) = true ∧ (a.m2 == b.m2) = false ∨ (a.m0 == b.m0) = true ∧ (a.m1 == b.m1) = true ∧ (a.m2 == b.m2) = true ∧ (a.m3 == b.m3) = false := by
      unfold mostB at hm
      cases e0 : (a.m0 == b.m0) <;> cases e1 : (a.m1 == b.m1) <;> cases e2 : (a.m2 == b.m2) <;> cases e3 : (a.m3 == b.m3) <;> simp_all
    have HM : Hid (mostB a b = false) := hm
    clear hm
    rcases hf with e0 | ⟨e0, e1⟩ | ⟨e0, e1, e2⟩ | ⟨e0, e1, e2, e3⟩
    all_goals
      go_enter Try.func14, Try.ntmps14
      go_wp2
      go_ret
      exact ⟨ret_bool (by rw [HE.out, HM.out]; rfl), hbw _ _⟩
end Go.Proofs.Ytnhndieoaceofaa
