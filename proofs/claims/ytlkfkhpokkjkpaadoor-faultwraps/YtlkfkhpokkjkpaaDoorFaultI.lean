/- The walk of the law FaultWraps, and of the closed fact that it asks first. -/
import Derived.Test.YtlkfkhpokkjkpaaDoorFaultH
import Derived.Test.YtlkfkhpokkjkpaaDoorMsgS
namespace Go.Proofs.YtlkfkhpokkjkpaaDoor
open Go.RowKit

theorem dec2 : Lib.itoa 2 = [50] := by simp [Lib.itoa, Lib.decDigits]
theorem dec1 : Lib.itoa 1 = [49] := by simp [Lib.itoa, Lib.decDigits]
def aliveT : ByteArray := ⟨#[112, 97, 110, 105, 99, 32, 97, 116, 32, 50, 46, 49, 32, 40, 102, 97, 105, 108, 41, 58, 32, 120]⟩
theorem alive_textF : textF 2 2 1 1 ⟨#[120]⟩ = ⟨#[112, 97, 110, 105, 99, 32, 97, 116, 32, 50, 46, 49, 32, 40, 102, 97, 105, 108, 41, 58, 32, 120]⟩ := by
  unfold textF atF
  rw [dec2, dec1]
  rfl
theorem fa_text (w : World) (hg : GlobT w) : Calls Tryd.prog 30 #[.agg #[.int .i64 2, .int .i64 2, .int .i64 1, .string ⟨#[120]⟩, .int .i64 1]] w fun e w' => e = .returned (.string ⟨#[112, 97, 110, 105, 99, 32, 97, 116, 32, 50, 46, 49, 32, 40, 102, 97, 105, 108, 41, 58, 32, 120]⟩) ∧ Below w.heap.size w w' := by
  have h := textF_any 2 2 1 1 ⟨#[120]⟩ w ⟨by decide, by decide⟩ ⟨by decide, by decide⟩ (by decide) hg
  rw [alive_textF] at h
  exact h
theorem fa_is (a : Int) (w : World) : Calls Tryd.prog 28 #[.agg #[.int .i64 2, .int .i64 2, .int .i64 1, .string ⟨#[120]⟩, .int .i64 1], .int .i64 a] w fun e w' => e = .returned (.bool (isB 2 1 a)) ∧ Below w.heap.size w w' := faultIs_any 2 2 1 1 a ⟨#[120]⟩ w
theorem fa_status (w : World) : Calls Tryd.prog 33 #[.agg #[.int .i64 2, .int .i64 2, .int .i64 1, .string ⟨#[120]⟩, .int .i64 1]] w fun e w' => e = .returned (.int .i64 500) ∧ Below w.heap.size w w' := status_any 2 2 1 1 ⟨#[120]⟩ w
theorem agg4_inv {a0 a1 a2 a3 b0 b1 b2 b3 : Value} (h : Value.agg #[a0, a1, a2, a3] = .agg #[b0, b1, b2, b3]) : a0 = b0 ∧ a1 = b1 ∧ a2 = b2 ∧ a3 = b3 := by simpa using h
theorem field25_3 (a b c : Value) (p : Addr) (n m : Nat) (w : World) : (Instr.field 25 (.agg #[a, b, c, .slice (some p) n m]) 3).run Tryd.prog w = .ok (.slice (some p) n m) w := by kernel_rfl
theorem fa_answer (w : World) : Calls Tryd.prog 35 #[.agg #[.int .i64 2, .int .i64 2, .int .i64 1, .string ⟨#[120]⟩, .int .i64 1]] w fun e w' => ∃ b d, e = .returned (.agg #[.int .i64 500, .string ⟨#[]⟩, .slice none 0 0, .slice (some ⟨b, 0, none⟩) 5 d]) ∧ (convert 23 9 (.slice (some ⟨b, 0, none⟩) 5 d)).run Tryd.prog w' = .ok (.string ⟨#[112, 97, 110, 105, 99]⟩) w' ∧ Below w.heap.size w w' := by
  refine (faultAnswer_any 2 2 1 1 ⟨#[120]⟩ w).mono ?_
  rintro e w' ⟨b, d, rfl, hm, hb⟩
  refine ⟨b, d, rfl, ?_, hb⟩
  obtain ⟨⟨ao, c, bo, d', e, _, h2, _⟩, _⟩ := hm
  have e2 : bo = some ⟨b, 0, none⟩ := by
    have e3 := (agg4_inv e).2.2.2
    injection e3 with e4 _ _
    exact e4.symm
  subst e2
  exact conv_body h2 d

set_option maxRecDepth 100000 in
set_option maxHeartbeats 1000000 in
theorem falive_any (w : World) (hg : GlobT w) : Calls Tryd.prog 37 #[] w fun e w' => e = .returned (.bool true) ∧ Below w.heap.size w w' := by
  have HG : Hid (GlobT w) := hg
  clear hg
  have bx0 := FBoxAt.made w 2 2 1 1 ⟨#[120]⟩
  have ba : Below w.heap.size w (w.alloc (.cells #[.int .i64 2, .int .i64 2, .int .i64 1, .string ⟨#[120]⟩, .int .i64 1] 44)) := (Below.refl _ _).alloc (Nat.le_refl _) _
  go_enter Tryd.func37, Tryd.ntmps37
  go_wp2_with fail
  refine (fa_text _ (HG.out.below ba)).mono ?_
  rintro e w1 ⟨rfl, b1⟩
  have A1 : FBoxAt w1 _ _ _ _ _ _ := bx0.below b1
  have B1 : Hid (Below w.heap.size w w1) := ba.trans (b1.mono ba.size)
  clear bx0 ba b1
  have HA1 : Hid (FBoxAt w1 _ _ _ _ _ _) := A1
  obtain ⟨c0, c1, c2, c3, c4, lt⟩ := A1
  go_wp2_with fail
  refine (fa_is 1 _).mono ?_
  rintro e w2 ⟨rfl, b2⟩
  rw [show isB 2 1 1 = true from rfl]
  have A2 : FBoxAt w2 _ _ _ _ _ _ := HA1.out.below b2
  have B2 : Hid (Below w.heap.size w w2) := B1.out.trans (b2.mono B1.out.size)
  clear c0 c1 c2 c3 c4 lt HA1 b2 B1
  have HA2 : Hid (FBoxAt w2 _ _ _ _ _ _) := A2
  obtain ⟨c0, c1, c2, c3, c4, lt⟩ := A2
  go_wp2_with fail
  refine (fa_is 2 _).mono ?_
  rintro e w3 ⟨rfl, b3⟩
  rw [show isB 2 1 2 = true from rfl]
  have A3 : FBoxAt w3 _ _ _ _ _ _ := HA2.out.below b3
  have B3 : Hid (Below w.heap.size w w3) := B2.out.trans (b3.mono B2.out.size)
  clear c0 c1 c2 c3 c4 lt HA2 b3 B2
  have HA3 : Hid (FBoxAt w3 _ _ _ _ _ _) := A3
  obtain ⟨c0, c1, c2, c3, c4, lt⟩ := A3
  go_wp2_with fail
  refine (fa_is 4 _).mono ?_
  rintro e w4 ⟨rfl, b4⟩
  rw [show isB 2 1 4 = false from rfl]
  have A4 : FBoxAt w4 _ _ _ _ _ _ := HA3.out.below b4
  have B4 : Hid (Below w.heap.size w w4) := B3.out.trans (b4.mono B3.out.size)
  clear c0 c1 c2 c3 c4 lt HA3 b4 B3
  have HA4 : Hid (FBoxAt w4 _ _ _ _ _ _) := A4
  obtain ⟨c0, c1, c2, c3, c4, lt⟩ := A4
  go_wp2_with fail
  refine (fa_status _).mono ?_
  rintro e w5 ⟨rfl, b5⟩
  have A5 : FBoxAt w5 _ _ _ _ _ _ := HA4.out.below b5
  have B5 : Hid (Below w.heap.size w w5) := B4.out.trans (b5.mono B4.out.size)
  clear c0 c1 c2 c3 c4 lt HA4 b5 B4
  obtain ⟨c0, c1, c2, c3, c4, lt⟩ := A5
  go_wp2_with fail
  refine (fa_answer _).mono ?_
  rintro e w6 ⟨b, d, rfl, hcv, b6⟩
  have B6 : Hid (Below w.heap.size w w6) := B5.out.trans (b6.mono B5.out.size)
  clear c0 c1 c2 c3 c4 lt b6 B5
  have hfd := field25_3
  go_wp2_with fail
  refine (new_ex 4 _).mono ?_
  rintro e w7 ⟨rfl, b7⟩
  have B7 : Hid (Below w.heap.size w w7) := B6.out.trans (b7.mono B6.out.size)
  clear b7 B6 hcv
  go_wp2
  go_ret
  exact ⟨rfl, B7.out⟩
end Go.Proofs.YtlkfkhpokkjkpaaDoor
