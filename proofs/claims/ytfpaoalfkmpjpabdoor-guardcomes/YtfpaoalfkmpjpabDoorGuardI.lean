/- The laws GuardTells and GuardComes walked. -/
import Derived.Test.YtfpaoalfkmpjpabDoorGuardH
namespace Go.Proofs.YtfpaoalfkmpjpabDoor
open Go.RowKit

/-! '==' of a fault and of what came of a call with itself. -/
theorem fpart0 (k fi ca inn : Int) (t : ByteArray) (w : World) : (part 3 #[.int .i64 k, .int .i64 fi, .int .i64 ca, .string t, .int .i64 inn] 0).run Tryd.prog w = .ok (.int .i64 k) w := by kernel_rfl
theorem fpart1 (k fi ca inn : Int) (t : ByteArray) (w : World) : (part 3 #[.int .i64 k, .int .i64 fi, .int .i64 ca, .string t, .int .i64 inn] 1).run Tryd.prog w = .ok (.int .i64 fi) w := by kernel_rfl
theorem fpart2 (k fi ca inn : Int) (t : ByteArray) (w : World) : (part 3 #[.int .i64 k, .int .i64 fi, .int .i64 ca, .string t, .int .i64 inn] 2).run Tryd.prog w = .ok (.int .i64 ca) w := by kernel_rfl
theorem fpart3 (k fi ca inn : Int) (t : ByteArray) (w : World) : (part 9 #[.int .i64 k, .int .i64 fi, .int .i64 ca, .string t, .int .i64 inn] 3).run Tryd.prog w = .ok (.string t) w := by kernel_rfl
theorem fpart4 (k fi ca inn : Int) (t : ByteArray) (w : World) : (part 3 #[.int .i64 k, .int .i64 fi, .int .i64 ca, .string t, .int .i64 inn] 4).run Tryd.prog w = .ok (.int .i64 inn) w := by kernel_rfl
theorem opart0 (d k fi ca inn : Int) (t : ByteArray) (w : World) : (part 3 #[.int .i64 d, .int .i64 k, .int .i64 fi, .int .i64 ca, .string t, .int .i64 inn] 0).run Tryd.prog w = .ok (.int .i64 d) w := by kernel_rfl
theorem opart1 (d k fi ca inn : Int) (t : ByteArray) (w : World) : (part 23 #[.int .i64 d, .int .i64 k, .int .i64 fi, .int .i64 ca, .string t, .int .i64 inn] 1).run Tryd.prog w = .ok (.agg #[.int .i64 k, .int .i64 fi, .int .i64 ca, .string t, .int .i64 inn]) w := by kernel_rfl
theorem eq23d (n : Nat) (k fi ca inn : Int) (t : ByteArray) (w : World) : (Op.equalIn (n + 2) 23 (.agg #[.int .i64 k, .int .i64 fi, .int .i64 ca, .string t, .int .i64 inn]) (.agg #[.int .i64 k, .int .i64 fi, .int .i64 ca, .string t, .int .i64 inn])).run Tryd.prog w = .ok true w := by
  have h3 : ∀ a, (Op.equalIn (n + 1) 3 (.int .i64 a) (.int .i64 a)).run Tryd.prog w = .ok true w := fun a => by simp [Op.equalIn, run_underlying Tryd.underlying3]
  have h9 : ∀ a, (Op.equalIn (n + 1) 9 (.string a) (.string a)).run Tryd.prog w = .ok true w := fun a => by rw [run_equalIn_string w n 9 a a Tryd.underlying9]; simp
  rw [Op.equalIn]
  simp [run_underlying Tryd.underlying23, fpart0, fpart1, fpart2, fpart3, fpart4, h3, h9]
theorem eq25d (n : Nat) (d k fi ca inn : Int) (t : ByteArray) (w : World) : (Op.equalIn (n + 3) 25 (.agg #[.int .i64 d, .int .i64 k, .int .i64 fi, .int .i64 ca, .string t, .int .i64 inn]) (.agg #[.int .i64 d, .int .i64 k, .int .i64 fi, .int .i64 ca, .string t, .int .i64 inn])).run Tryd.prog w = .ok true w := by
  have h3 : ∀ a, (Op.equalIn (n + 2) 3 (.int .i64 a) (.int .i64 a)).run Tryd.prog w = .ok true w := fun a => by simp [Op.equalIn, run_underlying Tryd.underlying3]
  rw [Op.equalIn]
  simp [run_underlying Tryd.underlying25, opart0, opart1, h3, eq23d]
theorem eq23 (k fi ca inn : Int) (t : ByteArray) (w : World) : (Op.equalIn 10000 23 (.agg #[.int .i64 k, .int .i64 fi, .int .i64 ca, .string t, .int .i64 inn]) (.agg #[.int .i64 k, .int .i64 fi, .int .i64 ca, .string t, .int .i64 inn])).run Tryd.prog w = .ok true w := eq23d 9998 k fi ca inn t w
theorem eq25 (d k fi ca inn : Int) (t : ByteArray) (w : World) : (Op.equalIn 10000 25 (.agg #[.int .i64 d, .int .i64 k, .int .i64 fi, .int .i64 ca, .string t, .int .i64 inn]) (.agg #[.int .i64 d, .int .i64 k, .int .i64 fi, .int .i64 ca, .string t, .int .i64 inn])).run Tryd.prog w = .ok true w := eq25d 9997 d k fi ca inn t w
theorem Tryd.guard23 : Tryd.prog.eqGuardType Tryd.prog.depth 23 = false := by kernel_rfl
theorem Tryd.guard25 : Tryd.prog.eqGuardType Tryd.prog.depth 25 = false := by kernel_rfl

/-- What comes of a call is six cells. -/
theorem calledV_out (fi ca d : Int) (t : ByteArray) : ∃ d' k fi' ca' inn s, calledV fi ca d t = .agg #[.int .i64 d', .int .i64 k, .int .i64 fi', .int .i64 ca', .string s, .int .i64 inn] := by
  unfold calledV outV
  repeat' split
  all_goals exact ⟨_, _, _, _, _, _, rfl⟩

theorem gtells_any (fi ca d : Int) (t : ByteArray) (w : World) (hg : Glob w) :
    Calls Tryd.prog 3 #[.int .i64 fi, .int .i64 ca, .int .i64 d, .string t] w fun e w' => e = .returned (.bool true) ∧ Below w.heap.size w w' := by
  obtain ⟨d', k, fi', ca', inn, s, hv⟩ := calledV_out fi ca d t
  have HV : Hid (calledV fi ca d t = .agg #[.int .i64 d', .int .i64 k, .int .i64 fi', .int .i64 ca', .string s, .int .i64 inn]) := hv
  have HG : Hid (Glob w) := hg
  clear hv hg
  have q1 := Tryd.guard25
  have q2 := eq25
  go_enter Tryd.func3, Tryd.ntmps3
  go_wp2_with fail
  refine (call_any fi ca d t _ HG.out).mono ?_
  rintro e w1 ⟨rfl, b1⟩
  rw [HV.out]
  go_wp2_with fail
  refine (called_any fi ca d t _).mono ?_
  rintro e w2 ⟨rfl, b2⟩
  rw [HV.out]
  go_wp2
  go_ret
  exact ⟨rfl, b1.trans (b2.mono b1.size)⟩

theorem field1 (d k fi ca inn : Int) (t : ByteArray) (w : World) : (Instr.field 25 (.agg #[.int .i64 d, .int .i64 k, .int .i64 fi, .int .i64 ca, .string t, .int .i64 inn]) 1).run Tryd.prog w = .ok (.agg #[.int .i64 k, .int .i64 fi, .int .i64 ca, .string t, .int .i64 inn]) w := by kernel_rfl
set_option maxRecDepth 100000 in
theorem alive_any (w : World) (hg : Glob w) : Calls Tryd.prog 7 #[] w fun e w' => e = .returned (.bool true) ∧ Below w.heap.size w w' := by
  have HG : Hid (Glob w) := hg
  clear hg
  have q1 := Tryd.guard25
  have q2 := eq25
  have q3 := Tryd.guard23
  have q4 := eq23
  have q5 := field1
  go_enter Tryd.func7, Tryd.ntmps7
  go_wp2_with fail
  refine (call_goes 3 1 1 ⟨#[]⟩ _ (.inr (.inl rfl))).mono ?_
  rintro e w1 ⟨rfl, b1⟩
  unfold outV
  go_wp2_with fail
  refine (call_any 3 1 3 ⟨#[120]⟩ _ (HG.out.below b1 HG.out.pos)).mono ?_
  rintro e w2 ⟨rfl, b2⟩
  rw [show calledV 3 1 3 ⟨#[120]⟩ = .agg #[.int .i64 0, .int .i64 2, .int .i64 3, .int .i64 1, .string ⟨#[120]⟩, .int .i64 0] by simp [calledV, outV]]
  go_wp2
  go_ret
  exact ⟨rfl, b1.trans (b2.mono b1.size)⟩

set_option maxRecDepth 100000 in
set_option maxHeartbeats 1000000 in
/-- Behind alive: a call that may not be asked. -/
theorem gcomes_out (fi ca d : Int) (t : ByteArray) (w : World) (hg : Glob w) (h : fi < 0 ∨ d < 0 ∨ 6 < d) :
    Calls Tryd.prog 4 #[.int .i64 fi, .int .i64 ca, .int .i64 d, .string t] w fun e w' => e = .returned (.bool true) ∧ Below w.heap.size w w' := by
  have HG : Hid (Glob w) := hg
  clear hg
  rcases h with h | h | h
  all_goals
    go_enter Tryd.func4, Tryd.ntmps4
    go_wp2_with fail
    refine (alive_any _ HG.out).mono ?_
    rintro e w1 ⟨rfl, b1⟩
    go_wp2
    all_goals
      go_ret
      exact ⟨rfl, b1⟩

set_option maxRecDepth 100000 in
set_option maxHeartbeats 1000000 in
theorem gcomes_goes (fi ca d : Int) (t : ByteArray) (w : World) (hg : Glob w) (hf : ¬ fi < 0) (h : d = 0 ∨ d = 1 ∨ d = 6) :
    Calls Tryd.prog 4 #[.int .i64 fi, .int .i64 ca, .int .i64 d, .string t] w fun e w' => e = .returned (.bool true) ∧ Below w.heap.size w w' := by
  have HG : Hid (Glob w) := hg
  clear hg
  have q1 := Tryd.guard25
  have q2 := eq25
  rcases h with rfl | rfl | rfl
  all_goals
    go_enter Tryd.func4, Tryd.ntmps4
    go_wp2_with fail
    refine (alive_any _ HG.out).mono ?_
    rintro e w1 ⟨rfl, b1⟩
    go_wp2_with fail
    refine (call_goes fi ca _ t _ ?_).mono ?_
    · decide
    rintro e w2 ⟨rfl, b2⟩
    unfold outV
    go_wp2
    go_ret
    exact ⟨rfl, (b1.trans (b2.mono b1.size)).alloc (Nat.le_trans b1.size b2.size) _⟩

set_option maxRecDepth 100000 in
set_option maxHeartbeats 1000000 in
theorem gcomes_fails (fi ca d k inn : Int) (s t : ByteArray) (w : World) (hg : Glob w) (hf : ¬ fi < 0) (h : d = 2 ∨ d = 3 ∨ d = 4 ∨ d = 5) (hk : (k != 0) = true) (hs : (d == 5) = false → s = t) (hv : calledV fi ca d t = outV 0 k fi ca inn s) :
    Calls Tryd.prog 4 #[.int .i64 fi, .int .i64 ca, .int .i64 d, .string t] w fun e w' => e = .returned (.bool true) ∧ Below w.heap.size w w' := by
  have HG : Hid (Glob w) := hg
  have HV : Hid (calledV fi ca d t = outV 0 k fi ca inn s) := hv
  clear hg hv
  have HS : Hid ((d == 5) = false → s = t) := hs
  clear hs
  have g0 : (d == 0) = false := by rcases h with rfl | rfl | rfl | rfl <;> decide
  have g1 : (d == 1) = false := by rcases h with rfl | rfl | rfl | rfl <;> decide
  have g6 : (d == 6) = false := by rcases h with rfl | rfl | rfl | rfl <;> decide
  have l0 : ¬ d < 0 := by omega
  have l6 : ¬ 6 < d := by omega
  have hbe : ((s.toList == t.toList) = true) ∨ ((s.toList == t.toList) = false ∧ (d == 5) = true) := by
    cases h5 : (d == 5) with
    | false => exact .inl (by rw [HS.out h5]; simp)
    | true => cases h6 : (s.toList == t.toList) <;> simp
  clear h
  go_enter Tryd.func4, Tryd.ntmps4
  go_wp2_with fail
  refine (alive_any _ HG.out).mono ?_
  rintro e w1 ⟨rfl, b1⟩
  go_wp2_with fail
  refine (call_any fi ca d t _ (HG.out.below b1 HG.out.pos)).mono ?_
  rintro e w2 ⟨rfl, b2⟩
  rw [HV.out]
  unfold outV
  rcases hbe with hbe | ⟨hbe, h5⟩
  · go_wp2
    go_ret
    exact ⟨rfl, (b1.trans (b2.mono b1.size)).alloc (Nat.le_trans b1.size b2.size) _⟩
  · go_wp2
    go_ret
    exact ⟨rfl, (b1.trans (b2.mono b1.size)).alloc (Nat.le_trans b1.size b2.size) _⟩

theorem gcomes_any (fi ca d : Int) (t : ByteArray) (w : World) (hg : Glob w) :
    Calls Tryd.prog 4 #[.int .i64 fi, .int .i64 ca, .int .i64 d, .string t] w fun e w' => e = .returned (.bool true) ∧ Below w.heap.size w w' := by
  by_cases hf : fi < 0
  · exact gcomes_out fi ca d t w hg (.inl hf)
  by_cases h0 : d < 0
  · exact gcomes_out fi ca d t w hg (.inr (.inl h0))
  by_cases h6 : 6 < d
  · exact gcomes_out fi ca d t w hg (.inr (.inr h6))
  have hd : d = 0 ∨ d = 1 ∨ d = 6 ∨ d = 2 ∨ d = 3 ∨ d = 4 ∨ d = 5 := by omega
  rcases hd with rfl | rfl | rfl | rfl | rfl | rfl | rfl
  · exact gcomes_goes fi ca 0 t w hg hf (.inl rfl)
  · exact gcomes_goes fi ca 1 t w hg hf (.inr (.inl rfl))
  · exact gcomes_goes fi ca 6 t w hg hf (.inr (.inr rfl))
  · exact gcomes_fails fi ca 2 1 0 t t w hg hf (by omega) (by decide) (fun _ => rfl) rfl
  · exact gcomes_fails fi ca 3 2 0 t t w hg hf (by omega) (by decide) (fun _ => rfl) rfl
  · exact gcomes_fails fi ca 4 2 1 t t w hg hf (by omega) (by decide) (fun _ => rfl) rfl
  · exact gcomes_fails fi ca 5 3 0 ⟨#[]⟩ t w hg hf (by omega) (by decide) (fun h => by simp at h) rfl
end Go.Proofs.YtfpaoalfkmpjpabDoor
