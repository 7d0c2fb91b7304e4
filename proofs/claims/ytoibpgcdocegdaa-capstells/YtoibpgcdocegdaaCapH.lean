/- The law CapsTells walked. -/
import Derived.Test.YtoibpgcdocegdaaCapF
import Derived.Test.YtoibpgcdocegdaaCapG
import Derived.Lib.QuietBelow
namespace Go.Proofs.Ytoibpgcdocegdaa
open Go.RowKit Go.Sort

theorem Try.mixed : Try.prog.follows .mixedOrders = true := by kernel_rfl

/-- The boxes of the filter and of the conf, behind calls. -/
structure TwoAt (w W : World) (k n : Int) (key text : ByteArray) (c : Cf) (ao bo po : Option Addr) (ac bc pc : Nat) : Prop where
  s0 : W.cell? ⟨w.heap.size, 0, none⟩ = some (.int .i64 k)
  s1 : W.cell? ⟨w.heap.size, 1, none⟩ = some (.int .i64 n)
  s2 : W.cell? ⟨w.heap.size, 2, none⟩ = some (.string key)
  s3 : W.cell? ⟨w.heap.size, 3, none⟩ = some (.string text)
  bx : CBox W (w.heap.size + 1) c ao bo po ac bc pc
  bl : Below w.heap.size w W
theorem TwoAt.keep {w W W' : World} {k n : Int} {key text : ByteArray} {c : Cf} {ao bo po : Option Addr} {ac bc pc : Nat} (h : TwoAt w W k n key text c ao bo po ac bc pc) (b : Below W.heap.size W W') : TwoAt w W' k n key text c ao bo po ac bc pc := by
  have l := h.bx.lt
  have e := fun j => b.cell (p := ⟨w.heap.size, j, none⟩) (by show w.heap.size < W.heap.size; omega)
  exact ⟨(e 0).trans h.s0, (e 1).trans h.s1, (e 2).trans h.s2, (e 3).trans h.s3, h.bx.keep b l, h.bl.trans (b.mono h.bl.size)⟩
theorem two_new (w : World) (k n : Int) (key text : ByteArray) (c : Cf) (ao bo po : Option Addr) (ac bc pc : Nat) :
    TwoAt w ((w.alloc (.cells #[.int .i64 k, .int .i64 n, .string key, .string text] 23)).alloc (.cells #[.slice ao c.svs.length ac, .slice bo c.ups.length bc, .slice po c.bds.length pc, .int .i64 c.fl, .int .i64 c.co, .int .i64 c.wa, .int .i64 c.ti] 28)) k n key text c ao bo po ac bc pc := by
  refine ⟨by simp [go_sem], by simp [go_sem], by simp [go_sem], by simp [go_sem], ?_, ((Below.refl _ _).alloc (Nat.le_refl _) _).alloc (by simp) _⟩
  have h := cbox_new (w.alloc (.cells #[.int .i64 k, .int .i64 n, .string key, .string text] 23)) c ao bo po ac bc pc
  rw [World.size_alloc] at h
  exact h

set_option maxRecDepth 100000 in
set_option maxHeartbeats 4000000 in
theorem ctells_any (k n : Int) (key text : ByteArray) (call : Int) (c : Cf) (ao bo po : Option Addr) (ac bc pc : Nat) (w : World) (hk : (Lit.int .i64 k).wf = true) (hl : CfLies w c ao bo po) :
    Calls Try.prog 3 #[.agg #[.int .i64 k, .int .i64 n, .string key, .string text], .int .i64 call, .agg #[.slice ao c.svs.length ac, .slice bo c.ups.length bc, .slice po c.bds.length pc, .int .i64 c.fl, .int .i64 c.co, .int .i64 c.wa, .int .i64 c.ti]] w fun e w' => e = .returned (.bool true) ∧ Below w.heap.size w w' := by
  have HL : Hid (CfLies w c ao bo po) := hl
  have HK : Hid ((Lit.int .i64 k).wf = true) := hk
  have T0 : Hid (TwoAt w _ k n key text c ao bo po ac bc pc) := two_new w k n key text c ao bo po ac bc pc
  clear hl hk
  go_enter Try.func3, Try.ntmps3
  go_wp2_with fail
  refine (wrongC_any c ao bo po ac bc pc _ (HL.out.below (Nat.le_refl _) T0.out.bl)).mono ?_
  rintro e w1 ⟨rfl, b1⟩
  have T1 : Hid (TwoAt w w1 k n key text c ao bo po ac bc pc) := T0.out.keep b1
  have l1 := T1.out.bx.lt
  clear b1 T0
  obtain ⟨x0, x1, x2, x3, x4, x5, x6, xl⟩ := T1.out.bx
  go_wp2_with fail
  refine (rwrongC_any c ao bo po ac bc pc _ (HL.out.below (Nat.le_refl _) T1.out.bl)).mono ?_
  rintro e w2 ⟨rfl, b2⟩
  have T2 : Hid (TwoAt w w2 k n key text c ao bo po ac bc pc) := T1.out.keep b2
  have l2 := T2.out.bx.lt
  clear b2 T1 x0 x1 x2 x3 x4 x5 x6 xl l1
  generalize wrongC c = R
  obtain ⟨r1, r2⟩ := R
  have q1 : (canI k n == canI k n) = true := by simp
  have q2 : (canB k n call == canB k n call) = true := by simp
  have q3 : (r1 == r1) = true := by simp
  have q4 : (r2 == r2) = true := by simp
  have g0 : ∀ dq os, (Sort.grow (redrawn w2 dq) os).cell? ⟨w.heap.size, 0, none⟩ = some (.int .i64 k) := fun dq os => cell_regrown T2.out.s0 dq os
  have g1 : ∀ dq os, (Sort.grow (redrawn w2 dq) os).cell? ⟨w.heap.size, 1, none⟩ = some (.int .i64 n) := fun dq os => cell_regrown T2.out.s1 dq os
  have g2 : ∀ dq os, (Sort.grow (redrawn w2 dq) os).cell? ⟨w.heap.size, 2, none⟩ = some (.string key) := fun dq os => cell_regrown T2.out.s2 dq os
  have g3 : ∀ dq os, (Sort.grow (redrawn w2 dq) os).cell? ⟨w.heap.size, 3, none⟩ = some (.string text) := fun dq os => cell_regrown T2.out.s3 dq os
  go_wp2_with fail
  refine wp_region_quiet_below Try.mixed (by kernel_rfl) ?_
  repeat (go_big_quiet_step (first | (go_at_call 7; exact Calls.regrown_of (capsOf_any k n key text _ (and7 n))) | (go_at_call 8; exact Calls.regrown_of (rcan_any k n key text HK.out _)) | (go_at_call 9; exact Calls.regrown_of (can_any k n key text call _)) | (go_at_call 10; exact Calls.regrown_of (rcancall_any k n key text call HK.out _))))
  refine wpQuiet_nil ?_
  intro W1 hw'
  obtain ⟨⟨dq, osq⟩, hw''⟩ := hw'
  have B1 : Hid (Below w.heap.size w W1) := by rw [hw'']; exact T2.out.bl.trans ((below_regrown _ dq osq).mono T2.out.bl.size)
  clear hw'' T2 g0 g1 g2 g3
  go_wp2
  go_ret
  exact ⟨ret_bool (by simp), B1.out⟩
end Go.Proofs.Ytoibpgcdocegdaa
