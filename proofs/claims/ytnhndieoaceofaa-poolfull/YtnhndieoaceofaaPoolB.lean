/- Two lists of numbers, and two worlds, that are the same: the document's own tests say so. -/
import Derived.Test.YtnhndieoaceofaaPoolA
namespace Go.Proofs.Ytnhndieoaceofaa
open Go.RowKit

set_option maxHeartbeats 1000000 in
theorem sameInts_self (xs : List Int) (ao bo : Option Addr) (c d : Nat) (w : World) (hx : IntsAt w ao xs) (hy : IntsAt w bo xs) :
    Calls Try.prog 15 #[.slice ao xs.length c, .slice bo xs.length d] w fun e w' => e = .returned (.bool true) ∧ Below w.heap.size w w' := by
  have hsx := hx.small
  unfold maxLen at hsx
  have hl' : ((xs.length : Int) != (xs.length : Int)) = false := by simp
  go_enter Try.func15, Try.ntmps15
  go_wp2
  go_loopw [13] (fun i wr => ∃ k n : Nat, k ≤ xs.length ∧ i = .int .i64 k ∧ wr = w.drewN n) (fun i _ => xs.length - (intOf i).toNat)
  case atStart => exact ⟨0, 0, by omega, rfl, rfl⟩
  case round =>
    obtain ⟨k, n, hk, rfl, rfl⟩ := hrel
    by_cases hlt : k < xs.length
    · obtain ⟨b, off, rfl, hb, h0⟩ := hx.lies k hlt
      obtain ⟨b', off', rfl, hb', h0'⟩ := hy.lies k hlt
      have i1 : (k : Int) < (xs.length : Int) := by omega
      have e1 : (xs[k] != xs[k]) = false := by simp
      go_wp2
      go_quiet (fail)
      go_wp2
      go_roundw
      case rel => exact ⟨k + 1, n + nq, by omega, by go_num, by first | rfl | rw [World.drewN_drewN]⟩
      case measure => simp [intOf]; omega
    · go_wp2
      go_ret
      exact ⟨rfl, belDrewN (Below.refl _ _) n⟩

theorem Try.held43 : Try.prog.stoodInHeld 43 = false := by kernel_rfl
theorem Try.guard43 : Try.prog.eqGuardType Try.prog.depth 43 = false := by kernel_rfl
theorem sameLedger_self (l : Lg) (va vb : Value) (w : World) (ha : LgAt w va l) (hb : LgAt w vb l) :
    Calls Try.prog 14 #[va, vb] w fun e w' => e = .returned (.bool true) ∧ Below w.heap.size w w' := by
  have h := sameLedger_any l l va vb w ha hb
  rw [lgB_self] at h
  exact h

set_option maxRecDepth 100000 in
set_option maxHeartbeats 2000000 in
theorem sameWorld_self (W : Wd) (A B : Ad) (w : World) (ha : WdLies w W A) (hb : WdLies w W B) :
    Calls Try.prog 6 #[wdV W A, wdV W B] w fun e w' => e = .returned (.bool true) ∧ Below w.heap.size w w' := by
  obtain ⟨ho, hc, ga, gc, fa, fc, qa, qc, ma, mc⟩ := A
  obtain ⟨ho', hc', ga', gc', fa', fc', qa', qc', ma', mc'⟩ := B
  have hsm := ha.m.small
  unfold maxLen at hsm
  have hl' : ((W.marks.length : Int) != (W.marks.length : Int)) = false := by simp
  obtain ⟨w2, hw2⟩ : ∃ w2, (w.alloc (.cells #[.slice ho W.lg.holds.length hc, .int .i64 W.lg.m0, .int .i64 W.lg.m1, .int .i64 W.lg.m2, .int .i64 W.lg.m3, .slice ga W.gates.length gc, .slice fa W.failed.length fc, .slice qa W.queue.length qc, .slice ma W.marks.length mc] 29)).alloc (.cells #[.slice ho' W.lg.holds.length hc', .int .i64 W.lg.m0, .int .i64 W.lg.m1, .int .i64 W.lg.m2, .int .i64 W.lg.m3, .slice ga' W.gates.length gc', .slice fa' W.failed.length fc', .slice qa' W.queue.length qc', .slice ma' W.marks.length mc'] 29) = w2 := ⟨_, rfl⟩
  have hbel : Below w.heap.size w w2 := by rw [← hw2]; exact ((Below.refl _ _).alloc (Nat.le_refl _) _).alloc (by simp) _
  have HBA : Hid (Box9 w2 w.heap.size (.slice ho W.lg.holds.length hc) (.int .i64 W.lg.m0) (.int .i64 W.lg.m1) (.int .i64 W.lg.m2) (.int .i64 W.lg.m3) (.slice ga W.gates.length gc) (.slice fa W.failed.length fc) (.slice qa W.queue.length qc) (.slice ma W.marks.length mc)) := by rw [← hw2]; exact (Box9.made _ _ _ _ _ _ _ _ _ _ _).keep (bel_alloc _ _)
  have HBB : Hid (Box9 w2 (w.heap.size + 1) (.slice ho' W.lg.holds.length hc') (.int .i64 W.lg.m0) (.int .i64 W.lg.m1) (.int .i64 W.lg.m2) (.int .i64 W.lg.m3) (.slice ga' W.gates.length gc') (.slice fa' W.failed.length fc') (.slice qa' W.queue.length qc') (.slice ma' W.marks.length mc')) := by
    rw [← hw2]; exact Box9.made' (by simp) _ _ _ _ _ _ _ _ _ _
  have HA : Hid (WdLies w2 W ⟨ho, hc, ga, gc, fa, fc, qa, qc, ma, mc⟩) := ha.below (Nat.le_refl _) hbel
  have HB : Hid (WdLies w2 W ⟨ho', hc', ga', gc', fa', fc', qa', qc', ma', mc'⟩) := hb.below (Nat.le_refl _) hbel
  have HL : Hid (Below w.heap.size w w2) := hbel
  have HW : Hid (_ = w2) := hw2
  clear ha hb hbel hw2
  unfold wdV
  go_enter Try.func6, Try.ntmps6
  go_wp2
  rw [HW.out]
  go_loopw [16] (fun i wr => ∃ k n : Nat, k ≤ W.marks.length ∧ i = .int .i64 k ∧ wr = w2.drewN n) (fun i _ => W.marks.length - (intOf i).toNat)
  case atStart => exact ⟨0, 0, by omega, rfl, rfl⟩
  case round =>
    obtain ⟨k, n, hk, rfl, rfl⟩ := hrel
    obtain ⟨a0, a1, a2, a3, a4, a5, a6, a7, a8, _, a9⟩ := HBA.out
    obtain ⟨b0, b1, b2, b3, b4, b5, b6, b7, b8, _, b9⟩ := HBB.out
    by_cases hlt : k < W.marks.length
    · obtain ⟨b, off, ea, hb, h0, h1, h2⟩ := HA.out.m.lies k hlt
      obtain ⟨b', off', eb, hb', h0', h1', h2'⟩ := HB.out.m.lies k hlt
      have ea' : ma = some ⟨b, off, none⟩ := ea
      have eb' : ma' = some ⟨b', off', none⟩ := eb
      clear ea eb a0 a1 a2 a3 a4 a5 a6 a7 b0 b1 b2 b3 b4 b5 b6 b7
      rw [ea'] at a8
      rw [eb'] at b8
      have HEA : Hid (ma = _) := ea'
      have HEB : Hid (ma' = _) := eb'
      clear ea' eb'
      have i1 : (k : Int) < (W.marks.length : Int) := by omega
      have q1 := Try.held43
      have q2 := Try.guard43
      have e1 : (W.marks[k].id == W.marks[k].id) = true := by simp
      have e2 : (W.marks[k].kind == W.marks[k].kind) = true := by simp
      have e3 : (W.marks[k].filter == W.marks[k].filter) = true := by simp
      go_wp2
      go_quiet (fail)
      go_wp2
      go_roundw
      case rel => exact ⟨k + 1, n + nq, by omega, by go_num, by first | rfl | rw [World.drewN_drewN]⟩
      case measure => simp [intOf]; omega
    · have HN2 : Hid (Below w2.heap.size w2 (w2.drewN n)) := belDrewN (Below.refl _ _) n
      go_wp2_with fail
      refine (sameLedger_self W.lg _ _ _ (HA.out.below (Nat.le_refl _) HN2.out).lg (HB.out.below (Nat.le_refl _) HN2.out).lg).mono ?_
      rintro e w3 ⟨rfl, bl⟩
      have HN3 : Hid (Below w2.heap.size w2 w3) := HN2.out.trans (bl.mono HN2.out.size)
      clear bl a0 a1 a2 a3 a4 a5 a6 a7 a8 a9 b0 b1 b2 b3 b4 b5 b6 b7 b8 b9
      obtain ⟨a0, a1, a2, a3, a4, a5, a6, a7, a8, _, a9⟩ := HBA.out.keep HN3.out
      obtain ⟨b0, b1, b2, b3, b4, b5, b6, b7, b8, _, b9⟩ := HBB.out.keep HN3.out
      go_wp2_with fail
      refine (sameInts_self W.gates _ _ _ _ w3 (HA.out.below (Nat.le_refl _) HN3.out).g (HB.out.below (Nat.le_refl _) HN3.out).g).mono ?_
      rintro e w4 ⟨rfl, bl⟩
      have HN4 : Hid (Below w2.heap.size w2 w4) := HN3.out.trans (bl.mono HN3.out.size)
      clear bl a0 a1 a2 a3 a4 a5 a6 a7 a8 a9 b0 b1 b2 b3 b4 b5 b6 b7 b8 b9
      obtain ⟨a0, a1, a2, a3, a4, a5, a6, a7, a8, _, a9⟩ := HBA.out.keep HN4.out
      obtain ⟨b0, b1, b2, b3, b4, b5, b6, b7, b8, _, b9⟩ := HBB.out.keep HN4.out
      go_wp2_with fail
      refine (sameInts_self W.failed _ _ _ _ w4 (HA.out.below (Nat.le_refl _) HN4.out).f (HB.out.below (Nat.le_refl _) HN4.out).f).mono ?_
      rintro e w5 ⟨rfl, bl⟩
      have HN5 : Hid (Below w2.heap.size w2 w5) := HN4.out.trans (bl.mono HN4.out.size)
      clear bl a0 a1 a2 a3 a4 a5 a6 a7 a8 a9 b0 b1 b2 b3 b4 b5 b6 b7 b8 b9
      obtain ⟨a0, a1, a2, a3, a4, a5, a6, a7, a8, _, a9⟩ := HBA.out.keep HN5.out
      obtain ⟨b0, b1, b2, b3, b4, b5, b6, b7, b8, _, b9⟩ := HBB.out.keep HN5.out
      go_wp2_with fail
      refine (sameInts_self W.queue _ _ _ _ w5 (HA.out.below (Nat.le_refl _) HN5.out).q (HB.out.below (Nat.le_refl _) HN5.out).q).mono ?_
      rintro e w6 ⟨rfl, bl⟩
      have HN6 : Hid (Below w2.heap.size w2 w6) := HN5.out.trans (bl.mono HN5.out.size)
      clear bl a0 a1 a2 a3 a4 a5 a6 a7 a8 a9 b0 b1 b2 b3 b4 b5 b6 b7 b8 b9
      go_wp2
      go_ret
      exact ⟨rfl, HL.out.trans (HN6.out.mono HL.out.size)⟩
end Go.Proofs.Ytnhndieoaceofaa
