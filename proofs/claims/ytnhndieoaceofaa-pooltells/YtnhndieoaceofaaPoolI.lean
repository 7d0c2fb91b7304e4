/- The world that the laws begin with, and the closed fact that they ask first. -/
import Derived.Test.YtnhndieoaceofaaPoolH
namespace Go.Proofs.Ytnhndieoaceofaa
open Go.RowKit

def newWd (m : Int) : Wd := ⟨⟨[], 0, 9, m, 9⟩, [], [], [], []⟩
theorem newLies (m : Int) (w : World) : WdLies w (newWd m) zeroAd :=
  ⟨holds_nil _ _, cap_nil, ints_nil _ _, cap_nil, ints_nil _ _, cap_nil, ints_nil _ _, cap_nil, holds_nil _ _, cap_nil⟩
set_option maxRecDepth 100000 in
set_option maxHeartbeats 800000 in
theorem world_any (m : Int) (w : World) : Calls Try.prog 13 #[.int .i64 m] w fun e w' => e = .returned (wdV (newWd m) zeroAd) ∧ Below w.heap.size w w' := by
  go_enter Try.func13, Try.ntmps13
  go_wp2
  refine bodyPost_ret (v := .agg #[.slice none 0 0, .int .i64 0, .int .i64 9, .int .i64 m, .int .i64 9, .slice none 0 0, .slice none 0 0, .slice none 0 0, .slice none 0 0]) (by simp [results, Try.results13, go_sem]) rfl ⟨rfl, bel_alloc _ _⟩

/-- A world in a box, as it lies. -/
structure InBox (wr : World) (b : Nat) (W : Wd) (A : Ad) : Prop where
  bx : WBox wr b W A
  ld : WdLies wr W A
theorem InBox.keep {wr wr' : World} {b : Nat} {W : Wd} {A : Ad} (h : InBox wr b W A) (hb : Below wr.heap.size wr wr') : InBox wr' b W A := ⟨Box9.keep h.bx hb, h.ld.below (Nat.le_refl _) hb⟩
theorem InBox.made {wr : World} {W : Wd} {A : Ad} (h : WdLies wr W A) : InBox (wr.alloc (.cells #[.slice A.ho W.lg.holds.length A.hc, .int .i64 W.lg.m0, .int .i64 W.lg.m1, .int .i64 W.lg.m2, .int .i64 W.lg.m3, .slice A.ga W.gates.length A.gc, .slice A.fa W.failed.length A.fc, .slice A.qa W.queue.length A.qc, .slice A.ma W.marks.length A.mc] 29)) wr.heap.size W A :=
  ⟨Box9.made _ _ _ _ _ _ _ _ _ _ _, h.below (Nat.le_refl _) (bel_alloc _ _)⟩
theorem field29_3 (W : Wd) (A : Ad) (w : World) : (Instr.field 29 (.agg #[.slice A.ho W.lg.holds.length A.hc, .int .i64 W.lg.m0, .int .i64 W.lg.m1, .int .i64 W.lg.m2, .int .i64 W.lg.m3, .slice A.ga W.gates.length A.gc, .slice A.fa W.failed.length A.fc, .slice A.qa W.queue.length A.qc, .slice A.ma W.marks.length A.mc]) 3).run Try.prog w = .ok (.slice A.qa W.queue.length A.qc) w := by kernel_rfl

def alW : Wd := ⟨⟨[⟨4, 2, -1⟩], 0, 9, 1, 9⟩, [], [], [], []⟩
def alX : Wd := ⟨⟨[⟨4, 2, -1⟩], 0, 9, 1, 9⟩, [], [], [5], []⟩
def alY : Wd := ⟨⟨[⟨5, 2, -1⟩], 0, 9, 1, 9⟩, [], [], [], []⟩
theorem al_w : askR (newWd 1) 4 1 = alW := by rfl
theorem al_we : askE (newWd 1) 4 1 = 0 := by rfl
theorem al_x : askR alW 5 1 = alX := by rfl
theorem al_xe : askE alW 5 1 = 10 := by rfl
theorem al_y : backR alX 4 = alY := by rfl
theorem al_yn : backN alX 4 = 5 := by rfl
theorem al_ye : giveE alX.lg 4 2 = 0 := by rfl
theorem fits_small {W : Wd} (h1 : W.lg.holds.length ≤ 100000) (h2 : W.gates.length ≤ 100000) (h3 : W.failed.length ≤ 100000) (h4 : W.queue.length ≤ 100000) (h5 : W.marks.length ≤ 100000) : Fits W := ⟨by omega, by omega, by omega, by omega, by omega⟩

set_option maxRecDepth 100000 in
set_option maxHeartbeats 1000000 in
theorem alive_any (w : World) : Calls Try.prog 12 #[] w fun e w' => e = .returned (.bool true) ∧ Below w.heap.size w w' := by
  go_enter Try.func12, Try.ntmps12
  go_wp2_with fail
  refine (world_any 1 _).mono ?_
  rintro e w1 ⟨rfl, b1⟩
  go_wp2_with fail
  refine (ask_any (newWd 1) zeroAd 4 1 w1 (newLies 1 w1) (fits_small (by decide) (by decide) (by decide) (by decide) (by decide))).mono ?_
  rintro e w2 ⟨A1, rfl, l2, _, b2⟩
  rw [al_w] at l2
  rw [al_w, al_we]
  have HB2 : Hid (Below w.heap.size w w2) := b1.trans (b2.mono b1.size)
  have HI2 : Hid (InBox _ _ alW A1) := InBox.made l2
  clear b1 b2 l2
  unfold wdV
  obtain ⟨a0, a1, a2, a3, a4, a5, a6, a7, a8, af, a9⟩ := HI2.out.bx
  go_wp2_with fail
  refine (ask_any alW A1 5 1 _ HI2.out.ld (fits_small (by decide) (by decide) (by decide) (by decide) (by decide))).mono ?_
  rintro e w3 ⟨A2, rfl, l3, _, b3⟩
  rw [al_x] at l3
  rw [al_x, al_xe]
  have HB3 : Hid (Below w.heap.size w w3) := HB2.out.trans (((bel_alloc _ _).trans (b3.mono (by simp))).mono HB2.out.size)
  have HI3 : Hid (InBox _ _ alX A2) := InBox.made l3
  clear b3 l3 a0 a1 a2 a3 a4 a5 a6 a7 a8 af a9
  unfold wdV
  obtain ⟨a0, a1, a2, a3, a4, a5, a6, a7, a8, af, a9⟩ := HI3.out.bx
  go_wp2_with fail
  refine (back_any alX A2 4 _ HI3.out.ld (fits_small (by decide) (by decide) (by decide) (by decide) (by decide))).mono ?_
  rintro e w4 ⟨A3, rfl, l4, _, b4⟩
  rw [al_y] at l4
  rw [al_y, al_yn, al_ye]
  have HB4 : Hid (Below w.heap.size w w4) := HB3.out.trans (((bel_alloc _ _).trans (b4.mono (by simp))).mono HB3.out.size)
  have HX4 : Hid (InBox _ _ alX A2) := (HI3.out.keep b4).keep (bel_alloc w4 (.cells #[.slice A3.ho alY.lg.holds.length A3.hc, .int .i64 alY.lg.m0, .int .i64 alY.lg.m1, .int .i64 alY.lg.m2, .int .i64 alY.lg.m3, .slice A3.ga alY.gates.length A3.gc, .slice A3.fa alY.failed.length A3.fc, .slice A3.qa alY.queue.length A3.qc, .slice A3.ma alY.marks.length A3.mc] 29))
  have HI4 : Hid (InBox _ _ alY A3) := InBox.made l4
  clear b4 l4 a0 a1 a2 a3 a4 a5 a6 a7 a8 af a9
  unfold wdV
  obtain ⟨a0, a1, a2, a3, a4, a5, a6, a7, a8, af, a9⟩ := HI4.out.bx
  obtain ⟨x0, x1, x2, x3, x4, x5, x6, x7, x8, xf, x9⟩ := HX4.out.bx
  have q1 : ((alX.queue.length : Int) == 1) = true := rfl
  have q2 : ((alY.queue.length : Int) == 0) = true := rfl
  have q3 : ((alY.lg.holds.length : Int) == 1) = true := rfl
  have q4 := field29_3
  go_wp2_with fail
  refine (pown_any alX A2 _ HX4.out.ld (fits_small (by decide) (by decide) (by decide) (by decide) (by decide))).mono ?_
  rintro e w5 ⟨A5, rfl, _, _, _, _, b5⟩
  clear a0 a1 a2 a3 a4 a5 a6 a7 a8 af a9 x0 x1 x2 x3 x4 x5 x6 x7 x8 xf x9
  unfold wdV
  go_wp2
  go_ret
  exact ⟨rfl, HB4.out.trans (((bel_alloc _ _).trans (b5.mono (by simp))).mono HB4.out.size)⟩
end Go.Proofs.Ytnhndieoaceofaa
