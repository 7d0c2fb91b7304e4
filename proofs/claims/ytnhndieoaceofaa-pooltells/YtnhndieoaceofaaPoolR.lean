/- The law PoolTells. -/
import Derived.Test.YtnhndieoaceofaaPoolP
import Derived.Test.YtnhndieoaceofaaPoolK
import Derived.Deep.RegionWith
namespace Go.Proofs.Ytnhndieoaceofaa
open Go.RowKit

theorem LoopAt.far9 {w wr : World} {b X : Nat} {W : Wd} {A : Ad} {v0 v1 v2 v3 v4 v5 v6 v7 v8 : Value} (h : LoopAt w wr b W A) (hb : b ≠ X) (ho : Off W A X) (hx : w.heap.size ≤ X) : LoopAt w (set9 wr X v0 v1 v2 v3 v4 v5 v6 v7 v8) b W A :=
  ⟨⟨Box9.far h.ib.bx hb _ _ _ _ _ _ _ _ _, Wd.far9 h.ib.ld ho⟩, set9_below h.bl hx, h.lt, h.o⟩

set_option maxRecDepth 100000 in
set_option maxHeartbeats 4000000 in
theorem ptells_any (W : Wd) (A : Ad) (id waits : Int) (w : World) (ha : WdLies w W A) (hf : Fits W) :
    Calls Try.prog 3 #[wdV W A, .int .i64 id, .int .i64 waits] w fun e w' => e = .returned (.bool true) ∧ Below w.heap.size w w' := by
  obtain ⟨w2, hw2⟩ : ∃ w2, w.alloc (.cells #[.slice A.ho W.lg.holds.length A.hc, .int .i64 W.lg.m0, .int .i64 W.lg.m1, .int .i64 W.lg.m2, .int .i64 W.lg.m3, .slice A.ga W.gates.length A.gc, .slice A.fa W.failed.length A.fc, .slice A.qa W.queue.length A.qc, .slice A.ma W.marks.length A.mc] 29) = w2 := ⟨_, rfl⟩
  have H0 : Hid (LoopAt w w2 w.heap.size W A) := by rw [← hw2]; exact LoopAt.made ha (Below.refl _ _)
  have HW : Hid (_ = w2) := hw2
  have HF : Hid (Fits W) := hf
  have HAO : Hid (∀ X, w.heap.size ≤ X → Off W A X) := fun X hX => ha.off hX
  obtain ⟨R, hR⟩ : ∃ R, askR W id waits = R := ⟨_, rfl⟩
  obtain ⟨E, hE⟩ : ∃ E, askE W id waits = E := ⟨_, rfl⟩
  obtain ⟨S, hS⟩ : ∃ S, backR W id = S := ⟨_, rfl⟩
  obtain ⟨nx, hn⟩ : ∃ nx, backN W id = nx := ⟨_, rfl⟩
  obtain ⟨F, hF⟩ : ∃ F, giveE W.lg id 2 = F := ⟨_, rfl⟩
  have HA1 : Hid (∀ w', WdLies w' W A → Calls Try.prog 8 #[wdV W A, .int .i64 id, .int .i64 waits] w' fun e w'' => ∃ B, e = .returned (.tuple #[wdV R B, .int .i64 E]) ∧ WdLies w'' R B ∧ Below w'.heap.size w' w'') := fun w' h => (ask_any W A id waits w' h hf).mono (by rw [hR, hE]; rintro e w'' ⟨B, h1, h2, _, h3⟩; exact ⟨B, h1, h2, h3⟩)
  have HA2 : Hid (∀ w', WdLies w' W A → Calls Try.prog 9 #[wdV W A, .int .i64 id, .int .i64 waits] w' fun e w'' => ∃ B, e = .returned (.tuple #[wdV R B, .int .i64 E]) ∧ WdLies w'' R B ∧ Below w'.heap.size w' w'') := fun w' h => (rask_any W A id waits w' h hf).mono (by rw [hR, hE]; rintro e w'' ⟨B, h1, h2, _, h3⟩; exact ⟨B, h1, h2, h3⟩)
  have HB1 : Hid (∀ w', WdLies w' W A → Calls Try.prog 10 #[wdV W A, .int .i64 id] w' fun e w'' => ∃ B, e = .returned (.tuple #[wdV S B, .int .i64 nx, .int .i64 F]) ∧ WdLies w'' S B ∧ (∀ X, X < w'.heap.size → Off S B X) ∧ Below w'.heap.size w' w'') := fun w' h => by
    have h := back_any W A id w' h hf
    rw [hS, hn, hF] at h
    exact h
  have HB2 : Hid (∀ w', WdLies w' W A → Calls Try.prog 11 #[wdV W A, .int .i64 id] w' fun e w'' => ∃ B, e = .returned (.tuple #[wdV S B, .int .i64 nx, .int .i64 F]) ∧ WdLies w'' S B ∧ (∀ X, X < w'.heap.size → Off W A X → Off S B X) ∧ Below w'.heap.size w' w'') := fun w' h => by
    have h := rback_any W A id w' h hf
    rw [hS, hn, hF] at h
    exact h
  unfold wdV at HA1 HA2 HB1 HB2
  clear hw2 ha hf hR hE hS hn hF
  unfold wdV
  obtain ⟨a0, a1, a2, a3, a4, a5, a6, a7, a8, af, a9⟩ := H0.out.ib.bx
  go_enter Try.func3, Try.ntmps3
  go_wp2_with fail
  rw [HW.out]
  have HD : Hid (LoopAt w w2.drew w.heap.size W A) := H0.out.keep (Below.refl _ _).drew
  have HP : Hid (∀ W', WdLies W' W A → Calls Try.prog 7 #[wdV W A] W' fun e w' => ∃ A', e = .returned (wdV W A') ∧ WdLies w' W A' ∧ Below W'.heap.size W' w') := fun W' h => (pown_any W A W' h HF.out).mono (by rintro e w' ⟨A', h1, h2, _, _, _, h3⟩; exact ⟨A', h1, h2, h3⟩)
  unfold wdV at HP
  go_region_with (first
    | (go_at_call 7; refine (HP.out _ HD.out.ib.ld).mono ?_; rintro e w3 ⟨A1, rfl, l3, b3⟩; have K3 := HD.out.keep b3; obtain ⟨x0, x1, x2, x3, x4, x5, x6, x7, x8, xf, x9⟩ := K3.ib.bx)
    | (go_at_call 6; refine (sameWorld_self W A1 A _ l3 K3.ib.ld).mono ?_; rintro e w4 ⟨rfl, b4⟩))
  all_goals
    have H4 : Hid (LoopAt w w4 w.heap.size W A) := K3.keep b4
    clear x0 x1 x2 x3 x4 x5 x6 x7 x8 xf x9
    clear a0 a1 a2 a3 a4 a5 a6 a7 a8 af a9
    clear K3 b4 b3 l3 HP HD H0 HW
    obtain ⟨a0, a1, a2, a3, a4, a5, a6, a7, a8, af, a9⟩ := H4.out.ib.bx
    go_wp2_with fail
    refine (HA1.out w4 H4.out.ib.ld).mono ?_
    rintro e w5 ⟨X1, rfl, l5, b5⟩
    obtain ⟨w6, hw6⟩ : ∃ w6, w5.alloc (.cells #[.slice X1.ho R.lg.holds.length X1.hc, .int .i64 R.lg.m0, .int .i64 R.lg.m1, .int .i64 R.lg.m2, .int .i64 R.lg.m3, .slice X1.ga R.gates.length X1.gc, .slice X1.fa R.failed.length X1.fc, .slice X1.qa R.queue.length X1.qc, .slice X1.ma R.marks.length X1.mc] 29) = w6 := ⟨_, rfl⟩
    have HW6 : Hid (w5.alloc (.cells #[.slice X1.ho R.lg.holds.length X1.hc, .int .i64 R.lg.m0, .int .i64 R.lg.m1, .int .i64 R.lg.m2, .int .i64 R.lg.m3, .slice X1.ga R.gates.length X1.gc, .slice X1.fa R.failed.length X1.fc, .slice X1.qa R.queue.length X1.qc, .slice X1.ma R.marks.length X1.mc] 29) = w6) := hw6
    have H6 : Hid (LoopAt w w6 w.heap.size W A) := by rw [← hw6]; exact (H4.out.keep b5).keep (bel_alloc _ _)
    have HX6 : Hid (InBox w6 w5.heap.size R X1) := by rw [← hw6]; exact InBox.made l5
    have HBP0 : Hid (w.heap.size < w5.heap.size) := Nat.lt_of_lt_of_le H4.out.ib.bx.lt b5.size
    clear a0 a1 a2 a3 a4 a5 a6 a7 a8 af a9
    clear l5 b5 hw6
    go_wp2_with (with_reducible refine Hid.out (p := wpList _ _ _ ({ dst := _, op := Op.load 29 _, type := _, pos := _, after := _, guard := _ } :: _) _ _) ?_)
    rw [HW6.out]
    show wpList _ _ _ _ _ w6
    obtain ⟨a0, a1, a2, a3, a4, a5, a6, a7, a8, af, a9⟩ := H6.out.ib.bx
    go_wp2_with fail
    refine (HA2.out w6 H6.out.ib.ld).mono ?_
    rintro e w7 ⟨Y1, rfl, l7, b7⟩
    obtain ⟨w8, hw8⟩ : ∃ w8, w7.alloc (.cells #[.slice Y1.ho R.lg.holds.length Y1.hc, .int .i64 R.lg.m0, .int .i64 R.lg.m1, .int .i64 R.lg.m2, .int .i64 R.lg.m3, .slice Y1.ga R.gates.length Y1.gc, .slice Y1.fa R.failed.length Y1.fc, .slice Y1.qa R.queue.length Y1.qc, .slice Y1.ma R.marks.length Y1.mc] 29) = w8 := ⟨_, rfl⟩
    have HW8 : Hid (w7.alloc (.cells #[.slice Y1.ho R.lg.holds.length Y1.hc, .int .i64 R.lg.m0, .int .i64 R.lg.m1, .int .i64 R.lg.m2, .int .i64 R.lg.m3, .slice Y1.ga R.gates.length Y1.gc, .slice Y1.fa R.failed.length Y1.fc, .slice Y1.qa R.queue.length Y1.qc, .slice Y1.ma R.marks.length Y1.mc] 29) = w8) := hw8
    have H8 : Hid (LoopAt w w8 w.heap.size W A) := by rw [← hw8]; exact (H6.out.keep b7).keep (bel_alloc _ _)
    have HX8 : Hid (InBox w8 w5.heap.size R X1) := by rw [← hw8]; exact (HX6.out.keep b7).keep (bel_alloc _ _)
    have HY8 : Hid (InBox w8 w7.heap.size R Y1) := by rw [← hw8]; exact InBox.made l7
    have HPQ : Hid (w5.heap.size < w7.heap.size) := Nat.lt_of_lt_of_le HX6.out.bx.lt b7.size
    have HBP : Hid (w.heap.size < w5.heap.size) := HBP0
    clear a0 a1 a2 a3 a4 a5 a6 a7 a8 af a9
    clear l7 b7 hw8
    go_wp2_with (with_reducible refine Hid.out (p := wpList _ _ _ ({ dst := _, op := Op.load 29 _, type := _, pos := _, after := _, guard := _ } :: _) _ _) ?_)
    rw [HW8.out]
    show wpList _ _ _ _ _ w8
    obtain ⟨x0, x1, x2, x3, x4, x5, x6, x7, x8, xf, x9⟩ := HX8.out.bx
    obtain ⟨y0, y1, y2, y3, y4, y5, y6, y7, y8, yf, y9⟩ := HY8.out.bx
    go_wp2_with fail
    refine (sameWorld_self R X1 Y1 _ HX8.out.ld HY8.out.ld).mono ?_
    rintro e w9 ⟨rfl, b9⟩
    have H9 : Hid (LoopAt w w9 w.heap.size W A) := H8.out.keep b9
    have HX9 : Hid (InBox w9 w5.heap.size R X1) := HX8.out.keep b9
    have HY9 : Hid (InBox w9 w7.heap.size R Y1) := HY8.out.keep b9
    clear x0 x1 x2 x3 x4 x5 x6 x7 x8 xf x9
    clear y0 y1 y2 y3 y4 y5 y6 y7 y8 yf y9
    clear b9
    obtain ⟨a0, a1, a2, a3, a4, a5, a6, a7, a8, af, a9⟩ := H9.out.ib.bx
    go_wp2_with fail
    refine (HB1.out w9 H9.out.ib.ld).mono ?_
    rintro e w10 ⟨X2, rfl, l10, o10, b10⟩
    have H10 : Hid (LoopAt w w10 w.heap.size W A) := H9.out.keep b10
    have HX10 : Hid (InBox w10 w5.heap.size R X1) := HX9.out.keep b10
    have HY10 : Hid (InBox w10 w7.heap.size R Y1) := HY9.out.keep b10
    have HL10 : Hid (WdLies w10 S X2) := l10
    have HO10 : Hid (∀ X, X < w9.heap.size → Off S X2 X) := o10
    have HQ9 : Hid (w7.heap.size < w9.heap.size) := HY9.out.bx.lt
    clear a0 a1 a2 a3 a4 a5 a6 a7 a8 af a9
    clear l10 o10 b10
    obtain ⟨x0, x1, x2, x3, x4, x5, x6, x7, x8, xf, x9⟩ := HX10.out.bx
    go_wp2_with (with_reducible refine Hid.out (p := wpList _ _ _ ({ dst := _, op := Op.load 29 _, type := _, pos := _, after := _, guard := _ } :: _) _ _) ?_)
    obtain ⟨w11, hw11⟩ : ∃ w11, set9 w10 w5.heap.size (.slice X2.ho S.lg.holds.length X2.hc) (.int .i64 S.lg.m0) (.int .i64 S.lg.m1) (.int .i64 S.lg.m2) (.int .i64 S.lg.m3) (.slice X2.ga S.gates.length X2.gc) (.slice X2.fa S.failed.length X2.fc) (.slice X2.qa S.queue.length X2.qc) (.slice X2.ma S.marks.length X2.mc) = w11 := ⟨_, rfl⟩
    show wpList _ _ _ _ _ (set9 w10 w5.heap.size (.slice X2.ho S.lg.holds.length X2.hc) (.int .i64 S.lg.m0) (.int .i64 S.lg.m1) (.int .i64 S.lg.m2) (.int .i64 S.lg.m3) (.slice X2.ga S.gates.length X2.gc) (.slice X2.fa S.failed.length X2.fc) (.slice X2.qa S.queue.length X2.qc) (.slice X2.ma S.marks.length X2.mc))
    rw [hw11]
    have hbp := HBP.out
    have hpq := HPQ.out
    have H11 : Hid (LoopAt w w11 w.heap.size W A) := by rw [← hw11]; exact H10.out.far9 (by omega) (HAO.out _ (by omega)) (by omega)
    have HX11 : Hid (InBox w11 w5.heap.size S X2) := by rw [← hw11]; exact ⟨Box9.set HX10.out.bx _ _ _ _ _ _ _ _ _, Wd.far9 HL10.out (HO10.out _ (by have := HQ9.out; omega))⟩
    have HY11 : Hid (Box9 w11 w7.heap.size (.slice Y1.ho R.lg.holds.length Y1.hc) (.int .i64 R.lg.m0) (.int .i64 R.lg.m1) (.int .i64 R.lg.m2) (.int .i64 R.lg.m3) (.slice Y1.ga R.gates.length Y1.gc) (.slice Y1.fa R.failed.length Y1.fc) (.slice Y1.qa R.queue.length Y1.qc) (.slice Y1.ma R.marks.length Y1.mc)) := by rw [← hw11]; exact Box9.far HY10.out.bx (by omega) _ _ _ _ _ _ _ _ _
    clear x0 x1 x2 x3 x4 x5 x6 x7 x8 xf x9
    clear hw11
    obtain ⟨a0, a1, a2, a3, a4, a5, a6, a7, a8, af, a9⟩ := H11.out.ib.bx
    go_wp2_with fail
    refine (HB2.out w11 H11.out.ib.ld).mono ?_
    rintro e w12 ⟨Y2, rfl, l12, o12, b12⟩
    have H12 : Hid (LoopAt w w12 w.heap.size W A) := H11.out.keep b12
    have HX12 : Hid (InBox w12 w5.heap.size S X2) := HX11.out.keep b12
    have HY12 : Hid (Box9 w12 w7.heap.size (.slice Y1.ho R.lg.holds.length Y1.hc) (.int .i64 R.lg.m0) (.int .i64 R.lg.m1) (.int .i64 R.lg.m2) (.int .i64 R.lg.m3) (.slice Y1.ga R.gates.length Y1.gc) (.slice Y1.fa R.failed.length Y1.fc) (.slice Y1.qa R.queue.length Y1.qc) (.slice Y1.ma R.marks.length Y1.mc)) := HY11.out.keep b12
    have HL12 : Hid (WdLies w12 S Y2) := l12
    have HO12 : Hid (Off S Y2 w7.heap.size) := o12 _ HY11.out.lt (HAO.out _ (by omega))
    clear a0 a1 a2 a3 a4 a5 a6 a7 a8 af a9
    clear l12 o12 b12
    obtain ⟨y0, y1, y2, y3, y4, y5, y6, y7, y8, yf, y9⟩ := HY12.out
    go_wp2_with (with_reducible refine Hid.out (p := wpList _ _ _ ({ dst := _, op := Op.load 29 _, type := _, pos := _, after := _, guard := _ } :: _) _ _) ?_)
    obtain ⟨w13, hw13⟩ : ∃ w13, set9 w12 w7.heap.size (.slice Y2.ho S.lg.holds.length Y2.hc) (.int .i64 S.lg.m0) (.int .i64 S.lg.m1) (.int .i64 S.lg.m2) (.int .i64 S.lg.m3) (.slice Y2.ga S.gates.length Y2.gc) (.slice Y2.fa S.failed.length Y2.fc) (.slice Y2.qa S.queue.length Y2.qc) (.slice Y2.ma S.marks.length Y2.mc) = w13 := ⟨_, rfl⟩
    show wpList _ _ _ _ _ (set9 w12 w7.heap.size (.slice Y2.ho S.lg.holds.length Y2.hc) (.int .i64 S.lg.m0) (.int .i64 S.lg.m1) (.int .i64 S.lg.m2) (.int .i64 S.lg.m3) (.slice Y2.ga S.gates.length Y2.gc) (.slice Y2.fa S.failed.length Y2.fc) (.slice Y2.qa S.queue.length Y2.qc) (.slice Y2.ma S.marks.length Y2.mc))
    rw [hw13]
    have HBL : Hid (Below w.heap.size w w13) := by rw [← hw13]; exact set9_below H12.out.bl (by omega)
    have HX13 : Hid (InBox w13 w5.heap.size S X2) := by rw [← hw13]; exact ⟨Box9.far HX12.out.bx (by omega) _ _ _ _ _ _ _ _ _, Wd.far9 HX12.out.ld (HO10.out _ HQ9.out)⟩
    have HY13 : Hid (InBox w13 w7.heap.size S Y2) := by rw [← hw13]; exact ⟨Box9.set HY12.out _ _ _ _ _ _ _ _ _, Wd.far9 HL12.out HO12.out⟩
    clear y0 y1 y2 y3 y4 y5 y6 y7 y8 yf y9
    clear hw13
    obtain ⟨x0, x1, x2, x3, x4, x5, x6, x7, x8, xf, x9⟩ := HX13.out.bx
    obtain ⟨y0, y1, y2, y3, y4, y5, y6, y7, y8, yf, y9⟩ := HY13.out.bx
    go_wp2_with fail
    refine (sameWorld_self S X2 Y2 _ HX13.out.ld HY13.out.ld).mono ?_
    rintro e w14 ⟨rfl, b14⟩
    clear x0 x1 x2 x3 x4 x5 x6 x7 x8 xf x9
    clear y0 y1 y2 y3 y4 y5 y6 y7 y8 yf y9
    go_wp2
    go_ret
    exact ⟨rfl, HBL.out.trans (b14.mono HBL.out.size)⟩
end Go.Proofs.Ytnhndieoaceofaa
