/- The law PoolFull. -/
import Derived.Test.YtnhndieoaceofaaPoolJ
namespace Go.Proofs.Ytnhndieoaceofaa
open Go.RowKit

/-- A world in a box that is written anew, again and again. -/
structure LoopAt (w wr : World) (b : Nat) (W : Wd) (A : Ad) : Prop where
  ib : InBox wr b W A
  bl : Below w.heap.size w wr
  lt : w.heap.size ≤ b
  o : Off W A b
theorem LoopAt.keep {w wr wr' : World} {b : Nat} {W : Wd} {A : Ad} (h : LoopAt w wr b W A) (hb : Below wr.heap.size wr wr') : LoopAt w wr' b W A := ⟨h.ib.keep hb, h.bl.trans (hb.mono h.bl.size), h.lt, h.o⟩
theorem LoopAt.made {w wr : World} {W : Wd} {A : Ad} (h : WdLies wr W A) (hb : Below w.heap.size w wr) : LoopAt w (wr.alloc (.cells #[.slice A.ho W.lg.holds.length A.hc, .int .i64 W.lg.m0, .int .i64 W.lg.m1, .int .i64 W.lg.m2, .int .i64 W.lg.m3, .slice A.ga W.gates.length A.gc, .slice A.fa W.failed.length A.fc, .slice A.qa W.queue.length A.qc, .slice A.ma W.marks.length A.mc] 29)) wr.heap.size W A :=
  ⟨InBox.made h, hb.trans ((bel_alloc _ _).mono hb.size), hb.size, h.off (Nat.le_refl _)⟩
theorem LoopAt.set {w wr : World} {b : Nat} {W N : Wd} {A B : Ad} (h : LoopAt w wr b W A) (hn : WdLies wr N B) (ho : Off N B b) : LoopAt w (set9 wr b (.slice B.ho N.lg.holds.length B.hc) (.int .i64 N.lg.m0) (.int .i64 N.lg.m1) (.int .i64 N.lg.m2) (.int .i64 N.lg.m3) (.slice B.ga N.gates.length B.gc) (.slice B.fa N.failed.length B.fc) (.slice B.qa N.queue.length B.qc) (.slice B.ma N.marks.length B.mc)) b N B :=
  ⟨⟨Box9.set h.ib.bx _ _ _ _ _ _ _ _ _, Wd.far9 hn ho⟩, set9_below h.bl h.lt, h.lt, ho⟩
theorem asked_fits (m k : Nat) (hm : m ≤ 1000) (hk : k ≤ 1000) : Fits (asked m k) := by
  refine fits_small ?_ (Nat.zero_le _) (Nat.zero_le _) ?_ (Nat.zero_le _)
  · show ((upto 0 (min k m)).map leaseH).length ≤ _
    rw [List.length_map, upto_length]; omega
  · show (upto m k).length ≤ _
    rw [upto_length]; omega

set_option maxRecDepth 100000 in
set_option maxHeartbeats 600000 in
theorem pfull_any (most waits : Int) (w : World) :
    Calls Try.prog 5 #[.int .i64 most, .int .i64 waits] w fun e w' => e = .returned (.bool true) ∧ Below w.heap.size w w' := by
  go_enter Try.func5, Try.ntmps5
  go_wp2_with fail
  refine (alive_any _).mono ?_
  rintro e w1 ⟨rfl, b1⟩
  have HB1 : Hid (Below w.heap.size w w1) := b1
  clear b1
  by_cases a0 : most < 1
  · have d0 : decide (most < 1) = true := decide_eq_true a0
    go_wp2
    go_ret
    exact ⟨rfl, HB1.out⟩
  have d0 : decide (most < 1) = false := decide_eq_false a0
  by_cases a1 : 8 < most
  · have d1 : decide (8 < most) = true := decide_eq_true a1
    go_wp2
    go_ret
    exact ⟨rfl, HB1.out⟩
  have d1 : decide (8 < most) = false := decide_eq_false a1
  by_cases a2 : waits < 0
  · have d2 : decide (waits < 0) = true := decide_eq_true a2
    go_wp2
    go_ret
    exact ⟨rfl, HB1.out⟩
  have d2 : decide (waits < 0) = false := decide_eq_false a2
  by_cases a3 : 8 < waits
  · have d3 : decide (8 < waits) = true := decide_eq_true a3
    go_wp2
    go_ret
    exact ⟨rfl, HB1.out⟩
  have d3 : decide (8 < waits) = false := decide_eq_false a3
  obtain ⟨m, rfl⟩ : ∃ m : Nat, most = m := ⟨most.toNat, by omega⟩
  obtain ⟨v, rfl⟩ : ∃ v : Nat, waits = v := ⟨waits.toNat, by omega⟩
  have HM : Hid (1 ≤ m ∧ m ≤ 8 ∧ v ≤ 8) := ⟨by omega, by omega, by omega⟩
  go_wp2_with fail
  refine (world_any m _).mono ?_
  rintro e w2 ⟨rfl, b2⟩
  rw [← asked_new]
  have HL : Hid (LoopAt w _ _ (asked m 0) zeroAd) := LoopAt.made (wr := w2) (by rw [asked_new]; exact newLies m w2) (HB1.out.trans (b2.mono HB1.out.size))
  clear d0 d1 d2 d3 a0 a1 a2 a3 b2
  have hwr : wrap64 ((m : Int) + (v : Int)) = (m : Int) + (v : Int) := by
    obtain ⟨_, _, _⟩ := HM.out
    unfold wrap64
    omega
  unfold wdV
  go_wp2_with fail
  obtain ⟨W0, hW0⟩ : ∃ W0, w2.alloc (.cells #[.slice zeroAd.ho (asked m 0).lg.holds.length zeroAd.hc, .int .i64 (asked m 0).lg.m0, .int .i64 (asked m 0).lg.m1, .int .i64 (asked m 0).lg.m2, .int .i64 (asked m 0).lg.m3, .slice zeroAd.ga (asked m 0).gates.length zeroAd.gc, .slice zeroAd.fa (asked m 0).failed.length zeroAd.fc, .slice zeroAd.qa (asked m 0).queue.length zeroAd.qc, .slice zeroAd.ma (asked m 0).marks.length zeroAd.mc] 29) = W0 := ⟨_, rfl⟩
  rw [hW0] at HL ⊢
  rw [hwr]
  clear hW0 hwr
  go_loopw [34] (fun i wr => ∃ (k : Nat) (A : Ad), k ≤ m + v ∧ i = .int .i64 k ∧ Hid (LoopAt w wr w2.heap.size (asked m k) A)) (fun i _ => m + v - (intOf i).toNat)
  case atStart => exact ⟨0, zeroAd, by omega, rfl, HL⟩
  case round =>
    obtain ⟨k, A, hk, rfl, HK⟩ := hrel
    obtain ⟨a0, a1, a2, a3, a4, a5, a6, a7, a8, af, a9⟩ := HK.out.ib.bx
    by_cases hlt : k < m + v
    · have hlt' : (k : Int) < (m : Int) + (v : Int) := by omega
      have k16 : k ≤ 16 := by have := HM.out; omega
      have HST : Hid (_ ∧ _) := asked_step m k v (by omega)
      go_wp2_with fail
      refine (ask_any (asked m k) A k v wr HK.out.ib.ld (asked_fits m k (by have := HM.out; omega) (by have := HM.out; omega))).mono ?_
      rintro e w3 ⟨B, rfl, l3, o3, b3⟩
      rw [HST.out.2] at l3 o3
      rw [HST.out.2]
      have HK3 : Hid (LoopAt w w3 w2.heap.size (asked m k) A) := HK.out.keep b3
      have HL3 : Hid (WdLies w3 (asked m (k + 1)) B) := l3
      have HO3 : Hid (Off (asked m (k + 1)) B w2.heap.size) := o3 _ HK.out.ib.bx.lt
      clear a0 a1 a2 a3 a4 a5 a6 a7 a8 af a9
      clear l3 o3 b3
      unfold wdV
      go_wp2_with (with_reducible refine Hid.out (p := wpList _ _ _ ({ dst := _, op := Op.load 29 (Operand.tmp 7), type := _, pos := _, after := _, guard := _ } :: _) _ _) ?_)
      obtain ⟨w4, hw4⟩ : ∃ w4, w3.alloc (.cells #[.slice B.ho (asked m (k + 1)).lg.holds.length B.hc, .int .i64 (asked m (k + 1)).lg.m0, .int .i64 (asked m (k + 1)).lg.m1, .int .i64 (asked m (k + 1)).lg.m2, .int .i64 (asked m (k + 1)).lg.m3, .slice B.ga (asked m (k + 1)).gates.length B.gc, .slice B.fa (asked m (k + 1)).failed.length B.fc, .slice B.qa (asked m (k + 1)).queue.length B.qc, .slice B.ma (asked m (k + 1)).marks.length B.mc] 29) = w4 := ⟨_, rfl⟩
      have HX4 : Hid (Box9 w4 w3.heap.size (.slice B.ho (asked m (k + 1)).lg.holds.length B.hc) (.int .i64 (asked m (k + 1)).lg.m0) (.int .i64 (asked m (k + 1)).lg.m1) (.int .i64 (asked m (k + 1)).lg.m2) (.int .i64 (asked m (k + 1)).lg.m3) (.slice B.ga (asked m (k + 1)).gates.length B.gc) (.slice B.fa (asked m (k + 1)).failed.length B.fc) (.slice B.qa (asked m (k + 1)).queue.length B.qc) (.slice B.ma (asked m (k + 1)).marks.length B.mc)) := by rw [← hw4]; exact Box9.made _ _ _ _ _ _ _ _ _ _ _
      have HK4 : Hid (LoopAt w w4 w2.heap.size (asked m k) A) := by rw [← hw4]; exact HK3.out.keep (bel_alloc _ _)
      have HL4 : Hid (WdLies w4 (asked m (k + 1)) B) := by rw [← hw4]; exact HL3.out.below (Nat.le_refl _) (bel_alloc _ _)
      rw [hw4]
      show wpList _ _ _ _ _ w4
      clear hw4
      obtain ⟨a0, a1, a2, a3, a4, a5, a6, a7, a8, af, a9⟩ := HK4.out.ib.bx
      obtain ⟨x0, x1, x2, x3, x4, x5, x6, x7, x8, xf, x9⟩ := HX4.out
      go_wp2
      go_roundw
      case rel => exact ⟨k + 1, B, by omega, by go_num, HK4.out.set HL4.out HO3.out⟩
      case measure => simp [intOf]; omega
    · obtain rfl : k = m + v := by omega
      have HF1 : Hid (askE (asked m (m + v)) 99 v = 8 ∧ askR (asked m (m + v)) 99 v = zeroWd) := by
        have hm := HM.out
        refine ask_st_full _ _ _ _ _ ?_ ?_ (.inr ?_) ?_
        · rw [upto_mem]; rintro ⟨n, h1, h2, h3⟩; omega
        · rw [upto_mem]; rintro ⟨n, h1, h2, h3⟩; omega
        · rw [upto_length]; omega
        · rw [upto_length]; omega
      have HF2 : Hid (askE (asked m (m + v)) 0 v = 9 ∧ askR (asked m (m + v)) 0 v = zeroWd) := by
        have hm := HM.out
        refine ask_st_done _ _ _ _ _ (.inr ?_)
        rw [upto_mem]
        exact ⟨0, Nat.le_refl _, by omega, rfl⟩
      have HFT : Hid (Fits (asked m (m + v))) := asked_fits m (m + v) (by have := HM.out; omega) (by have := HM.out; omega)
      go_wp2_with fail
      refine (ask_any (asked m (m + v)) A 99 v wr HK.out.ib.ld HFT.out).mono ?_
      rintro e w3 ⟨B, rfl, l3, _, b3⟩
      rw [HF1.out.2] at l3
      rw [HF1.out.2, HF1.out.1]
      have HK3 : Hid (LoopAt w (w3.alloc (.cells #[.slice B.ho zeroWd.lg.holds.length B.hc, .int .i64 zeroWd.lg.m0, .int .i64 zeroWd.lg.m1, .int .i64 zeroWd.lg.m2, .int .i64 zeroWd.lg.m3, .slice B.ga zeroWd.gates.length B.gc, .slice B.fa zeroWd.failed.length B.fc, .slice B.qa zeroWd.queue.length B.qc, .slice B.ma zeroWd.marks.length B.mc] 29)) w2.heap.size (asked m (m + v)) A) := (HK.out.keep b3).keep (bel_alloc _ _)
      have HI3 : Hid (InBox (w3.alloc (.cells #[.slice B.ho zeroWd.lg.holds.length B.hc, .int .i64 zeroWd.lg.m0, .int .i64 zeroWd.lg.m1, .int .i64 zeroWd.lg.m2, .int .i64 zeroWd.lg.m3, .slice B.ga zeroWd.gates.length B.gc, .slice B.fa zeroWd.failed.length B.fc, .slice B.qa zeroWd.queue.length B.qc, .slice B.ma zeroWd.marks.length B.mc] 29)) w3.heap.size zeroWd B) := InBox.made l3
      clear a0 a1 a2 a3 a4 a5 a6 a7 a8 af a9
      clear l3 b3
      unfold wdV
      obtain ⟨a0, a1, a2, a3, a4, a5, a6, a7, a8, af, a9⟩ := HK3.out.ib.bx
      go_wp2_with fail
      refine (ask_any (asked m (m + v)) A 0 v _ HK3.out.ib.ld HFT.out).mono ?_
      rintro e w4 ⟨C, rfl, l4, _, b4⟩
      rw [HF2.out.2] at l4
      rw [HF2.out.2, HF2.out.1]
      have HK4 : Hid (LoopAt w (w4.alloc (.cells #[.slice C.ho zeroWd.lg.holds.length C.hc, .int .i64 zeroWd.lg.m0, .int .i64 zeroWd.lg.m1, .int .i64 zeroWd.lg.m2, .int .i64 zeroWd.lg.m3, .slice C.ga zeroWd.gates.length C.gc, .slice C.fa zeroWd.failed.length C.fc, .slice C.qa zeroWd.queue.length C.qc, .slice C.ma zeroWd.marks.length C.mc] 29)) w2.heap.size (asked m (m + v)) A) := (HK3.out.keep b4).keep (bel_alloc _ _)
      have HI4 : Hid (InBox (w4.alloc (.cells #[.slice C.ho zeroWd.lg.holds.length C.hc, .int .i64 zeroWd.lg.m0, .int .i64 zeroWd.lg.m1, .int .i64 zeroWd.lg.m2, .int .i64 zeroWd.lg.m3, .slice C.ga zeroWd.gates.length C.gc, .slice C.fa zeroWd.failed.length C.fc, .slice C.qa zeroWd.queue.length C.qc, .slice C.ma zeroWd.marks.length C.mc] 29)) w3.heap.size zeroWd B) := (HI3.out.keep b4).keep (bel_alloc _ _)
      have HJ4 : Hid (InBox (w4.alloc (.cells #[.slice C.ho zeroWd.lg.holds.length C.hc, .int .i64 zeroWd.lg.m0, .int .i64 zeroWd.lg.m1, .int .i64 zeroWd.lg.m2, .int .i64 zeroWd.lg.m3, .slice C.ga zeroWd.gates.length C.gc, .slice C.fa zeroWd.failed.length C.fc, .slice C.qa zeroWd.queue.length C.qc, .slice C.ma zeroWd.marks.length C.mc] 29)) w4.heap.size zeroWd C) := InBox.made l4
      clear a0 a1 a2 a3 a4 a5 a6 a7 a8 af a9
      clear l4 b4
      unfold wdV
      obtain ⟨w5, hw5⟩ : ∃ w5, w4.alloc (.cells #[.slice C.ho zeroWd.lg.holds.length C.hc, .int .i64 zeroWd.lg.m0, .int .i64 zeroWd.lg.m1, .int .i64 zeroWd.lg.m2, .int .i64 zeroWd.lg.m3, .slice C.ga zeroWd.gates.length C.gc, .slice C.fa zeroWd.failed.length C.fc, .slice C.qa zeroWd.queue.length C.qc, .slice C.ma zeroWd.marks.length C.mc] 29) = w5 := ⟨_, rfl⟩
      rw [hw5] at HK4 HI4 HJ4
      go_wp2_with (with_reducible refine Hid.out (p := wpList _ _ _ ({ dst := _, op := Op.load 26 _, type := _, pos := _, after := _, guard := _ } :: _) _ _) ?_)
      show wpList _ _ _ _ _ w5
      clear hw5
      obtain ⟨a0, a1, a2, a3, a4, a5, a6, a7, a8, af, a9⟩ := HK4.out.ib.bx
      obtain ⟨x0, x1, x2, x3, x4, x5, x6, x7, x8, xf, x9⟩ := HI4.out.bx
      obtain ⟨y0, y1, y2, y3, y4, y5, y6, y7, y8, yf, y9⟩ := HJ4.out.bx
      have q1 : (((asked m (m + v)).queue.length : Int) == (v : Int)) = true := by
        show (((upto m (m + v)).length : Int) == (v : Int)) = true
        rw [upto_length]; simp
      have q2 : (((asked m (m + v)).lg.holds.length : Int) == (m : Int)) = true := by
        show ((((upto 0 (min (m + v) m)).map leaseH).length : Int) == (m : Int)) = true
        rw [List.length_map, upto_length]; simp
      have q3 : (zeroWd.queue.length : Int) = 0 := rfl
      have q4 : (zeroWd.lg.holds.length : Int) = 0 := rfl
      go_wp2
      go_ret
      exact ⟨rfl, HK4.out.bl⟩
end Go.Proofs.Ytnhndieoaceofaa
