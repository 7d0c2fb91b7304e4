/- The law LedgerBack. -/
import Derived.Test.YtaolojgofehcjabLedN
import Derived.Test.YtaolojgofehcjabLedQa
namespace Go.Proofs.Ytaolojgofehcjab
open Go.RowKit

set_option maxRecDepth 100000 in
set_option maxHeartbeats 1000000 in
theorem lback_any (I : Impl) (l : Lg) (v : Value) (id kind filter : Int) (w : World) (hl : LgAt w v l) (hr : l.holds.length * 24 ≤ 140737488351232) :
    Calls Try.prog 3 #[v, .int .i64 id, .int .i64 kind, .int .i64 filter] w fun e w' => e = .returned (.bool true) ∧ Below w.heap.size w w' := by
  have HI : Hid Impl := I
  clear I
  have q1 := Try.held27
  have q2 := Try.guard27
  obtain ⟨ao, c, rfl⟩ := lgAt_form hl
  have X0 := LBoxAt.made hl
  clear hl
  have ba := bel_alloc w (.cells #[.slice ao l.holds.length c, .int .i64 l.m0, .int .i64 l.m1, .int .i64 l.m2, .int .i64 l.m3] 25)
  have HR : Hid ((l.holds.length + 1) * 24 ≤ 140737488355328) := by show _ ≤ _; omega
  clear hr
  unfold lgV
  go_enter Try.func3, Try.ntmps3
  go_wp2_with fail
  refine (lalive_any HI.out _).mono ?_
  rintro e w1 ⟨rfl, b1⟩
  have HX1 : Hid (LBoxAt _ _ _ _ _) := X0.keep b1
  have HB1 : Hid (Below w.heap.size w w1) := ba.trans (b1.mono ba.size)
  clear X0 b1 ba
  have ⟨c0, c1, c2, c3, c4, lt, _⟩ := HX1.out
  go_wp2_with fail
  refine (HI.out.take l _ id kind filter _ HX1.out.lg HR.out).mono ?_
  rintro e w2 ⟨v2, rfl, g2', b2⟩
  have g2 := g2'.at
  clear g2'
  by_cases h0 : takeE l kind = 0
  · have hT : takeR l id kind filter = { l with holds := l.holds ++ [⟨id, kind, filter⟩] } := by unfold takeR; rw [if_pos h0]
    obtain ⟨T, hTT⟩ : ∃ T : Lg, T = { l with holds := l.holds ++ [⟨id, kind, filter⟩] } := ⟨_, rfl⟩
    rw [hT, ← hTT] at g2
    rw [h0]
    obtain ⟨ao2, d2, rfl⟩ := lgAt_form g2
    have HX2 : Hid (LBoxAt _ _ _ _ _) := LBoxAt.made g2
    have HY2 : Hid (LBoxAt _ _ _ _ _) := (HX1.out.keep b2).keep (bel_alloc w2 (.cells #[.slice ao2 T.holds.length d2, .int .i64 T.m0, .int .i64 T.m1, .int .i64 T.m2, .int .i64 T.m3] 25))
    have HB2 : Hid (Below w.heap.size w (w2.alloc (.cells #[.slice ao2 T.holds.length d2, .int .i64 T.m0, .int .i64 T.m1, .int .i64 T.m2, .int .i64 T.m3] 25))) := by
      have hb := HB1.out.trans (b2.mono HB1.out.size)
      exact hb.trans ((bel_alloc _ _).mono hb.size)
    have HL : Hid (hoV (lastH id T.holds) = .agg #[.int .i64 id, .int .i64 kind, .int .i64 filter] ∧ hasB id T.holds = true) := by
      show _ ∧ _
      rw [hTT]
      unfold lastH hasB
      rw [mineL_take]
      exact ⟨rfl, rfl⟩
    have HG : Hid (giveE T id kind = 0 ∧ giveR T id kind = l) := by
      show _ ∧ _
      rw [hTT]
      exact give_take l id kind filter
    have HT : Hid (T.holds.length * 24 ≤ 140737488355328) := by
      have e : T.holds.length = l.holds.length + 1 := by rw [hTT]; simp
      show _ ≤ _
      rw [e]
      exact HR.out
    clear hT hTT h0 g2 b2 HX1 HB1 c0 c1 c2 c3 c4 lt
    unfold lgV
    go_wp2_with fail
    refine (HI.out.last T _ id _ HX2.out.lg).mono ?_
    rintro e w3 ⟨rfl, b3⟩
    rw [HL.out.1, HL.out.2]
    have HX3 : Hid (LBoxAt _ _ _ _ _) := (HX2.out.keep b3).keep (bel_alloc w3 (.cells #[.int .i64 id, .int .i64 kind, .int .i64 filter] 31))
    have HY3 : Hid (LBoxAt _ _ _ _ _) := (HY2.out.keep b3).keep (bel_alloc w3 (.cells #[.int .i64 id, .int .i64 kind, .int .i64 filter] 31))
    have HO3 : Hid (OBoxAt _ _ _) := OBoxAt.made w3 ⟨id, kind, filter⟩
    have HB3 : Hid (Below w.heap.size w (w3.alloc (.cells #[.int .i64 id, .int .i64 kind, .int .i64 filter] 31))) := by
      have hb := HB2.out.trans (b3.mono HB2.out.size)
      exact hb.trans ((bel_alloc _ _).mono hb.size)
    clear HX2 HY2 HB2 b3
    have ⟨c0, c1, c2, c3, c4, lt, _⟩ := HX3.out
    go_wp2_with fail
    refine (HI.out.give T _ id kind _ HX3.out.lg HT.out).mono ?_
    rintro e w4 ⟨v4, rfl, g4', b4⟩
    have g4 := g4'.at
    clear g4'
    rw [HG.out.1]
    rw [HG.out.2] at g4
    obtain ⟨ao4, d4, rfl⟩ := lgAt_form g4
    have HX4 : Hid (LBoxAt _ _ _ _ _) := LBoxAt.made g4
    have HY4 : Hid (LBoxAt _ _ _ _ _) := (HY3.out.keep b4).keep (bel_alloc w4 (.cells #[.slice ao4 l.holds.length d4, .int .i64 l.m0, .int .i64 l.m1, .int .i64 l.m2, .int .i64 l.m3] 25))
    have HO4 : Hid (OBoxAt _ _ _) := (HO3.out.keep b4).keep (bel_alloc w4 (.cells #[.slice ao4 l.holds.length d4, .int .i64 l.m0, .int .i64 l.m1, .int .i64 l.m2, .int .i64 l.m3] 25))
    have HB4 : Hid (Below w.heap.size w (w4.alloc (.cells #[.slice ao4 l.holds.length d4, .int .i64 l.m0, .int .i64 l.m1, .int .i64 l.m2, .int .i64 l.m3] 25))) := by
      have hb := HB3.out.trans (b4.mono HB3.out.size)
      exact hb.trans ((bel_alloc _ _).mono hb.size)
    clear c0 c1 c2 c3 c4 lt HX3 HY3 HO3 HB3 g4 b4
    have ⟨c0, c1, c2, c3, c4, lt, _⟩ := HX4.out
    have ⟨y0, y1, y2, y3, y4, yl, _⟩ := HY4.out
    have ⟨o0, o1, o2, ol⟩ := HO4.out
    unfold lgV
    go_wp2_with fail
    refine (sameLedger_any l l _ _ _ HX4.out.lg HY4.out.lg).mono ?_
    rintro e w5 ⟨rfl, b5⟩
    rw [lgB_self]
    have HB5 : Hid (Below w.heap.size w w5) := HB4.out.trans (b5.mono HB4.out.size)
    clear b5 HB4 HX4 HY4 HO4
    go_wp2
    go_ret
    exact ⟨rfl, HB5.out⟩
  · have hT : takeR l id kind filter = zeroLg := by unfold takeR; rw [if_neg h0]
    rw [hT] at g2
    obtain ⟨ao2, d2, ev⟩ := lgAt_form g2
    obtain rfl : v2 = .agg #[.slice ao2 0 d2, .int .i64 0, .int .i64 0, .int .i64 0, .int .i64 0] := ev
    have hn : (takeE l kind != 0) = true := by simpa using h0
    have HB2 : Hid (Below w.heap.size w (w2.alloc (.cells #[.slice ao2 0 d2, .int .i64 0, .int .i64 0, .int .i64 0, .int .i64 0] 25))) := by
      have hb := HB1.out.trans (b2.mono HB1.out.size)
      exact hb.trans ((bel_alloc _ _).mono hb.size)
    clear b2 g2 hT c0 c1 c2 c3 c4 lt HX1 HB1
    go_wp2
    go_ret
    exact ⟨rfl, HB2.out⟩
end Go.Proofs.Ytaolojgofehcjab
