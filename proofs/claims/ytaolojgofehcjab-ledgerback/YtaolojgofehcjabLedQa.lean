/- The closed fact that the laws ask first. -/
import Derived.Test.YtaolojgofehcjabLedQ
namespace Go.Proofs.Ytaolojgofehcjab
open Go.RowKit

def aliveL : Lg := ⟨[⟨5, 3, 3⟩], 0, 1, 1, 2⟩
theorem alive_take : takeR ⟨[], 0, 1, 1, 2⟩ 5 3 3 = aliveL := by rfl
theorem alive_takeE : takeE ⟨[], 0, 1, 1, 2⟩ 3 = 0 := by rfl
theorem alive_give : giveR aliveL 5 3 = ⟨[], 0, 1, 1, 2⟩ := by rfl
theorem alive_giveE : giveE aliveL 5 3 = 0 := by rfl
/-- The closed fact's ledger and hold, as they lie. -/
structure ABox (w W : World) (b : Nat) (ao : Option Addr) (c : Nat) : Prop where
  c0 : W.cell? ⟨b, 0, none⟩ = some (.slice ao 1 c)
  c1 : W.cell? ⟨b, 1, none⟩ = some (.int .i64 0)
  c2 : W.cell? ⟨b, 2, none⟩ = some (.int .i64 1)
  c3 : W.cell? ⟨b, 3, none⟩ = some (.int .i64 1)
  c4 : W.cell? ⟨b, 4, none⟩ = some (.int .i64 2)
  lt : b < W.heap.size
  lg : LgAt W (.agg #[.slice ao 1 c, .int .i64 0, .int .i64 1, .int .i64 1, .int .i64 2]) aliveL
  bl : Below w.heap.size w W
theorem ABox.keep {w W W' : World} {b : Nat} {ao : Option Addr} {c : Nat} (h : ABox w W b ao c) (hb : Below W.heap.size W W') : ABox w W' b ao c := by
  have e := fun j => hb.cell (p := ⟨b, j, none⟩) h.lt
  exact ⟨by rw [e]; exact h.c0, by rw [e]; exact h.c1, by rw [e]; exact h.c2, by rw [e]; exact h.c3, by rw [e]; exact h.c4, Nat.lt_of_lt_of_le h.lt hb.size, h.lg.below (Nat.le_refl _) hb, h.bl.trans (hb.mono h.bl.size)⟩
theorem ABox.made {w W : World} {ao : Option Addr} {c : Nat} (h : LgAt W (.agg #[.slice ao 1 c, .int .i64 0, .int .i64 1, .int .i64 1, .int .i64 2]) aliveL) (hb : Below w.heap.size w W) : ABox w (W.alloc (.cells #[.slice ao 1 c, .int .i64 0, .int .i64 1, .int .i64 1, .int .i64 2] 25)) W.heap.size ao c :=
  ⟨by simp, by simp, by simp, by simp, by simp, by simp, h.below (Nat.le_refl _) (bel_alloc _ _), hb.trans ((bel_alloc _ _).mono hb.size)⟩

set_option maxRecDepth 100000 in
set_option maxHeartbeats 1000000 in
theorem lalive_any (I : Impl) (w : World) : Calls Try.prog 6 #[] w fun e w' => e = .returned (.bool true) ∧ Below w.heap.size w w' := by
  have HI : Hid Impl := I
  clear I
  have q1 := Try.held27
  have q2 := Try.guard27
  go_enter Try.func6, Try.ntmps6
  go_wp2_with fail
  refine (HI.out.new 1 1 2 _).mono ?_
  rintro e w1 ⟨v1, rfl, g1', b1⟩
  have g1 := g1'.at
  clear g1'
  go_wp2_with fail
  refine (HI.out.take ⟨[], 0, 1, 1, 2⟩ v1 5 3 3 _ g1 (by decide)).mono ?_
  rintro e w2 ⟨v2, rfl, g2', b2⟩
  have g2 := g2'.at
  clear g2'
  rw [alive_takeE]
  rw [alive_take] at g2
  obtain ⟨ao, c, ev⟩ := lgAt_form g2
  obtain rfl : v2 = .agg #[.slice ao 1 c, .int .i64 0, .int .i64 1, .int .i64 1, .int .i64 2] := ev
  have X2 := ABox.made g2 (b1.trans (b2.mono b1.size))
  clear g1 g2 b1 b2
  go_wp2_with fail
  refine (HI.out.last aliveL _ 5 _ X2.lg).mono ?_
  rintro e w3 ⟨rfl, b3⟩
  rw [show hoV (lastH 5 aliveL.holds) = .agg #[.int .i64 5, .int .i64 3, .int .i64 3] from rfl, show hasB 5 aliveL.holds = true from rfl]
  have X3 := (X2.keep b3).keep (bel_alloc _ (.cells #[.int .i64 5, .int .i64 3, .int .i64 3] 31))
  have O3 := OBoxAt.made w3 ⟨5, 3, 3⟩
  clear X2 b3
  have HX3 : Hid (ABox _ _ _ _ _) := X3
  obtain ⟨c0, c1, c2, c3, c4, lt, _, _⟩ := X3
  go_wp2_with fail
  refine (HI.out.give aliveL _ 5 3 _ HX3.out.lg (by decide)).mono ?_
  rintro e w4 ⟨v4, rfl, g4', b4⟩
  have g4 := g4'.at
  clear g4'
  rw [alive_giveE]
  rw [alive_give] at g4
  obtain ⟨ao4, d4, ev⟩ := lgAt_form g4
  obtain rfl : v4 = .agg #[.slice ao4 0 d4, .int .i64 0, .int .i64 1, .int .i64 1, .int .i64 2] := ev
  have X4 := (HX3.out.keep b4).keep (bel_alloc _ (.cells #[.slice ao4 0 d4, .int .i64 0, .int .i64 1, .int .i64 1, .int .i64 2] 25))
  have O4 := (O3.keep b4).keep (bel_alloc _ (.cells #[.slice ao4 0 d4, .int .i64 0, .int .i64 1, .int .i64 1, .int .i64 2] 25))
  have L4 := fun W (hW : Below (w4.alloc (.cells #[.slice ao4 0 d4, .int .i64 0, .int .i64 1, .int .i64 1, .int .i64 2] 25)).heap.size (w4.alloc (.cells #[.slice ao4 0 d4, .int .i64 0, .int .i64 1, .int .i64 1, .int .i64 2] 25)) W) => hW.cell (p := ⟨w4.heap.size, 0, none⟩) (by simp)
  clear c0 c1 c2 c3 c4 lt HX3 g4 b4 O3
  have HX4 : Hid (ABox _ _ _ _ _) := X4
  have HL4 : Hid (∀ W, _ → _) := L4
  clear L4
  obtain ⟨c0, c1, c2, c3, c4, lt, _, _⟩ := X4
  obtain ⟨o0, o1, o2, ol⟩ := O4
  go_wp2_with fail
  refine (HI.out.count aliveL _ 3 _ HX4.out.lg).mono ?_
  rintro e w5 ⟨rfl, b5⟩
  rw [show ((countL 3 aliveL.holds : Nat) : Int) = 1 from rfl]
  have X5 := HX4.out.keep b5
  have z5 := HL4.out w5 b5
  clear c0 c1 c2 c3 c4 lt HX4 o0 o1 o2 ol HL4 b5
  have HX5 : Hid (ABox _ _ _ _ _) := X5
  obtain ⟨c0, c1, c2, c3, c4, lt, _, _⟩ := X5
  go_wp2_with fail
  refine (HI.out.all aliveL _ 5 _ HX5.out.lg (by decide)).mono ?_
  rintro e w6 ⟨ao6, d6, rfl, g6, _, b6⟩
  rw [show (mineL 5 aliveL.holds).length = 1 from rfl]
  have X6 := HX5.out.keep b6
  clear c0 c1 c2 c3 c4 lt HX5 z5 g6 b6
  have HX6 : Hid (ABox _ _ _ _ _) := X6
  obtain ⟨c0, c1, c2, c3, c4, lt, _, _⟩ := X6
  go_wp2_with fail
  refine (HI.out.own aliveL _ _ HX6.out.lg (by decide)).mono ?_
  rintro e w7 ⟨v7, rfl, g7', b7⟩
  have g7 := g7'.at
  clear g7'
  obtain ⟨ao7, d7, ev⟩ := lgAt_form g7
  obtain rfl : v7 = .agg #[.slice ao7 1 d7, .int .i64 0, .int .i64 1, .int .i64 1, .int .i64 2] := ev
  have X7 := HX6.out.keep b7
  clear c0 c1 c2 c3 c4 lt HX6 g7 b7
  have hfd := field25_0
  go_wp2
  go_ret
  exact ⟨rfl, X7.bl⟩
end Go.Proofs.Ytaolojgofehcjab
