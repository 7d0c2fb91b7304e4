/- The law LedgerTells. -/
import Derived.Test.YtaolojgofehcjaaLedN
import Derived.Test.YtaolojgofehcjaaLedCr
import Derived.Test.YtaolojgofehcjaaLedDr
import Derived.Test.YtaolojgofehcjaaLedEr
namespace Go.Proofs.Ytaolojgofehcjaa
open Go.RowKit

theorem mine_bel (l : Lg) (v : Value) (id : Int) (w : World) (hl : LgAt w v l) (hr : l.holds.length * 24 ≤ 140737488355328) :
    Calls Try.prog 10 #[v, .int .i64 id] w fun e w' => ∃ ao c, e = .returned (.slice ao (mineL id l.holds).length c) ∧ HoldsAt w' ao (mineL id l.holds) ∧ Below w.heap.size w w' := by
  have hsm := hl
  obtain ⟨ao0, c0, _, h0, _⟩ := hsm
  refine (mine_any l v id w hl hr).mono ?_
  rintro e w' ⟨ao, c, rfl, own, hb⟩
  exact ⟨ao, c, rfl, holdsAt_of_owns own rfl (Nat.le_trans (mineL_len _ _) h0.small), hb⟩
set_option maxRecDepth 100000 in
set_option maxHeartbeats 4000000 in
theorem ltells_any (I : Impl) (l : Lg) (v : Value) (id kind filter a b c : Int) (w : World) (hl : LgAt w v l) (hr : l.holds.length * 24 ≤ 140737488351232) :
    Calls Try.prog 3 #[v, .int .i64 id, .int .i64 kind, .int .i64 filter, .int .i64 a, .int .i64 b, .int .i64 c] w fun e w' => e = .returned (.bool true) ∧ Below w.heap.size w w' := by
  have HI : Hid Impl := I
  clear I
  have q1 := Try.held27
  have q2 := Try.guard27
  obtain ⟨ao, cc, rfl⟩ := lgAt_form hl
  have a1 := hl.holds.1
  have hsm := a1.small
  unfold maxLen at hsm
  have HR : Hid (l.holds.length * 24 ≤ 140737488355328) := by show _ ≤ _; omega
  have HR1 : Hid ((l.holds.length + 1) * 24 ≤ 140737488355328) := by show _ ≤ _; omega
  clear hr
  obtain ⟨W1, hW1⟩ : ∃ W1, w.alloc (.cells #[.slice ao l.holds.length cc, .int .i64 l.m0, .int .i64 l.m1, .int .i64 l.m2, .int .i64 l.m3] 25) = W1 := ⟨_, rfl⟩
  have HX0 : Hid (LBoxAt W1 w.heap.size l ao cc) := by have h := LBoxAt.made hl; rw [hW1] at h; exact h
  have HB0 : Hid (Below w.heap.size w W1) := by have h := bel_alloc w (.cells #[.slice ao l.holds.length cc, .int .i64 l.m0, .int .i64 l.m1, .int .i64 l.m2, .int .i64 l.m3] 25); rw [hW1] at h; exact h
  have HW1 : Hid (w.alloc (.cells #[.slice ao l.holds.length cc, .int .i64 l.m0, .int .i64 l.m1, .int .i64 l.m2, .int .i64 l.m3] 25) = W1) := hW1
  have HLL : Hid (LgAt w (lgV l ao cc) l) := hl
  clear hl hW1
  unfold lgV
  go_enter Try.func3, Try.ntmps3
  go_wp2
  rw [HW1.out]
  go_loopw [28, 15] (fun i o wr => ∃ (k cnt : Nat), k ≤ l.holds.length ∧ i = .int .i64 k ∧ o = .int .i64 cnt ∧ Hid (Below W1.heap.size W1 wr) ∧ cnt ≤ k ∧ Hid (countL kind (l.holds.take k) = cnt)) (fun i _ _ => l.holds.length - (intOf i).toNat)
  case atStart => exact ⟨0, 0, by omega, rfl, rfl, Below.refl _ _, Nat.le_refl _, rfl⟩
  case round =>
    obtain ⟨k, cnt, hk, rfl, rfl, HBL, hck, HM⟩ := hrel
    by_cases hlt : k < l.holds.length
    · obtain ⟨b', off, rfl, hb, c0, c1, c2⟩ := (HX0.out.keep HBL.out).lg.holds.1.lies k hlt
      have hlt' : (k : Int) < (l.holds.length : Int) := by omega
      have HS : Hid (countL kind (l.holds.take (k + 1)) = cnt + if (l.holds[k].kind == kind) = true then 1 else 0) := by
        show _ = _
        rw [List.take_add_one, List.getElem?_eq_getElem hlt]
        show countL kind (l.holds.take k ++ [l.holds[k]]) = _
        rw [countL_snoc, HM.out]
      cases e : (l.holds[k].kind == kind) with
      | false =>
        go_wp2
        go_roundw
        case rel => exact ⟨k + 1, cnt, by omega, by go_num, rfl, HBL.out.trans ((bel_alloc _ _).mono HBL.out.size), by omega, by show _ = _; rw [HS.out, e]; rfl⟩
        case measure => simp [intOf]; omega
      | true =>
        go_wp2
        go_roundw
        case rel => exact ⟨k + 1, cnt + 1, by omega, by go_num, by go_num, HBL.out.trans ((bel_alloc _ _).mono HBL.out.size), by omega, by show _ = _; rw [HS.out, e]; rfl⟩
        case measure => simp [intOf]; omega
    · have HM2 : Hid (countL kind l.holds = cnt) := by
        have := HM.out
        rw [List.take_of_length_le (by omega)] at this
        exact this
      have HX1 : Hid (LBoxAt wr w.heap.size l ao cc) := HX0.out.keep HBL.out
      have HC : Hid (∀ (v : Value) (w : World), LgAt w v l → Calls Try.prog 4 #[v, .int .i64 kind] w fun e w' => e = .returned (.int .i64 cnt) ∧ Below w.heap.size w w') := fun v w h => by
        have := HI.out.count l v kind w h
        rw [HM2.out] at this
        exact this
      have ⟨c0, c1, c2, c3, c4, lt, _⟩ := HX1.out
      have HS0 : Hid (wr.drew.cell? ⟨w.heap.size, 0, none⟩ = some (.slice ao l.holds.length cc) ∧ wr.drew.cell? ⟨w.heap.size, 1, none⟩ = some (.int .i64 l.m0) ∧ wr.drew.cell? ⟨w.heap.size, 2, none⟩ = some (.int .i64 l.m1) ∧ wr.drew.cell? ⟨w.heap.size, 3, none⟩ = some (.int .i64 l.m2) ∧ wr.drew.cell? ⟨w.heap.size, 4, none⟩ = some (.int .i64 l.m3) ∧ Below W1.heap.size W1 wr.drew ∧ w.heap.size < W1.heap.size) :=
        ⟨c0, c1, c2, c3, c4, HBL.out.drew, HX0.out.lt⟩
      clear c0 c1 c2 c3 c4 lt HM HM2
      go_wp2_with fail
      go_region_held3 (fun w' => w'.cell? ⟨w.heap.size, 0, none⟩ = some (.slice ao l.holds.length cc) ∧ w'.cell? ⟨w.heap.size, 1, none⟩ = some (.int .i64 l.m0) ∧ w'.cell? ⟨w.heap.size, 2, none⟩ = some (.int .i64 l.m1) ∧ w'.cell? ⟨w.heap.size, 3, none⟩ = some (.int .i64 l.m2) ∧ w'.cell? ⟨w.heap.size, 4, none⟩ = some (.int .i64 l.m3) ∧ Below W1.heap.size W1 w' ∧ w.heap.size < W1.heap.size) (first | exact five_keep (by assumption) (by assumption) | exact HS0)
        (first
          | (go_at_call 4; refine Calls.mono (HC.out (lgV l ao cc) _ (five_lg HX0.out.lg (by assumption))) ?_; rintro e w' ⟨rfl, hb⟩)
          | (go_at_call 6; refine (HI.out.new a b c _).mono ?_; rintro e w' ⟨v9, rfl, n9, hb⟩)
          | (go_at_call 7; refine (HI.out.own l (lgV l ao cc) _ (five_lg HX0.out.lg (by assumption)) HR.out).mono ?_; rintro e w' ⟨v10, rfl, n10, hb⟩)
          | (go_at_call 5; have n10x := n10; clear n10x; refine (same_self l v10 (lgV l ao cc) _ n10.at (five_lg HX0.out.lg (by assumption))).mono ?_; rintro e w' ⟨rfl, hb⟩)
          | (go_at_call 5; refine (same_self ⟨[], 0, a, b, c⟩ v9 _ _ n9.at (litAt a b c _)).mono ?_; rintro e w' ⟨rfl, hb⟩)
          | (go_at_call 9; refine (HI.out.all l (lgV l ao cc) id _ (five_lg HX0.out.lg (by assumption)) HR.out).mono ?_; rintro e w' ⟨a7, d7, rfl, h7, _, hb⟩)
          | (go_at_call 10; refine (mine_bel l (lgV l ao cc) id _ (five_lg HX0.out.lg (by assumption)) HR.out).mono ?_; rintro e w' ⟨a8, d8, rfl, h8, hb⟩; have h7' := HoldsAt.below h7 (Nat.le_refl _) hb)
          | (go_at_call 8; refine (sameHolds_bel rfl _ _ _ _ _ h7' h8).mono ?_; rintro e w' ⟨rfl, hb⟩))
      rename_i hS8
      have HX2 : Hid (LBoxAt w' w.heap.size l ao cc) := HX0.out.keep (five_bel hS8)
      have HB2 : Hid (Below w.heap.size w w') := HB0.out.trans ((five_bel hS8).mono HB0.out.size)
      clear hS8 HS0 HC n9 n10 h7 h8 h7' hb HX1 HX0 HBL HB0
      have hm : mineL id l.holds = [] ∨ ∃ x t, mineL id l.holds = x :: t := by
        cases mineL id l.holds with
        | nil => exact .inl rfl
        | cons x t => exact .inr ⟨x, t, rfl⟩
      rcases hm with hm | ⟨x, t, hm⟩
      case' inl =>
        have HL : Hid (hoV (lastH id l.holds) = .agg #[.int .i64 0, .int .i64 0, .int .i64 0] ∧ hasB id l.holds = false) := by show _ ∧ _; unfold lastH hasB; rw [hm]; exact ⟨rfl, rfl⟩
        have HM : Hid (mineL id l.holds = []) := hm
        clear hm
        have ⟨c0, c1, c2, c3, c4, lt, _⟩ := HX2.out
        go_wp2_with fail
        refine (HI.out.last l (lgV l ao cc) id _ HX2.out.lg).mono ?_
        rintro e w3 ⟨rfl, b3⟩
        rw [HL.out.1, HL.out.2]
        have HX3 : Hid (LBoxAt _ _ _ _ _) := (HX2.out.keep b3).keep (bel_alloc w3 (.cells #[.int .i64 0, .int .i64 0, .int .i64 0] 27))
        have HO3 : Hid (OBoxAt _ _ _) := OBoxAt.made w3 ⟨0, 0, 0⟩
        have HB3 : Hid (Below w.heap.size w (w3.alloc (.cells #[.int .i64 0, .int .i64 0, .int .i64 0] 27))) := by
          have hb := HB2.out.trans (b3.mono HB2.out.size)
          exact hb.trans ((bel_alloc _ _).mono hb.size)
        clear c0 c1 c2 c3 c4 lt HX2 HB2 b3
        have ⟨c0, c1, c2, c3, c4, lt, _⟩ := HX3.out
        go_wp2_with fail
        refine (mine_bel l (lgV l ao cc) id _ HX3.out.lg HR.out).mono ?_
        rintro e w4 ⟨a9, d9, rfl, h9, b4⟩
        rw [show (mineL id l.holds).length = 0 by rw [HM.out]; rfl]
        have HX4 : Hid (LBoxAt _ _ _ _ _) := HX3.out.keep b4
        have ⟨o0, o1, o2, ol⟩ := HO3.out.keep b4
        have HB4 : Hid (Below w.heap.size w w4) := HB3.out.trans (b4.mono HB3.out.size)
        clear c0 c1 c2 c3 c4 lt HX3 HB3 b4 HO3 h9
        go_wp2_with fail
        go_quiet (fail)
        clear o0 o1 o2 ol
        have HX5 : Hid (LBoxAt (w4.drewN nq) w.heap.size l ao cc) := HX4.out.keep (belDrewN (Below.refl _ _) nq)
        have HB5 : Hid (Below w.heap.size w (w4.drewN nq)) := belDrewN HB4.out nq
        clear HX4 HB4
        have ⟨c0, c1, c2, c3, c4, lt, _⟩ := HX5.out
        go_wp2_with fail
      case' inr =>
        have HL : Hid (hoV (lastH id l.holds) = .agg #[.int .i64 x.id, .int .i64 x.kind, .int .i64 x.filter] ∧ hasB id l.holds = true) := by show _ ∧ _; unfold lastH hasB; rw [hm]; exact ⟨rfl, rfl⟩
        obtain ⟨m, hmm⟩ : ∃ m, (mineL id l.holds).length = m := ⟨_, rfl⟩
        have hp : (0 : Int) < (m : Int) := by rw [hm] at hmm; simp at hmm; omega
        have hp0 : 0 < m := by omega
        have hpd : decide ((0 : Int) < (m : Int)) = true := decide_eq_true hp
        have hpe : decide (0 < m) = true := decide_eq_true hp0
        have HM : Hid (mineL id l.holds = x :: t) := hm
        have HMM : Hid ((mineL id l.holds).length = m) := hmm
        clear hm hmm
        have ⟨c0, c1, c2, c3, c4, lt, _⟩ := HX2.out
        go_wp2_with fail
        refine (HI.out.last l (lgV l ao cc) id _ HX2.out.lg).mono ?_
        rintro e w3 ⟨rfl, b3⟩
        rw [HL.out.1, HL.out.2]
        have HX3 : Hid (LBoxAt _ _ _ _ _) := (HX2.out.keep b3).keep (bel_alloc w3 (.cells #[.int .i64 x.id, .int .i64 x.kind, .int .i64 x.filter] 27))
        have HO3 : Hid (OBoxAt _ _ _) := OBoxAt.made w3 x
        have HB3 : Hid (Below w.heap.size w (w3.alloc (.cells #[.int .i64 x.id, .int .i64 x.kind, .int .i64 x.filter] 27))) := by
          have hb := HB2.out.trans (b3.mono HB2.out.size)
          exact hb.trans ((bel_alloc _ _).mono hb.size)
        clear c0 c1 c2 c3 c4 lt HX2 HB2 b3
        have ⟨c0, c1, c2, c3, c4, lt, _⟩ := HX3.out
        go_wp2_with fail
        refine (mine_bel l (lgV l ao cc) id _ HX3.out.lg HR.out).mono ?_
        rintro e w4 ⟨a9, d9, rfl, h9, b4⟩
        rw [HMM.out]
        rw [HM.out] at h9
        obtain ⟨b9, off9, rfl, hb9, e0, e1, e2⟩ := h9.lies 0 (by simp)
        simp only [List.getElem_cons_zero, Nat.zero_mul, Nat.add_zero] at e0 e1 e2
        have HX4 : Hid (LBoxAt _ _ _ _ _) := HX3.out.keep b4
        have ⟨o0, o1, o2, ol⟩ := HO3.out.keep b4
        have HB4 : Hid (Below w.heap.size w w4) := HB3.out.trans (b4.mono HB3.out.size)
        clear c0 c1 c2 c3 c4 lt HX3 HB3 b4 HO3 h9
        go_wp2_with fail
        go_quiet (fail)
        clear o0 o1 o2 ol e0 e1 e2
        have HX5 : Hid (LBoxAt (w4.drewN nq) w.heap.size l ao cc) := HX4.out.keep (belDrewN (Below.refl _ _) nq)
        have HB5 : Hid (Below w.heap.size w (w4.drewN nq)) := belDrewN HB4.out nq
        clear HX4 HB4
        have ⟨c0, c1, c2, c3, c4, lt, _⟩ := HX5.out
        go_wp2_with fail
      all_goals
        refine (HI.out.take l (lgV l ao cc) id kind filter _ HX5.out.lg HR1.out).mono ?_
        rintro e w10 ⟨vx, rfl, gx, b10⟩
        obtain ⟨T, hT⟩ : ∃ T, takeR l id kind filter = T := ⟨_, rfl⟩
        obtain ⟨E, hE⟩ : ∃ E, takeE l kind = E := ⟨_, rfl⟩
        rw [hT] at gx
        rw [hE]
        have HT : Hid (takeR l id kind filter = T) := hT
        have HE : Hid (takeE l kind = E) := hE
        clear hT hE c0 c1 c2 c3 c4 lt
        obtain ⟨aT, cT, rfl⟩ := lgAt_form gx.at
        have HT6 : Hid (SBox _ _ _ _ _) := SBox.made gx.at
        have HX6 : Hid (LBoxAt _ _ _ _ _) := (HX5.out.keep b10).keep (bel_alloc w10 (.cells #[.slice aT T.holds.length cT, .int .i64 T.m0, .int .i64 T.m1, .int .i64 T.m2, .int .i64 T.m3] 25))
        have HB6 : Hid (Below w.heap.size w (w10.alloc (.cells #[.slice aT T.holds.length cT, .int .i64 T.m0, .int .i64 T.m1, .int .i64 T.m2, .int .i64 T.m3] 25))) := by
          have hb := HB5.out.trans (b10.mono HB5.out.size)
          exact hb.trans ((bel_alloc _ _).mono hb.size)
        have n6 : w.heap.size < w10.heap.size := (HX5.out.keep b10).lt
        clear HX5 HB5 gx b10
        have ⟨c0, c1, c2, c3, c4, lt, _⟩ := HX6.out
        unfold lgV
        go_wp2_with fail
        refine (rtake_any l (lgV l ao cc) id kind filter _ HX6.out.lg HR1.out).mono ?_
        rintro e w11 ⟨vy, rfl, gy, b11⟩
        rw [HT.out] at gy
        rw [HE.out]
        clear c0 c1 c2 c3 c4 lt HT HE
        obtain ⟨aU, cU, rfl, u1, u2, u3, u4, uf⟩ := gy
        have HUF : Hid (Fresh (w10.heap.size + 1) aU T.holds) := by simp at uf; exact uf
        have HU7 : Hid (SBox _ _ _ _ _) := SBox.made ⟨aU, cU, rfl, u1, u2, u3, u4⟩
        have HX7 : Hid (LBoxAt _ _ _ _ _) := (HX6.out.keep b11).keep (bel_alloc w11 (.cells #[.slice aU T.holds.length cU, .int .i64 T.m0, .int .i64 T.m1, .int .i64 T.m2, .int .i64 T.m3] 25))
        have HT7 : Hid (SBox _ _ _ _ _) := (HT6.out.keep b11).keep (bel_alloc w11 (.cells #[.slice aU T.holds.length cU, .int .i64 T.m0, .int .i64 T.m1, .int .i64 T.m2, .int .i64 T.m3] 25))
        have HB7 : Hid (Below w.heap.size w (w11.alloc (.cells #[.slice aU T.holds.length cU, .int .i64 T.m0, .int .i64 T.m1, .int .i64 T.m2, .int .i64 T.m3] 25))) := by
          have hb := HB6.out.trans (b11.mono HB6.out.size)
          exact hb.trans ((bel_alloc _ _).mono hb.size)
        have n7 : w10.heap.size < w11.heap.size := (HT6.out.keep b11).bx.lt
        clear HX6 HB6 HT6 u1 u2 u3 u4 uf b11
        have ⟨t0, t1, t2, t3, t4, tl, _⟩ := HT7.out.bx
        have ⟨y0, y1, y2, y3, y4, yl, _⟩ := HU7.out.bx
        unfold lgV
        go_wp2_with fail
        refine (same_self T (lgV T aT cT) (lgV T aU cU) _ HT7.out.bx.lg HU7.out.bx.lg).mono ?_
        rintro e w12 ⟨rfl, b12⟩
        have HX8 : Hid (LBoxAt _ _ _ _ _) := HX7.out.keep b12
        have HT8 : Hid (SBox _ _ _ _ _) := HT7.out.keep b12
        have HU8 : Hid (SBox _ _ _ _ _) := HU7.out.keep b12
        have HB8 : Hid (Below w.heap.size w w12) := HB7.out.trans (b12.mono HB7.out.size)
        clear t0 t1 t2 t3 t4 tl y0 y1 y2 y3 y4 yl HX7 HT7 HU7 HB7 b12
        have ⟨c0, c1, c2, c3, c4, lt, _⟩ := HX8.out
        go_wp2_with fail
        refine (HI.out.give l (lgV l ao cc) id kind _ HX8.out.lg HR.out).mono ?_
        rintro e w13 ⟨vn, rfl, gn, b13⟩
        obtain ⟨N, hN⟩ : ∃ N, giveR l id kind = N := ⟨_, rfl⟩
        obtain ⟨F, hF⟩ : ∃ F, giveE l id kind = F := ⟨_, rfl⟩
        rw [hN] at gn
        rw [hF]
        have HN : Hid (giveR l id kind = N) := hN
        have HF : Hid (giveE l id kind = F) := hF
        clear hN hF c0 c1 c2 c3 c4 lt
        have n8 : w11.heap.size < w12.heap.size := HU8.out.bx.lt
        obtain ⟨aN, cN, rfl, g1, g2, g3, g4, gf⟩ := gn
        have HX9p : Hid (LBoxAt _ _ _ _ _) := HX8.out.keep b13
        have HT9p : Hid (SBox _ _ _ _ _) := HT8.out.keep b13
        have HU9p : Hid (SBox _ _ _ _ _) := HU8.out.keep b13
        have HB9p : Hid (Below w.heap.size w w13) := HB8.out.trans (b13.mono HB8.out.size)
        have n9z : w12.heap.size ≤ w13.heap.size := b13.size
        have HNF : Hid (Fresh w12.heap.size aN N.holds) := gf
        have HNA : Hid (LgAt w13 (lgV N aN cN) N) := ⟨aN, cN, rfl, g1, g2, g3, g4⟩
        clear g1 g2 g3 g4 gf b13 HX8 HT8 HU8 HB8
        have HX9 : Hid (LBoxAt (set5 w13 w10.heap.size N aN cN) w.heap.size l ao cc) := HX9p.out.far (by omega) (old_ne HLL.out (by omega))
        have HT9 : Hid (SBox (set5 w13 w10.heap.size N aN cN) w10.heap.size N aN cN) := HT9p.out.set HNA.out (fun k off hne e => by have := HNF.out k off hne e; omega)
        have HU9 : Hid (SBox (set5 w13 w10.heap.size N aN cN) w11.heap.size T aU cU) := HU9p.out.far (by omega) (fun k off hne e => by have := HUF.out k off hne e; omega)
        have HB9 : Hid (Below w.heap.size w (set5 w13 w10.heap.size N aN cN)) := set5_below HB9p.out (by omega)
        have ⟨c0, c1, c2, c3, c4, lt, _⟩ := HX9p.out
        have ⟨t0, t1, t2, t3, t4, tl, _⟩ := HT9p.out.bx
        have tf := HT9p.out.fz
        have ne1 : ¬ w.heap.size = w10.heap.size := by omega
        unfold lgV
        go_wp2_with fail
        refine (rgive_any l (lgV l ao cc) id kind _ HX9.out.lg HR.out).mono ?_
        rintro e w14 ⟨vm, rfl, gm, b14⟩
        rw [HN.out] at gm
        rw [HF.out]
        clear c0 c1 c2 c3 c4 lt t0 t1 t2 t3 t4 tl tf HN HF HX9p HT9p HU9p HB9p
        obtain ⟨aM, cM, rfl, m1, m2, m3, m4, mf⟩ := gm
        have HMF : Hid (Fresh w13.heap.size aM N.holds) := by rw [set5_size] at mf; exact mf
        have HMA : Hid (LgAt w14 (lgV N aM cM) N) := ⟨aM, cM, rfl, m1, m2, m3, m4⟩
        have HT10p : Hid (SBox _ _ _ _ _) := HT9.out.keep b14
        have HU10p : Hid (SBox _ _ _ _ _) := HU9.out.keep b14
        have HB10p : Hid (Below w.heap.size w w14) := HB9.out.trans (b14.mono HB9.out.size)
        clear m1 m2 m3 m4 mf b14 HX9 HT9 HU9 HB9
        have HT10 : Hid (LBoxAt (set5 w14 w11.heap.size N aM cM) w10.heap.size N aN cN) := HT10p.out.bx.far (by omega) (fun k off hne e => by have := HNF.out k off hne e; omega)
        have HU10 : Hid (LBoxAt (set5 w14 w11.heap.size N aM cM) w11.heap.size N aM cM) := HU10p.out.bx.set HMA.out (fun k off hne e => by have := HMF.out k off hne e; omega)
        have HB10 : Hid (Below w.heap.size w (set5 w14 w11.heap.size N aM cM)) := set5_below HB10p.out (by omega)
        have ⟨t0, t1, t2, t3, t4, tl, _⟩ := HT10p.out.bx
        have ⟨y0, y1, y2, y3, y4, yl, _⟩ := HU10p.out.bx
        have yf := HU10p.out.fz
        have ne2 : ¬ w10.heap.size = w11.heap.size := by omega
        unfold lgV
        go_wp2_with fail
        refine (same_self N (lgV N aN cN) (lgV N aM cM) _ HT10.out.lg HU10.out.lg).mono ?_
        rintro e w15 ⟨rfl, b15⟩
        have HB15 : Hid (Below w.heap.size w w15) := HB10.out.trans (b15.mono HB10.out.size)
        clear b15 t0 t1 t2 t3 t4 tl y0 y1 y2 y3 y4 yl yf HT10 HU10 HT10p HU10p HB10 HB10p
        go_wp2
        go_ret
        exact ⟨rfl, HB15.out⟩
end Go.Proofs.Ytaolojgofehcjaa
