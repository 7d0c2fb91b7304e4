/- The law LedgerAll. -/
import Derived.Test.YtaolojgofehcjabLedN
import Derived.Test.YtaolojgofehcjabLedQa
namespace Go.Proofs.Ytaolojgofehcjab
open Go.RowKit

set_option maxRecDepth 100000 in
set_option maxHeartbeats 2000000 in
theorem lall_any (I : Impl) (l : Lg) (v : Value) (id other : Int) (w : World) (hl : LgAt w v l) (hr : l.holds.length * 24 ≤ 140737488351232) :
    Calls Try.prog 4 #[v, .int .i64 id, .int .i64 other] w fun e w' => e = .returned (.bool true) ∧ Below w.heap.size w w' := by
  have HI : Hid Impl := I
  clear I
  have q1 := Try.held27
  have q2 := Try.guard27
  obtain ⟨ao, c, rfl⟩ := lgAt_form hl
  have X0 := LBoxAt.made hl
  have HLL : Hid (LgAt w (lgV l ao c) l) := hl
  clear hl
  have ba := bel_alloc w (.cells #[.slice ao l.holds.length c, .int .i64 l.m0, .int .i64 l.m1, .int .i64 l.m2, .int .i64 l.m3] 25)
  have HR : Hid (l.holds.length * 24 ≤ 140737488355328) := by show _ ≤ _; omega
  clear hr
  unfold lgV
  go_enter Try.func4, Try.ntmps4
  go_wp2_with fail
  refine (lalive_any HI.out _).mono ?_
  rintro e w1 ⟨rfl, b1⟩
  have HX1 : Hid (LBoxAt _ _ _ _ _) := X0.keep b1
  have HB1 : Hid (Below w.heap.size w w1) := ba.trans (b1.mono ba.size)
  have hs1 : w.heap.size < w1.heap.size := by have := b1.size; simp at this; omega
  clear X0 b1 ba
  have ⟨c0, c1, c2, c3, c4, lt, _⟩ := HX1.out
  by_cases ho : other = id
  · have ho' : (other == id) = true := by simp [ho]
    go_wp2
    go_ret
    exact ⟨rfl, HB1.out⟩
  · have ho' : (other == id) = false := by simp [ho]
    have HO : Hid (other ≠ id) := ho
    clear ho
    have x2 : ¬ w.heap.size = w1.heap.size := by omega
    have HX2 : Hid (LBoxAt _ _ _ _ _) := HX1.out.keep (bel_alloc w1 (.cells #[.slice ao l.holds.length c, .int .i64 l.m0, .int .i64 l.m1, .int .i64 l.m2, .int .i64 l.m3] 25))
    have HY2 : Hid (LBoxAt _ _ _ _ _) := LBoxAt.made HX1.out.lg
    go_wp2_with fail
    refine (HI.out.all l _ id _ HX2.out.lg HR.out).mono ?_
    rintro e w2 ⟨ao2, d2, rfl, g2, f2, b2⟩
    obtain ⟨mine, hmine⟩ : ∃ mine, mineL id l.holds = mine := ⟨_, rfl⟩
    rw [hmine] at g2 f2
    have HM : Hid (mineL id l.holds = mine) := hmine
    rw [hmine]
    have hb2 : Below w.heap.size w w2 := by
      have hb := HB1.out.trans ((bel_alloc w1 (.cells #[.slice ao l.holds.length c, .int .i64 l.m0, .int .i64 l.m1, .int .i64 l.m2, .int .i64 l.m3] 25)).mono HB1.out.size)
      exact hb.trans (b2.mono hb.size)
    have HA : Hid (AllAt w w2 w1.heap.size l l ao ao ao2 c c mine) :=
      ⟨HX2.out.keep b2, old_ne HLL.out (by omega), HY2.out.keep b2, old_ne HLL.out (by omega), fun j => by rw [b2.frozen (p := ⟨w1.heap.size, j, none⟩) (by simp)]; simp, g2, fun b off hne e => by have := f2 b off hne e; simp at this; omega, hb2, hs1⟩
    have hml : mine.length ≤ l.holds.length := by rw [← hmine]; exact mineL_len id l.holds
    have hsm := g2.small
    unfold maxLen at hsm
    clear hmine g2 f2 b2 hb2 HX1 HX2 HY2 HB1 c0 c1 c2 c3 c4 lt x2
    go_wp2_with fail
    go_loopw [26] (fun i wr => ∃ (k : Nat) (L : Lg) (aL : Option Addr) (cL : Nat), k ≤ mine.length ∧ i = .int .i64 k ∧ Hid (AllAt w wr w1.heap.size l L ao aL ao2 c cL mine) ∧ Hid (mineL id L.holds = mine.drop k ∧ (∀ o, o ≠ id → mineL o L.holds = mineL o l.holds) ∧ L.holds.length ≤ l.holds.length)) (fun i _ => mine.length - (intOf i).toNat)
    case atStart => exact ⟨0, l, ao, c, by omega, rfl, HA, ⟨HM.out, fun _ _ => rfl, Nat.le_refl _⟩⟩
    case round =>
      obtain ⟨k, L, aL, cL, hk, rfl, HK, HD⟩ := hrel
      by_cases hlt : k < mine.length
      · obtain ⟨b, off, rfl, hb, e0, e1, e2⟩ := HK.out.al.lies k hlt
        have hlt' : (k : Int) < (mine.length : Int) := by omega
        have hdr : mine.drop k = mine[k] :: mine.drop (k + 1) := List.drop_eq_getElem_cons hlt
        have HG : Hid (giveE L id mine[k].kind = 0 ∧ mineL id (giveR L id mine[k].kind).holds = mine.drop (k + 1) ∧ (∀ o, o ≠ id → mineL o (giveR L id mine[k].kind).holds = mineL o L.holds) ∧ (giveR L id mine[k].kind).holds.length ≤ L.holds.length) := by
          obtain ⟨r1, r2, r3, r4, _⟩ := give_last L id mine[k] (mine.drop (k + 1)) (by rw [HD.out.1, hdr])
          exact ⟨r1, r2, r3, by omega⟩
        have HL : Hid (hoV (lastH id L.holds) = .agg #[.int .i64 mine[k].id, .int .i64 mine[k].kind, .int .i64 mine[k].filter] ∧ hasB id L.holds = true) := by
          show _ ∧ _
          unfold lastH hasB
          rw [HD.out.1, hdr]
          exact ⟨rfl, rfl⟩
        clear hdr
        have HK1 : Hid (AllAt _ _ _ _ _ _ _ _ _ _ _) := HK.out.keep (bel_alloc wr (.cells #[.int .i64 mine[k].id, .int .i64 mine[k].kind, .int .i64 mine[k].filter] 31))
        have HO1 : Hid (OBoxAt _ _ _) := OBoxAt.made wr mine[k]
        have ⟨c0, c1, c2, c3, c4, lt, _⟩ := HK1.out.xx
        go_wp2_with fail
        refine (HI.out.last L _ id _ HK1.out.xx.lg).mono ?_
        rintro e w3 ⟨rfl, b3⟩
        rw [HL.out.1, HL.out.2]
        have HK3 : Hid (AllAt _ _ _ _ _ _ _ _ _ _ _) := (HK1.out.keep b3).keep (bel_alloc w3 (.cells #[.int .i64 mine[k].id, .int .i64 mine[k].kind, .int .i64 mine[k].filter] 31))
        have HO3 : Hid (OBoxAt _ _ _) := (HO1.out.keep b3).keep (bel_alloc w3 (.cells #[.int .i64 mine[k].id, .int .i64 mine[k].kind, .int .i64 mine[k].filter] 31))
        clear HK1 HO1 b3 c0 c1 c2 c3 c4 lt HL e0 e1 e2
        have ⟨c0, c1, c2, c3, c4, lt, _⟩ := HK3.out.xx
        have ⟨o0, o1, o2, ol⟩ := HO3.out
        go_wp2_with fail
        refine (HI.out.give L _ id mine[k].kind _ HK3.out.xx.lg (by have := HR.out; have := HD.out.2.2; omega)).mono ?_
        rintro e w4 ⟨v4, rfl, g4, b4⟩
        rw [HG.out.1]
        obtain ⟨N, hN⟩ : ∃ N, giveR L id mine[k].kind = N := ⟨_, rfl⟩
        have HG2 : Hid (mineL id N.holds = mine.drop (k + 1) ∧ (∀ o, o ≠ id → mineL o N.holds = mineL o L.holds) ∧ N.holds.length ≤ L.holds.length) := by
          have := HG.out.2
          rw [hN] at this
          exact this
        rw [hN] at g4
        clear hN HG
        obtain ⟨aN, cN, rfl, n1, n2, n3, n4, nf⟩ := g4
        have lt4 := (HK3.out.keep b4).xx.lt
        have ne4 : ¬ w1.heap.size = w4.heap.size := by omega
        have HK4 : Hid (AllAt _ _ _ _ _ _ _ _ _ _ _) := HK3.out.keep b4
        have HN4 : Hid (LgAt w4 (lgV N aN cN) N) := ⟨aN, cN, rfl, n1, n2, n3, n4⟩
        have HF4 : Hid (∀ b off, N.holds ≠ [] → aN = some ⟨b, off, none⟩ → b ≠ w1.heap.size) := fun b off hne e => by
          have := nf b off hne e
          have := HK3.out.xx.lt
          omega
        clear n1 n2 n3 n4 nf b4 HK3 HO3 c0 c1 c2 c3 c4 lt o0 o1 o2 ol
        have ⟨c0, c1, c2, c3, c4, lt, _⟩ := HK4.out.xx
        have cf := HK4.out.xf
        unfold lgV
        go_wp2_with fail
        go_roundw
        case rel => exact ⟨k + 1, N, aN, cN, by omega, by go_num, (HK4.out.store HN4.out HF4.out).keep (bel_alloc _ _), ⟨HG2.out.1, fun o h => (HG2.out.2.1 o h).trans (HD.out.2.1 o h), Nat.le_trans HG2.out.2.2 HD.out.2.2⟩⟩
        case measure => simp [intOf]; omega
      · have hd : mine.drop k = [] := List.drop_eq_nil_of_le (by omega)
        have HL : Hid (hoV (lastH id L.holds) = .agg #[.int .i64 0, .int .i64 0, .int .i64 0] ∧ hasB id L.holds = false) := by
          show _ ∧ _
          unfold lastH hasB
          rw [HD.out.1, hd]
          exact ⟨rfl, rfl⟩
        have HE : Hid (mineL other L.holds = mineL other l.holds) := HD.out.2.1 other HO.out
        have HR2 : Hid (L.holds.length * 24 ≤ 140737488355328) := by have := HR.out; have := HD.out.2.2; show _ ≤ _; omega
        clear hd
        have ⟨c0, c1, c2, c3, c4, lt, _⟩ := HK.out.xx
        go_wp2_with fail
        refine (HI.out.last L _ id _ HK.out.xx.lg).mono ?_
        rintro e w3 ⟨rfl, b3⟩
        rw [HL.out.1, HL.out.2]
        obtain ⟨W0, hW0⟩ : ∃ W0, w3.alloc (.cells #[.int .i64 0, .int .i64 0, .int .i64 0] 31) = W0 := ⟨_, rfl⟩
        have HK3 : Hid (AllAt w W0 w1.heap.size l L ao aL ao2 c cL mine) := by
          have h := (HK.out.keep b3).keep (bel_alloc w3 (.cells #[.int .i64 0, .int .i64 0, .int .i64 0] 31))
          rw [hW0] at h
          exact h
        have HW0 : Hid (w3.alloc (.cells #[.int .i64 0, .int .i64 0, .int .i64 0] 31) = W0) := hW0
        clear b3 c0 c1 c2 c3 c4 lt HL HK HD hW0
        have ⟨c0, c1, c2, c3, c4, lt, _⟩ := HK3.out.xx
        have ⟨y0, y1, y2, y3, y4, yl, _⟩ := HK3.out.bx
        have HS0 : Hid (W0.drew.cell? ⟨w1.heap.size, 0, none⟩ = some (.slice aL L.holds.length cL) ∧ W0.drew.cell? ⟨w1.heap.size, 1, none⟩ = some (.int .i64 L.m0) ∧ W0.drew.cell? ⟨w1.heap.size, 2, none⟩ = some (.int .i64 L.m1) ∧ W0.drew.cell? ⟨w1.heap.size, 3, none⟩ = some (.int .i64 L.m2) ∧ W0.drew.cell? ⟨w1.heap.size, 4, none⟩ = some (.int .i64 L.m3) ∧ W0.drew.cell? ⟨w.heap.size, 0, none⟩ = some (.slice ao l.holds.length c) ∧ W0.drew.cell? ⟨w.heap.size, 1, none⟩ = some (.int .i64 l.m0) ∧ W0.drew.cell? ⟨w.heap.size, 2, none⟩ = some (.int .i64 l.m1) ∧ W0.drew.cell? ⟨w.heap.size, 3, none⟩ = some (.int .i64 l.m2) ∧ W0.drew.cell? ⟨w.heap.size, 4, none⟩ = some (.int .i64 l.m3) ∧ Below W0.heap.size W0 W0.drew) :=
          ⟨c0, c1, c2, c3, c4, y0, y1, y2, y3, y4, (Below.refl _ _).drew⟩
        clear c0 c1 c2 c3 c4 y0 y1 y2 y3 y4 lt yl
        go_wp2_with fail
        rw [HW0.out]
        go_region_held3 (fun w' => w'.cell? ⟨w1.heap.size, 0, none⟩ = some (.slice aL L.holds.length cL) ∧ w'.cell? ⟨w1.heap.size, 1, none⟩ = some (.int .i64 L.m0) ∧ w'.cell? ⟨w1.heap.size, 2, none⟩ = some (.int .i64 L.m1) ∧ w'.cell? ⟨w1.heap.size, 3, none⟩ = some (.int .i64 L.m2) ∧ w'.cell? ⟨w1.heap.size, 4, none⟩ = some (.int .i64 L.m3) ∧ w'.cell? ⟨w.heap.size, 0, none⟩ = some (.slice ao l.holds.length c) ∧ w'.cell? ⟨w.heap.size, 1, none⟩ = some (.int .i64 l.m0) ∧ w'.cell? ⟨w.heap.size, 2, none⟩ = some (.int .i64 l.m1) ∧ w'.cell? ⟨w.heap.size, 3, none⟩ = some (.int .i64 l.m2) ∧ w'.cell? ⟨w.heap.size, 4, none⟩ = some (.int .i64 l.m3) ∧ Below W0.heap.size W0 w') (first | exact ten_keep HK3.out.xx.lt HK3.out.bx.lt (by assumption) (by assumption) | exact HS0)
          (first
            | (go_at_call 11; have h7x := h7; clear h7x; refine (HI.out.all l (lgV l ao c) other _ (ten_lg HK3.out.bx.lg (by assumption)) HR.out).mono ?_; rintro e w' ⟨a8, d8, rfl, h8, _, hb⟩; have h7' := HoldsAt.below h7 (Nat.le_refl _) hb)
            | (go_at_call 11; refine (HI.out.all L (lgV L aL cL) other _ (ten_lg HK3.out.xx.lg (by assumption)) HR2.out).mono ?_; rintro e w' ⟨a7, d7, rfl, h7, _, hb⟩)
            | (go_at_call 12; refine (sameHolds_bel HE.out _ _ _ _ _ h7' h8).mono ?_; rintro e w' ⟨rfl, hb⟩))
        go_wp2
        go_ret
        exact ⟨rfl, ten_bel HK3.out.bl (by assumption)⟩
end Go.Proofs.Ytaolojgofehcjab
