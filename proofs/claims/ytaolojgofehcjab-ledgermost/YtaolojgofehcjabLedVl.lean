/- The law LedgerMost. -/
import Derived.Test.YtaolojgofehcjabLedN
import Derived.Test.YtaolojgofehcjabLedQa
namespace Go.Proofs.Ytaolojgofehcjab
open Go.RowKit

set_option maxRecDepth 100000 in
set_option maxHeartbeats 4000000 in
theorem lmost_any (I : Impl) (a b c : Int) (xs : List Int) (io : Option Addr) (ic : Nat) (w : World) (hi : IntsAt w io xs) :
    Calls Try.prog 5 #[.int .i64 a, .int .i64 b, .int .i64 c, .slice io xs.length ic] w fun e w' => e = .returned (.bool true) ∧ Below w.heap.size w w' := by
  have HI : Hid Impl := I
  have HIn : Hid (IntsAt w io xs) := hi
  have hsm := hi.small
  unfold maxLen at hsm
  clear I hi
  go_enter Try.func5, Try.ntmps5
  go_wp2_with fail
  refine (lalive_any HI.out _).mono ?_
  rintro e w1 ⟨rfl, b1⟩
  have HB1 : Hid (Below w.heap.size w w1) := b1
  clear b1
  by_cases a0 : a < 0
  · have d0 : decide (a < 0) = true := decide_eq_true a0
    go_wp2
    go_ret
    exact ⟨rfl, HB1.out⟩
  have d0 : decide (a < 0) = false := decide_eq_false a0
  by_cases a1 : 10 < a
  · have d1 : decide (10 < a) = true := decide_eq_true a1
    go_wp2
    go_ret
    exact ⟨rfl, HB1.out⟩
  have d1 : decide (10 < a) = false := decide_eq_false a1
  by_cases a2 : b < 0
  · have d2 : decide (b < 0) = true := decide_eq_true a2
    go_wp2
    go_ret
    exact ⟨rfl, HB1.out⟩
  have d2 : decide (b < 0) = false := decide_eq_false a2
  by_cases a3 : 10 < b
  · have d3 : decide (10 < b) = true := decide_eq_true a3
    go_wp2
    go_ret
    exact ⟨rfl, HB1.out⟩
  have d3 : decide (10 < b) = false := decide_eq_false a3
  by_cases a4 : c < 0
  · have d4 : decide (c < 0) = true := decide_eq_true a4
    go_wp2
    go_ret
    exact ⟨rfl, HB1.out⟩
  have d4 : decide (c < 0) = false := decide_eq_false a4
  by_cases a5 : 10 < c
  · have d5 : decide (10 < c) = true := decide_eq_true a5
    go_wp2
    go_ret
    exact ⟨rfl, HB1.out⟩
  have d5 : decide (10 < c) = false := decide_eq_false a5
  have HF : Hid (∀ l : Lg, Good a b c l → (l.holds.length + 1) * 24 ≤ 140737488355328) := fun l g => g.few (by omega) (by omega) (by omega)
  have HG0 : Hid (Good a b c ⟨[], 0, a, b, c⟩) := Good.new (by omega) (by omega) (by omega)
  go_wp2_with fail
  refine (HI.out.new a b c _).mono ?_
  rintro e w2 ⟨v2, rfl, g2, b2⟩
  obtain ⟨a2', c2', rfl, n1, n2, n3, n4, nf⟩ := g2
  have HM0 : Hid (MostAt w (w2.alloc (.cells #[.slice a2' 0 c2', .int .i64 0, .int .i64 a, .int .i64 b, .int .i64 c] 25)) w2.heap.size a b c ⟨[], 0, a, b, c⟩ a2' c2') := by
    have hb := HB1.out.trans (b2.mono HB1.out.size)
    exact ⟨SBox.made (l := ⟨[], 0, a, b, c⟩) ⟨a2', c2', rfl, n1, n2, n3, n4⟩, fun k off hne => absurd rfl hne, hb.trans ((bel_alloc _ _).mono hb.size), hb.size, HG0.out⟩
  clear n1 n2 n3 n4 nf b2 HB1 d0 d1 d2 d3 d4 d5 a0 a1 a2 a3 a4 a5 HG0
  unfold lgV
  go_wp2_with fail
  go_loopw [46] (fun i wr => ∃ (k : Nat) (L : Lg) (aL : Option Addr) (cL : Nat), k ≤ xs.length ∧ i = .int .i64 k ∧ Hid (MostAt w wr w2.heap.size a b c L aL cL)) (fun i _ => xs.length - (intOf i).toNat)
  case atStart => exact ⟨0, ⟨[], 0, a, b, c⟩, a2', c2', by omega, rfl, HM0⟩
  case round =>
    obtain ⟨k, L, aL, cL, hk, rfl, HK⟩ := hrel
    by_cases hlt : k < xs.length
    · obtain ⟨b9, off, rfl, hb9, e9⟩ := (HIn.out.below HK.out.bl).lies k hlt
      have hlt' : (k : Int) < (xs.length : Int) := by omega
      obtain ⟨n, hn⟩ : ∃ n, xs[k] = n := ⟨_, rfl⟩
      rw [hn] at e9
      clear hn
      by_cases s0 : n < 0
      · have d0 : decide (n < 0) = true := decide_eq_true s0
        go_wp2
        go_roundw
        case rel => exact ⟨k + 1, L, aL, cL, by omega, by go_num, HK⟩
        case measure => simp [intOf]; omega
      by_cases s1 : 1000 < n
      · have d0 : decide (n < 0) = false := decide_eq_false s0
        have d1 : decide (1000 < n) = true := decide_eq_true s1
        go_wp2
        go_roundw
        case rel => exact ⟨k + 1, L, aL, cL, by omega, by go_num, HK⟩
        case measure => simp [intOf]; omega
      have d0 : decide (n < 0) = false := decide_eq_false s0
      have d1 : decide (1000 < n) = false := decide_eq_false s1
      have HK1 : Hid (MostAt _ _ _ _ _ _ _ _ _) := HK.out.keep (bel_alloc wr (.cells #[.slice none 0 0, .int .i64 0, .int .i64 0, .int .i64 0, .int .i64 0] 25))
      have HZ1 : Hid (SBox _ _ _ _ _) := zeroBox wr
      have HN1 : Hid (∀ k off, L.holds ≠ [] → aL = some ⟨k, off, none⟩ → k ≠ wr.heap.size) := old_ne HK.out.sb.bx.lg (Nat.le_refl _)
      have lx : w2.heap.size < wr.heap.size := HK.out.sb.bx.lt
      have nx : ¬ w2.heap.size = wr.heap.size := by omega
      have ⟨c0, c1, c2, c3, c4, lt, _⟩ := HK.out.sb.bx
      have p0 : 0 ≤ n := by omega
      have p1 : n ≤ 1000 := by omega
      by_cases s2 : n / 12 % 3 = 0
      case' pos =>
        have d2 : (n / 12 % 3 == 0) = true := by rw [s2]; rfl
        go_wp2_with fail
        refine (give_good HI.out L (lgV L aL cL) _ _ _ HK1.out.sb.bx.lg (HF.out L HK.out.gd) HK.out.gd).mono ?_
      case' neg =>
        have d2 : (n / 12 % 3 == 0) = false := by simpa using s2
        go_wp2_with fail
        refine (take_good HI.out L (lgV L aL cL) _ _ _ _ HK1.out.sb.bx.lg (HF.out L HK.out.gd) HK.out.gd).mono ?_
      all_goals
        rintro e w3 ⟨v3, E, R, rfl, g3, b3, HGR⟩
        obtain ⟨aR, cR, rfl, n1, n2, n3, n4, nf⟩ := g3
        have HRF : Hid (Fresh (wr.heap.size + 1) aR R.holds) := by simp at nf; exact nf
        have HRA : Hid (LgAt w3 (lgV R aR cR) R) := ⟨aR, cR, rfl, n1, n2, n3, n4⟩
        have HK3 : Hid (MostAt _ _ _ _ _ _ _ _ _) := HK1.out.keep b3
        have HZ3 : Hid (SBox _ _ _ _ _) := HZ1.out.keep b3
        clear n1 n2 n3 n4 nf b3 HK1 HZ1 c0 c1 c2 c3 c4 lt s0 s1 d0 d1 d2 s2 p0 p1
        have HK4 : Hid (MostAt w (set5 w3 wr.heap.size R aR cR) w2.heap.size a b c L aL cL) := HK3.out.other lx HN1.out
        have HZ4 : Hid (SBox (set5 w3 wr.heap.size R aR cR) wr.heap.size R aR cR) := HZ3.out.set HRA.out (fun k off hne e => by have := HRF.out k off hne e; omega)
        have ⟨z0, z1, z2, z3, z4, zl, _⟩ := HZ3.out.bx
        have zf := HZ3.out.fz
        have ⟨c0, c1, c2, c3, c4, lt, _⟩ := HK3.out.sb.bx
        have cf := HK3.out.sb.fz
        unfold lgV
        by_cases hE : E = 0
        · have HK5 : Hid (MostAt w (set5 (set5 w3 wr.heap.size R aR cR) w2.heap.size R aR cR) w2.heap.size a b c R aR cR) := HK4.out.store HZ4.out.bx.lg (fun k off hne e => by have := HRF.out k off hne e; omega) (HGR.out hE)
          subst hE
          go_wp2_with fail
          refine (HI.out.count R (lgV R aR cR) 1 _ HK5.out.sb.bx.lg).mono ?_
          rintro e w5 ⟨rfl, b5⟩
          have HK6 : Hid (MostAt w w5 w2.heap.size a b c R aR cR) := HK5.out.keep b5
          obtain ⟨q1, hq⟩ : ∃ q : Int, (countL 1 R.holds : Int) = q := ⟨_, rfl⟩
          rw [hq]
          have t1 : decide (a < q1) = false := decide_eq_false (by have := HK6.out.gd.k1; omega)
          clear hq b5 c0 c1 c2 c3 c4 lt HK5
          clear z0 z1 z2 z3 z4 zl zf cf HK3 HK4 HZ3 HZ4 HRA HRF HN1 HGR
          have ⟨c0, c1, c2, c3, c4, lt, _⟩ := HK6.out.sb.bx
          go_wp2_with fail
          refine (HI.out.count R (lgV R aR cR) 2 _ HK6.out.sb.bx.lg).mono ?_
          rintro e w6 ⟨rfl, b5⟩
          have HK7 : Hid (MostAt w w6 w2.heap.size a b c R aR cR) := HK6.out.keep b5
          obtain ⟨q2, hq⟩ : ∃ q : Int, (countL 2 R.holds : Int) = q := ⟨_, rfl⟩
          rw [hq]
          have t2 : decide (b < q2) = false := decide_eq_false (by have := HK7.out.gd.k2; omega)
          clear hq b5 c0 c1 c2 c3 c4 lt HK6
          have ⟨c0, c1, c2, c3, c4, lt, _⟩ := HK7.out.sb.bx
          go_wp2_with fail
          refine (HI.out.count R (lgV R aR cR) 3 _ HK7.out.sb.bx.lg).mono ?_
          rintro e w7 ⟨rfl, b5⟩
          have HK8 : Hid (MostAt w w7 w2.heap.size a b c R aR cR) := HK7.out.keep b5
          obtain ⟨q3, hq⟩ : ∃ q : Int, (countL 3 R.holds : Int) = q := ⟨_, rfl⟩
          rw [hq]
          have t3 : decide (c < q3) = false := decide_eq_false (by have := HK8.out.gd.k3; omega)
          clear hq b5 c0 c1 c2 c3 c4 lt HK7
          go_wp2
          go_roundw
          case rel => exact ⟨k + 1, R, aR, cR, by omega, by go_num, HK8⟩
          case measure => simp [intOf]; omega
        · have dE : (E == 0) = false := by simpa using hE
          have HK5 : Hid (MostAt w (set5 w3 wr.heap.size R aR cR) w2.heap.size a b c L aL cL) := HK4.out
          go_wp2_with fail
          refine (HI.out.count L (lgV L aL cL) 1 _ HK5.out.sb.bx.lg).mono ?_
          rintro e w5 ⟨rfl, b5⟩
          have HK6 : Hid (MostAt w w5 w2.heap.size a b c L aL cL) := HK5.out.keep b5
          obtain ⟨q1, hq⟩ : ∃ q : Int, (countL 1 L.holds : Int) = q := ⟨_, rfl⟩
          rw [hq]
          have t1 : decide (a < q1) = false := decide_eq_false (by have := HK6.out.gd.k1; omega)
          clear hq b5 c0 c1 c2 c3 c4 lt HK5
          clear z0 z1 z2 z3 z4 zl zf cf HK3 HK4 HZ3 HZ4 HRA HRF HN1 HGR
          have ⟨c0, c1, c2, c3, c4, lt, _⟩ := HK6.out.sb.bx
          go_wp2_with fail
          refine (HI.out.count L (lgV L aL cL) 2 _ HK6.out.sb.bx.lg).mono ?_
          rintro e w6 ⟨rfl, b5⟩
          have HK7 : Hid (MostAt w w6 w2.heap.size a b c L aL cL) := HK6.out.keep b5
          obtain ⟨q2, hq⟩ : ∃ q : Int, (countL 2 L.holds : Int) = q := ⟨_, rfl⟩
          rw [hq]
          have t2 : decide (b < q2) = false := decide_eq_false (by have := HK7.out.gd.k2; omega)
          clear hq b5 c0 c1 c2 c3 c4 lt HK6
          have ⟨c0, c1, c2, c3, c4, lt, _⟩ := HK7.out.sb.bx
          go_wp2_with fail
          refine (HI.out.count L (lgV L aL cL) 3 _ HK7.out.sb.bx.lg).mono ?_
          rintro e w7 ⟨rfl, b5⟩
          have HK8 : Hid (MostAt w w7 w2.heap.size a b c L aL cL) := HK7.out.keep b5
          obtain ⟨q3, hq⟩ : ∃ q : Int, (countL 3 L.holds : Int) = q := ⟨_, rfl⟩
          rw [hq]
          have t3 : decide (c < q3) = false := decide_eq_false (by have := HK8.out.gd.k3; omega)
          clear hq b5 c0 c1 c2 c3 c4 lt HK7
          go_wp2
          go_roundw
          case rel => exact ⟨k + 1, L, aL, cL, by omega, by go_num, HK8⟩
          case measure => simp [intOf]; omega
    · go_wp2
      go_ret
      exact ⟨rfl, HK.out.bl⟩
end Go.Proofs.Ytaolojgofehcjab
