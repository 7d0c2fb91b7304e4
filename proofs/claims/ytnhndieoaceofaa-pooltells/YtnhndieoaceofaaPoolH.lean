/- Giving a lease back: pool.Back. -/
import Derived.Test.YtnhndieoaceofaaPoolG
namespace Go.Proofs.Ytnhndieoaceofaa
open Go.RowKit

theorem deleteI_of (x : Int) (xs zs : List Int) (g cap base : Nat) (w : World) (e : zs = x :: xs) (h : w.ownsRow base 3 1 (.slice (some ⟨g, 0, none⟩) zs.length cap) zs.length (icells zs)) :
    Calls Try.prog 22 #[.slice (some ⟨g, 0, none⟩) zs.length cap, .int .i64 0, .int .i64 1] w fun e w' => e = .returned (.slice (some ⟨g, 0, none⟩) xs.length cap) ∧ IntsAt w' (some ⟨g, 0, none⟩) xs ∧ w'.heap.size = w.heap.size ∧ (∀ k j, k ≠ g → w'.cell? ⟨k, j, none⟩ = w.cell? ⟨k, j, none⟩) ∧ (∀ a, w'.frozen? a = w.frozen? a) ∧ Below g w w' := by
  subst e; exact deleteI_any x xs g cap base w h
theorem Box9.farC {W W' : World} {b : Nat} {v0 v1 v2 v3 v4 v5 v6 v7 v8 : Value} (h : Box9 W b v0 v1 v2 v3 v4 v5 v6 v7 v8) (e : ∀ j, W'.cell? ⟨b, j, none⟩ = W.cell? ⟨b, j, none⟩) (hf : ∀ j, W'.frozen? ⟨b, j, none⟩ = W.frozen? ⟨b, j, none⟩) (hz : W.heap.size ≤ W'.heap.size) : Box9 W' b v0 v1 v2 v3 v4 v5 v6 v7 v8 :=
  ⟨by rw [e]; exact h.c0, by rw [e]; exact h.c1, by rw [e]; exact h.c2, by rw [e]; exact h.c3, by rw [e]; exact h.c4, by rw [e]; exact h.c5, by rw [e]; exact h.c6, by rw [e]; exact h.c7, by rw [e]; exact h.c8, fun j => by rw [hf]; exact h.fz j, Nat.lt_of_lt_of_le h.lt hz⟩
theorem giveR_len (l : Lg) (id kind : Int) : (giveR l id kind).holds.length ≤ l.holds.length := by
  unfold giveR
  split
  · exact Nat.zero_le _
  · show (l.holds.take _ ++ l.holds.drop _).length ≤ _
    rw [List.length_append, List.length_take, List.length_drop]
    omega

set_option maxRecDepth 100000 in
set_option maxHeartbeats 800000 in
theorem back_none (W : Wd) (A : Ad) (id : Int) (L : Lg) (w : World) (ha : WdLies w W A) (hgv : ∀ w', LgAt w' (lgV W.lg A.ho A.hc) W.lg → Calls Try.prog 21 #[lgV W.lg A.ho A.hc, .int .i64 id, .int .i64 2] w' fun e w'' => ∃ v', e = .returned (.tuple #[v', .int .i64 6]) ∧ LgNew w'.heap.size w'' v' L ∧ Below w'.heap.size w' w'') :
    Calls Try.prog 10 #[wdV W A, .int .i64 id] w fun e w' => ∃ A', e = .returned (.tuple #[wdV zeroWd A', .int .i64 (-1), .int .i64 6]) ∧ WdLies w' zeroWd A' ∧ (∀ X, X < w.heap.size → Off zeroWd A' X) ∧ Below w.heap.size w w' := by
  have H0 : Hid (OwnAt _ _ _ _ _) := OwnAt.made ha
  obtain ⟨w2, hw2⟩ : ∃ w2, (w.alloc (.cells #[.slice A.ho W.lg.holds.length A.hc, .int .i64 W.lg.m0, .int .i64 W.lg.m1, .int .i64 W.lg.m2, .int .i64 W.lg.m3, .slice A.ga W.gates.length A.gc, .slice A.fa W.failed.length A.fc, .slice A.qa W.queue.length A.qc, .slice A.ma W.marks.length A.mc] 29)).alloc (.cells #[.slice none 0 0, .int .i64 0, .int .i64 0, .int .i64 0, .int .i64 0, .slice none 0 0, .slice none 0 0, .slice none 0 0, .slice none 0 0] 29) = w2 := ⟨_, rfl⟩
  rw [hw2] at H0
  have HW : Hid (_ = w2) := hw2
  have HGV : Hid (∀ w', _) := hgv
  have HAO : Hid (∀ X, w.heap.size ≤ X → Off W A X) := fun X hX => ha.off hX
  clear hw2 hgv ha
  unfold wdV
  obtain ⟨a0, a1, a2, a3, a4, a5, a6, a7, a8, _, a9⟩ := H0.out.bx
  go_enter Try.func10, Try.ntmps10
  go_wp2_with fail
  rw [HW.out]
  refine (HGV.out w2 H0.out.ld.lg).mono ?_
  rintro e w3 ⟨v', rfl, n3, b3⟩
  obtain ⟨al, cl, rfl, m1, m2, m3, m4, mf⟩ := n3
  obtain ⟨w4, hw4⟩ : ∃ w4, w3.alloc (.cells #[.slice al L.holds.length cl, .int .i64 L.m0, .int .i64 L.m1, .int .i64 L.m2, .int .i64 L.m3] 25) = w4 := ⟨_, rfl⟩
  have b4 : Below w3.heap.size w3 w4 := by rw [← hw4]; exact bel_alloc _ _
  have H1 : Hid (BackAt w w4 w.heap.size w3.heap.size W A L al cl) := by
    have h := (H0.out.keep b3).keep b4
    have s2 := H0.out.zx.lt
    have s3 := b3.size
    refine ⟨h.bx, h.zx, ?_, h.ld, m1.below (Nat.le_refl _) b4, ⟨m2, m3, m4⟩, h.bl, by omega, fun X hX => HAO.out X (by omega), fun X hX k off hne e => ?_⟩
    · rw [← hw4]; exact Box5.made rfl _ _ _ _ _ _
    · have q1 := mf k off hne e
      have q2 := holds_ne m1 (Nat.le_refl _) k off hne e
      omega
  have HB4 : Hid (w3.alloc (.cells #[.slice al L.holds.length cl, .int .i64 L.m0, .int .i64 L.m1, .int .i64 L.m2, .int .i64 L.m3] 25) = w4) := hw4
  have HFR : Hid (Fresh w2.heap.size al L.holds) := mf
  have HS2 : Hid (w.heap.size + 1 < w2.heap.size) := H0.out.zx.lt
  clear a0 a1 a2 a3 a4 a5 a6 a7 a8 a9
  clear m1 m2 m3 m4 mf b3 b4 hw4
  obtain ⟨z0, z1, z2, z3, z4, z5, z6, z7, z8, zf, z9⟩ := H1.out.zx
  unfold lgV
  go_wp2_with (with_reducible refine Hid.out (p := wpList _ _ _ ({ dst := _, op := Op.store 29 _ _, type := _, pos := _, after := _, guard := _ } :: _) _ _) ?_)
  rw [HB4.out]
  show wpList _ _ _ _ _ w4
  go_wp2
  exact bodyPost_ret (v := .tuple #[.agg #[.slice none 0 0, .int .i64 0, .int .i64 0, .int .i64 0, .int .i64 0, .slice none 0 0, .slice none 0 0, .slice none 0 0, .slice none 0 0], .int .i64 (-1), .int .i64 6]) (by simp [results, Try.results10, go_sem, z0, z1, z2, z3, z4, z5, z6, z7, z8]) rfl ⟨zeroAd, rfl, zeroLies _, fun X _ => zeroOff X, set9_below H1.out.bl (by omega)⟩

set_option maxRecDepth 100000 in
set_option maxHeartbeats 800000 in
theorem back_empty (W : Wd) (A : Ad) (id : Int) (L : Lg) (w : World) (ha : WdLies w W A) (hf : Fits W) (hgv : ∀ w', LgAt w' (lgV W.lg A.ho A.hc) W.lg → Calls Try.prog 21 #[lgV W.lg A.ho A.hc, .int .i64 id, .int .i64 2] w' fun e w'' => ∃ v', e = .returned (.tuple #[v', .int .i64 0]) ∧ LgNew w'.heap.size w'' v' L ∧ Below w'.heap.size w' w'') (h0 : W.queue.length = 0) :
    Calls Try.prog 10 #[wdV W A, .int .i64 id] w fun e w' => ∃ A', e = .returned (.tuple #[wdV { W with lg := L } A', .int .i64 (-1), .int .i64 0]) ∧ WdLies w' { W with lg := L } A' ∧ (∀ X, X < w.heap.size → Off { W with lg := L } A' X) ∧ Below w.heap.size w w' := by
  have H0 : Hid (OwnAt _ _ _ _ _) := OwnAt.made ha
  obtain ⟨w2, hw2⟩ : ∃ w2, (w.alloc (.cells #[.slice A.ho W.lg.holds.length A.hc, .int .i64 W.lg.m0, .int .i64 W.lg.m1, .int .i64 W.lg.m2, .int .i64 W.lg.m3, .slice A.ga W.gates.length A.gc, .slice A.fa W.failed.length A.fc, .slice A.qa W.queue.length A.qc, .slice A.ma W.marks.length A.mc] 29)).alloc (.cells #[.slice none 0 0, .int .i64 0, .int .i64 0, .int .i64 0, .int .i64 0, .slice none 0 0, .slice none 0 0, .slice none 0 0, .slice none 0 0] 29) = w2 := ⟨_, rfl⟩
  rw [hw2] at H0
  have HW : Hid (_ = w2) := hw2
  have HGV : Hid (∀ w', _) := hgv
  have HAO : Hid (∀ X, w.heap.size ≤ X → Off W A X) := fun X hX => ha.off hX
  clear hw2 hgv ha
  unfold wdV
  obtain ⟨a0, a1, a2, a3, a4, a5, a6, a7, a8, _, a9⟩ := H0.out.bx
  have q0 : ((W.queue.length : Int) == 0) = true := by simp [h0]
  have HF : Hid (Fits W) := hf
  clear h0 hf
  go_enter Try.func10, Try.ntmps10
  go_wp2_with fail
  rw [HW.out]
  refine (HGV.out w2 H0.out.ld.lg).mono ?_
  rintro e w3 ⟨v', rfl, n3, b3⟩
  obtain ⟨al, cl, rfl, m1, m2, m3, m4, mf⟩ := n3
  obtain ⟨w4, hw4⟩ : ∃ w4, w3.alloc (.cells #[.slice al L.holds.length cl, .int .i64 L.m0, .int .i64 L.m1, .int .i64 L.m2, .int .i64 L.m3] 25) = w4 := ⟨_, rfl⟩
  have b4 : Below w3.heap.size w3 w4 := by rw [← hw4]; exact bel_alloc _ _
  have H1 : Hid (BackAt w w4 w.heap.size w3.heap.size W A L al cl) := by
    have h := (H0.out.keep b3).keep b4
    have s2 := H0.out.zx.lt
    have s3 := b3.size
    refine ⟨h.bx, h.zx, ?_, h.ld, m1.below (Nat.le_refl _) b4, ⟨m2, m3, m4⟩, h.bl, by omega, fun X hX => HAO.out X (by omega), fun X hX k off hne e => ?_⟩
    · rw [← hw4]; exact Box5.made rfl _ _ _ _ _ _
    · have q1 := mf k off hne e
      have q2 := holds_ne m1 (Nat.le_refl _) k off hne e
      omega
  have HB4 : Hid (w3.alloc (.cells #[.slice al L.holds.length cl, .int .i64 L.m0, .int .i64 L.m1, .int .i64 L.m2, .int .i64 L.m3] 25) = w4) := hw4
  have HFR : Hid (Fresh w2.heap.size al L.holds) := mf
  have HS2 : Hid (w.heap.size + 1 < w2.heap.size) := H0.out.zx.lt
  clear a0 a1 a2 a3 a4 a5 a6 a7 a8 a9
  clear m1 m2 m3 m4 mf b3 b4 hw4
  unfold lgV
  go_wp2_with (with_reducible refine Hid.out (p := wpList _ _ _ ({ dst := _, op := Op.load 29 _, type := _, pos := _, after := _, guard := _ } :: _) _ _) ?_)
  rw [HB4.out]
  show wpList _ _ _ _ _ w4
  obtain ⟨a0, a1, a2, a3, a4, a5, a6, a7, a8, _, a9⟩ := H1.out.bx
  go_wp2_with fail
  refine (pown_any W A w4 H1.out.ld HF.out).mono ?_
  rintro e w5 ⟨A2, rfl, l5, o5, own5, al5, b5⟩
  have H2 : Hid (BackAt _ _ _ _ _ _ _ _ _) := H1.out.own b5 l5 o5
  have HO5 : Hid (∀ X, X < w4.heap.size → Off W A2 X) := o5
  have HAL : Hid (Alone W A2) := al5
  have HQ5 : Hid (w5.ownsRow w4.heap.size 3 1 (.slice A2.qa W.queue.length A2.qc) W.queue.length (icells W.queue)) := own5
  have K5 := H1.out.keep b5
  have HS45 : Hid (w4.heap.size ≤ w5.heap.size) := b5.size
  have HS4 : Hid (w3.heap.size < w4.heap.size) := H1.out.lx.lt
  have HSB : Hid (w.heap.size + 1 < w3.heap.size) := H1.out.lt
  clear a0 a1 a2 a3 a4 a5 a6 a7 a8 a9
  clear l5 o5 own5 al5 b5
  obtain ⟨a0, a1, a2, a3, a4, a5, a6, a7, a8, af, a9⟩ := K5.bx
  clear K5
  unfold wdV
  go_wp2_with (with_reducible refine Hid.out (p := wpList _ _ _ ({ dst := _, op := Op.load 25 _, type := _, pos := _, after := _, guard := _ } :: _) _ _) ?_)
  obtain ⟨w6, hw6⟩ : ∃ w6, set9 w5 w.heap.size (.slice A2.ho W.lg.holds.length A2.hc) (.int .i64 W.lg.m0) (.int .i64 W.lg.m1) (.int .i64 W.lg.m2) (.int .i64 W.lg.m3) (.slice A2.ga W.gates.length A2.gc) (.slice A2.fa W.failed.length A2.fc) (.slice A2.qa W.queue.length A2.qc) (.slice A2.ma W.marks.length A2.mc) = w6 := ⟨_, rfl⟩
  show wpList _ _ _ _ _ (set9 w5 w.heap.size (.slice A2.ho W.lg.holds.length A2.hc) (.int .i64 W.lg.m0) (.int .i64 W.lg.m1) (.int .i64 W.lg.m2) (.int .i64 W.lg.m3) (.slice A2.ga W.gates.length A2.gc) (.slice A2.fa W.failed.length A2.fc) (.slice A2.qa W.queue.length A2.qc) (.slice A2.ma W.marks.length A2.mc))
  rw [hw6]
  rw [hw6] at H2
  have HS56 : Hid (w5.heap.size ≤ w6.heap.size) := by rw [← hw6, set9_size]; exact Nat.le_refl _
  have HQ6 : Hid (w6.ownsRow w4.heap.size 3 1 (.slice A2.qa W.queue.length A2.qc) W.queue.length (icells W.queue)) := by rw [← hw6]; exact owns_set9 HQ5.out (by have := HS4.out; have := HSB.out; omega) _ _ _ _ _ _ _ _ _
  clear a0 a1 a2 a3 a4 a5 a6 a7 a8 a9
  clear hw6 af
  obtain ⟨a0, a1, a2, a3, a4, a5, a6, a7, a8, af, a9⟩ := H2.out.bx
  obtain ⟨l0, l1, l2, l3, l4, lf, l9⟩ := H2.out.lx
  go_wp2_with (with_reducible refine Hid.out (p := wpList _ _ _ ({ dst := _, op := Op.load 26 _, type := _, pos := _, after := _, guard := _ } :: _) _ _) ?_)
  obtain ⟨w7, hw7⟩ : ∃ w7, set5 w6 w.heap.size L al cl = w7 := ⟨_, rfl⟩
  show wpList _ _ _ _ _ (set5 w6 w.heap.size L al cl)
  rw [hw7]
  have H3 : Hid (BackAt w w7 w.heap.size w3.heap.size { W with lg := L } { A2 with ho := al, hc := cl } L al cl) := by rw [← hw7]; exact H2.out.put
  have HS57 : Hid (w5.heap.size ≤ w7.heap.size) := by rw [← hw7, set5_size]; exact HS56.out
  have HS47 : Hid (w4.heap.size ≤ w7.heap.size) := Nat.le_trans HS45.out HS57.out
  have HQ7 : Hid (w7.ownsRow w4.heap.size 3 1 (.slice A2.qa W.queue.length A2.qc) W.queue.length (icells W.queue)) := by rw [← hw7]; exact owns_set5 HQ6.out (by have := HS4.out; have := HSB.out; omega) _ _ _
  clear a0 a1 a2 a3 a4 a5 a6 a7 a8 a9
  clear l0 l1 l2 l3 l4 lf l9
  clear hw7 af
  have X3 := H3.out.bx
  unfold WBox at X3
  dsimp only at X3
  obtain ⟨a0, a1, a2, a3, a4, a5, a6, a7, a8, af, a9⟩ := X3
  obtain ⟨z0, z1, z2, z3, z4, z5, z6, z7, z8, zf, z9⟩ := H3.out.zx
  go_wp2
  exact bodyPost_ret (v := .tuple #[.agg #[.slice al L.holds.length cl, .int .i64 L.m0, .int .i64 L.m1, .int .i64 L.m2, .int .i64 L.m3, .slice A2.ga W.gates.length A2.gc, .slice A2.fa W.failed.length A2.fc, .slice A2.qa W.queue.length A2.qc, .slice A2.ma W.marks.length A2.mc], .int .i64 (-1), .int .i64 0]) (by simp [results, Try.results10, go_sem, z0, z1, z2, z3, z4, z5, z6, z7, z8]) rfl ⟨{ A2 with ho := al, hc := cl }, rfl, Wd.far9 H3.out.ld (H3.out.o _ (.inr (.inl rfl))), fun X hX => { HO5.out X (by have := HS4.out; have := HSB.out; omega) with h := fun k off hne e => by have := HFR.out k off hne e; have := HS2.out; omega }, set9_below H3.out.bl (by omega)⟩

set_option maxRecDepth 100000 in
set_option maxHeartbeats 800000 in
theorem back_full (W : Wd) (A : Ad) (id : Int) (L : Lg) (w : World) (ha : WdLies w W A) (M : Lg) (q : Int) (t : List Int) (hf : Fits W) (hgv : ∀ w', LgAt w' (lgV W.lg A.ho A.hc) W.lg → Calls Try.prog 21 #[lgV W.lg A.ho A.hc, .int .i64 id, .int .i64 2] w' fun e w'' => ∃ v', e = .returned (.tuple #[v', .int .i64 0]) ∧ LgNew w'.heap.size w'' v' L ∧ Below w'.heap.size w' w'') (htk : ∀ ao c w', LgAt w' (lgV L ao c) L → Calls Try.prog 19 #[lgV L ao c, .int .i64 q] w' fun e w'' => ∃ v', e = .returned (.tuple #[v', .int .i64 8]) ∧ LgNew w'.heap.size w'' v' M ∧ Below w'.heap.size w' w'') (hq : W.queue = q :: t) :
    Calls Try.prog 10 #[wdV W A, .int .i64 id] w fun e w' => ∃ A', e = .returned (.tuple #[wdV { W with lg := L } A', .int .i64 (-1), .int .i64 0]) ∧ WdLies w' { W with lg := L } A' ∧ (∀ X, X < w.heap.size → Off { W with lg := L } A' X) ∧ Below w.heap.size w w' := by
  have H0 : Hid (OwnAt _ _ _ _ _) := OwnAt.made ha
  obtain ⟨w2, hw2⟩ : ∃ w2, (w.alloc (.cells #[.slice A.ho W.lg.holds.length A.hc, .int .i64 W.lg.m0, .int .i64 W.lg.m1, .int .i64 W.lg.m2, .int .i64 W.lg.m3, .slice A.ga W.gates.length A.gc, .slice A.fa W.failed.length A.fc, .slice A.qa W.queue.length A.qc, .slice A.ma W.marks.length A.mc] 29)).alloc (.cells #[.slice none 0 0, .int .i64 0, .int .i64 0, .int .i64 0, .int .i64 0, .slice none 0 0, .slice none 0 0, .slice none 0 0, .slice none 0 0] 29) = w2 := ⟨_, rfl⟩
  rw [hw2] at H0
  have HW : Hid (_ = w2) := hw2
  have HGV : Hid (∀ w', _) := hgv
  have HAO : Hid (∀ X, w.heap.size ≤ X → Off W A X) := fun X hX => ha.off hX
  clear hw2 hgv ha
  unfold wdV
  obtain ⟨a0, a1, a2, a3, a4, a5, a6, a7, a8, _, a9⟩ := H0.out.bx
  have q0 : ((W.queue.length : Int) == 0) = false := by rw [hq]; simp; omega
  have qp : (0 : Int) < (W.queue.length : Int) := by rw [hq]; simp
  have HF : Hid (Fits W) := hf
  have HQ : Hid (W.queue = q :: t) := hq
  have HTK : Hid (∀ (ao : Option Addr), _) := htk
  clear hf hq htk
  go_enter Try.func10, Try.ntmps10
  go_wp2_with fail
  rw [HW.out]
  refine (HGV.out w2 H0.out.ld.lg).mono ?_
  rintro e w3 ⟨v', rfl, n3, b3⟩
  obtain ⟨al, cl, rfl, m1, m2, m3, m4, mf⟩ := n3
  obtain ⟨w4, hw4⟩ : ∃ w4, w3.alloc (.cells #[.slice al L.holds.length cl, .int .i64 L.m0, .int .i64 L.m1, .int .i64 L.m2, .int .i64 L.m3] 25) = w4 := ⟨_, rfl⟩
  have b4 : Below w3.heap.size w3 w4 := by rw [← hw4]; exact bel_alloc _ _
  have H1 : Hid (BackAt w w4 w.heap.size w3.heap.size W A L al cl) := by
    have h := (H0.out.keep b3).keep b4
    have s2 := H0.out.zx.lt
    have s3 := b3.size
    refine ⟨h.bx, h.zx, ?_, h.ld, m1.below (Nat.le_refl _) b4, ⟨m2, m3, m4⟩, h.bl, by omega, fun X hX => HAO.out X (by omega), fun X hX k off hne e => ?_⟩
    · rw [← hw4]; exact Box5.made rfl _ _ _ _ _ _
    · have q1 := mf k off hne e
      have q2 := holds_ne m1 (Nat.le_refl _) k off hne e
      omega
  have HB4 : Hid (w3.alloc (.cells #[.slice al L.holds.length cl, .int .i64 L.m0, .int .i64 L.m1, .int .i64 L.m2, .int .i64 L.m3] 25) = w4) := hw4
  have HFR : Hid (Fresh w2.heap.size al L.holds) := mf
  have HS2 : Hid (w.heap.size + 1 < w2.heap.size) := H0.out.zx.lt
  clear a0 a1 a2 a3 a4 a5 a6 a7 a8 a9
  clear m1 m2 m3 m4 mf b3 b4 hw4
  unfold lgV
  go_wp2_with (with_reducible refine Hid.out (p := wpList _ _ _ ({ dst := _, op := Op.load 29 _, type := _, pos := _, after := _, guard := _ } :: _) _ _) ?_)
  rw [HB4.out]
  show wpList _ _ _ _ _ w4
  obtain ⟨a0, a1, a2, a3, a4, a5, a6, a7, a8, _, a9⟩ := H1.out.bx
  go_wp2_with fail
  refine (pown_any W A w4 H1.out.ld HF.out).mono ?_
  rintro e w5 ⟨A2, rfl, l5, o5, own5, al5, b5⟩
  have H2 : Hid (BackAt _ _ _ _ _ _ _ _ _) := H1.out.own b5 l5 o5
  have HO5 : Hid (∀ X, X < w4.heap.size → Off W A2 X) := o5
  have HAL : Hid (Alone W A2) := al5
  have HQ5 : Hid (w5.ownsRow w4.heap.size 3 1 (.slice A2.qa W.queue.length A2.qc) W.queue.length (icells W.queue)) := own5
  have K5 := H1.out.keep b5
  have HS45 : Hid (w4.heap.size ≤ w5.heap.size) := b5.size
  have HS4 : Hid (w3.heap.size < w4.heap.size) := H1.out.lx.lt
  have HSB : Hid (w.heap.size + 1 < w3.heap.size) := H1.out.lt
  clear a0 a1 a2 a3 a4 a5 a6 a7 a8 a9
  clear l5 o5 own5 al5 b5
  obtain ⟨a0, a1, a2, a3, a4, a5, a6, a7, a8, af, a9⟩ := K5.bx
  clear K5
  unfold wdV
  go_wp2_with (with_reducible refine Hid.out (p := wpList _ _ _ ({ dst := _, op := Op.load 25 _, type := _, pos := _, after := _, guard := _ } :: _) _ _) ?_)
  obtain ⟨w6, hw6⟩ : ∃ w6, set9 w5 w.heap.size (.slice A2.ho W.lg.holds.length A2.hc) (.int .i64 W.lg.m0) (.int .i64 W.lg.m1) (.int .i64 W.lg.m2) (.int .i64 W.lg.m3) (.slice A2.ga W.gates.length A2.gc) (.slice A2.fa W.failed.length A2.fc) (.slice A2.qa W.queue.length A2.qc) (.slice A2.ma W.marks.length A2.mc) = w6 := ⟨_, rfl⟩
  show wpList _ _ _ _ _ (set9 w5 w.heap.size (.slice A2.ho W.lg.holds.length A2.hc) (.int .i64 W.lg.m0) (.int .i64 W.lg.m1) (.int .i64 W.lg.m2) (.int .i64 W.lg.m3) (.slice A2.ga W.gates.length A2.gc) (.slice A2.fa W.failed.length A2.fc) (.slice A2.qa W.queue.length A2.qc) (.slice A2.ma W.marks.length A2.mc))
  rw [hw6]
  rw [hw6] at H2
  have HS56 : Hid (w5.heap.size ≤ w6.heap.size) := by rw [← hw6, set9_size]; exact Nat.le_refl _
  have HQ6 : Hid (w6.ownsRow w4.heap.size 3 1 (.slice A2.qa W.queue.length A2.qc) W.queue.length (icells W.queue)) := by rw [← hw6]; exact owns_set9 HQ5.out (by have := HS4.out; have := HSB.out; omega) _ _ _ _ _ _ _ _ _
  clear a0 a1 a2 a3 a4 a5 a6 a7 a8 a9
  clear hw6 af
  obtain ⟨a0, a1, a2, a3, a4, a5, a6, a7, a8, af, a9⟩ := H2.out.bx
  obtain ⟨l0, l1, l2, l3, l4, lf, l9⟩ := H2.out.lx
  go_wp2_with (with_reducible refine Hid.out (p := wpList _ _ _ ({ dst := _, op := Op.load 26 _, type := _, pos := _, after := _, guard := _ } :: _) _ _) ?_)
  obtain ⟨w7, hw7⟩ : ∃ w7, set5 w6 w.heap.size L al cl = w7 := ⟨_, rfl⟩
  show wpList _ _ _ _ _ (set5 w6 w.heap.size L al cl)
  rw [hw7]
  have H3 : Hid (BackAt w w7 w.heap.size w3.heap.size { W with lg := L } { A2 with ho := al, hc := cl } L al cl) := by rw [← hw7]; exact H2.out.put
  have HS57 : Hid (w5.heap.size ≤ w7.heap.size) := by rw [← hw7, set5_size]; exact HS56.out
  have HS47 : Hid (w4.heap.size ≤ w7.heap.size) := Nat.le_trans HS45.out HS57.out
  have HQ7 : Hid (w7.ownsRow w4.heap.size 3 1 (.slice A2.qa W.queue.length A2.qc) W.queue.length (icells W.queue)) := by rw [← hw7]; exact owns_set5 HQ6.out (by have := HS4.out; have := HSB.out; omega) _ _ _
  clear a0 a1 a2 a3 a4 a5 a6 a7 a8 a9
  clear l0 l1 l2 l3 l4 lf l9
  clear hw7 af
  have X3 := H3.out.bx
  unfold WBox at X3
  dsimp only at X3
  obtain ⟨a0, a1, a2, a3, a4, a5, a6, a7, a8, af, a9⟩ := X3
  obtain ⟨g, hg⟩ : ∃ g, A2.qa = some ⟨g, 0, none⟩ := by
    rcases HQ7.out.2 with ⟨_, h0⟩ | ⟨g, cap, cur, hv, _⟩
    · rw [HQ.out] at h0; simp at h0
    · simp at hv; exact ⟨g, hv.1⟩
  have HG : Hid (A2.qa = some ⟨g, 0, none⟩) := hg
  have HGL : Hid (w4.heap.size ≤ g ∧ g < w5.heap.size) := HQ5.out.lt g (by rw [hg]; rfl)
  have gc : w7.cell? ⟨g, 0, none⟩ = some (.int .i64 q) := by
    have h := HQ7.out.cells (g := g) (by rw [hg]; rfl) 0 (.int .i64 q) (by rw [HQ.out]; rfl)
    rw [add_none] at h
    exact h
  have gl : g < w7.heap.size := (HQ7.out.lt g (by rw [hg]; rfl)).2
  rw [hg] at a7
  clear hg
  go_wp2_with fail
  refine (HTK.out al cl w7 ⟨al, cl, rfl, H3.out.hl, H3.out.hk⟩).mono ?_
  rintro e w8 ⟨v', rfl, n8, b8⟩
  obtain ⟨am, cm, rfl, m1, m2, m3, m4, mf⟩ := n8
  have K8 := H3.out.keep b8
  have HS7 : Hid (w3.heap.size < w7.heap.size) := H3.out.lx.lt
  have HFM : Hid (Fresh w7.heap.size am M.holds) := mf
  have H4 : Hid (BackAt w (set5 w8 w3.heap.size M am cm) w.heap.size w3.heap.size { W with lg := L } { A2 with ho := al, hc := cl } M am cm) := K8.setl m1 ⟨m2, m3, m4⟩ (fun X hX k off hne e => by have := mf k off hne e; have := HS7.out; have := HSB.out; omega)
  have HQ8 : Hid (w8.ownsRow w4.heap.size 3 1 (.slice A2.qa W.queue.length A2.qc) W.queue.length (icells W.queue)) := owns_below HQ7.out b8
  clear a0 a1 a2 a3 a4 a5 a6 a7 a8 a9
  clear af gc gl m1 m2 m3 m4 mf b8
  obtain ⟨l0, l1, l2, l3, l4, lf, l9⟩ := K8.lx
  clear K8
  unfold lgV
  go_wp2_with (with_reducible refine Hid.out (p := wpList _ _ _ ({ dst := _, op := Op.load 29 _, type := _, pos := _, after := _, guard := _ } :: _) _ _) ?_)
  obtain ⟨w9, hw9⟩ : ∃ w9, set5 w8 w3.heap.size M am cm = w9 := ⟨_, rfl⟩
  show wpList _ _ _ _ _ (set5 w8 w3.heap.size M am cm)
  rw [hw9]
  rw [hw9] at H4
  clear l0 l1 l2 l3 l4 lf l9
  clear hw9
  have X4 := H4.out.bx
  unfold WBox at X4
  dsimp only at X4
  obtain ⟨a0, a1, a2, a3, a4, a5, a6, a7, a8, af, a9⟩ := X4
  obtain ⟨z0, z1, z2, z3, z4, z5, z6, z7, z8, zf, z9⟩ := H4.out.zx
  go_wp2
  exact bodyPost_ret (v := .tuple #[.agg #[.slice al L.holds.length cl, .int .i64 L.m0, .int .i64 L.m1, .int .i64 L.m2, .int .i64 L.m3, .slice A2.ga W.gates.length A2.gc, .slice A2.fa W.failed.length A2.fc, .slice A2.qa W.queue.length A2.qc, .slice A2.ma W.marks.length A2.mc], .int .i64 (-1), .int .i64 0]) (by simp [results, Try.results10, go_sem, z0, z1, z2, z3, z4, z5, z6, z7, z8]) rfl ⟨{ A2 with ho := al, hc := cl }, rfl, Wd.far9 H4.out.ld (H4.out.o _ (.inr (.inl rfl))), fun X hX => { HO5.out X (by have := HS4.out; have := HSB.out; omega) with h := fun k off hne e => by have := HFR.out k off hne e; have := HS2.out; omega }, set9_below H4.out.bl (by omega)⟩

set_option maxRecDepth 100000 in
set_option maxHeartbeats 800000 in
theorem back_next (W : Wd) (A : Ad) (id : Int) (L : Lg) (w : World) (ha : WdLies w W A) (M : Lg) (q : Int) (t : List Int) (hf : Fits W) (hgv : ∀ w', LgAt w' (lgV W.lg A.ho A.hc) W.lg → Calls Try.prog 21 #[lgV W.lg A.ho A.hc, .int .i64 id, .int .i64 2] w' fun e w'' => ∃ v', e = .returned (.tuple #[v', .int .i64 0]) ∧ LgNew w'.heap.size w'' v' L ∧ Below w'.heap.size w' w'') (htk : ∀ ao c w', LgAt w' (lgV L ao c) L → Calls Try.prog 19 #[lgV L ao c, .int .i64 q] w' fun e w'' => ∃ v', e = .returned (.tuple #[v', .int .i64 0]) ∧ LgNew w'.heap.size w'' v' M ∧ Below w'.heap.size w' w'') (hq : W.queue = q :: t) :
    Calls Try.prog 10 #[wdV W A, .int .i64 id] w fun e w' => ∃ A', e = .returned (.tuple #[wdV { W with lg := M, queue := t } A', .int .i64 q, .int .i64 0]) ∧ WdLies w' { W with lg := M, queue := t } A' ∧ (∀ X, X < w.heap.size → Off { W with lg := M, queue := t } A' X) ∧ Below w.heap.size w w' := by
  have H0 : Hid (OwnAt _ _ _ _ _) := OwnAt.made ha
  obtain ⟨w2, hw2⟩ : ∃ w2, (w.alloc (.cells #[.slice A.ho W.lg.holds.length A.hc, .int .i64 W.lg.m0, .int .i64 W.lg.m1, .int .i64 W.lg.m2, .int .i64 W.lg.m3, .slice A.ga W.gates.length A.gc, .slice A.fa W.failed.length A.fc, .slice A.qa W.queue.length A.qc, .slice A.ma W.marks.length A.mc] 29)).alloc (.cells #[.slice none 0 0, .int .i64 0, .int .i64 0, .int .i64 0, .int .i64 0, .slice none 0 0, .slice none 0 0, .slice none 0 0, .slice none 0 0] 29) = w2 := ⟨_, rfl⟩
  rw [hw2] at H0
  have HW : Hid (_ = w2) := hw2
  have HGV : Hid (∀ w', _) := hgv
  have HAO : Hid (∀ X, w.heap.size ≤ X → Off W A X) := fun X hX => ha.off hX
  clear hw2 hgv ha
  unfold wdV
  obtain ⟨a0, a1, a2, a3, a4, a5, a6, a7, a8, _, a9⟩ := H0.out.bx
  have q0 : ((W.queue.length : Int) == 0) = false := by rw [hq]; simp; omega
  have qp : (0 : Int) < (W.queue.length : Int) := by rw [hq]; simp
  have HF : Hid (Fits W) := hf
  have HQ : Hid (W.queue = q :: t) := hq
  have HTK : Hid (∀ (ao : Option Addr), _) := htk
  clear hf hq htk
  go_enter Try.func10, Try.ntmps10
  go_wp2_with fail
  rw [HW.out]
  refine (HGV.out w2 H0.out.ld.lg).mono ?_
  rintro e w3 ⟨v', rfl, n3, b3⟩
  obtain ⟨al, cl, rfl, m1, m2, m3, m4, mf⟩ := n3
  obtain ⟨w4, hw4⟩ : ∃ w4, w3.alloc (.cells #[.slice al L.holds.length cl, .int .i64 L.m0, .int .i64 L.m1, .int .i64 L.m2, .int .i64 L.m3] 25) = w4 := ⟨_, rfl⟩
  have b4 : Below w3.heap.size w3 w4 := by rw [← hw4]; exact bel_alloc _ _
  have H1 : Hid (BackAt w w4 w.heap.size w3.heap.size W A L al cl) := by
    have h := (H0.out.keep b3).keep b4
    have s2 := H0.out.zx.lt
    have s3 := b3.size
    refine ⟨h.bx, h.zx, ?_, h.ld, m1.below (Nat.le_refl _) b4, ⟨m2, m3, m4⟩, h.bl, by omega, fun X hX => HAO.out X (by omega), fun X hX k off hne e => ?_⟩
    · rw [← hw4]; exact Box5.made rfl _ _ _ _ _ _
    · have q1 := mf k off hne e
      have q2 := holds_ne m1 (Nat.le_refl _) k off hne e
      omega
  have HB4 : Hid (w3.alloc (.cells #[.slice al L.holds.length cl, .int .i64 L.m0, .int .i64 L.m1, .int .i64 L.m2, .int .i64 L.m3] 25) = w4) := hw4
  have HFR : Hid (Fresh w2.heap.size al L.holds) := mf
  have HS2 : Hid (w.heap.size + 1 < w2.heap.size) := H0.out.zx.lt
  clear a0 a1 a2 a3 a4 a5 a6 a7 a8 a9
  clear m1 m2 m3 m4 mf b3 b4 hw4
  unfold lgV
  go_wp2_with (with_reducible refine Hid.out (p := wpList _ _ _ ({ dst := _, op := Op.load 29 _, type := _, pos := _, after := _, guard := _ } :: _) _ _) ?_)
  rw [HB4.out]
  show wpList _ _ _ _ _ w4
  obtain ⟨a0, a1, a2, a3, a4, a5, a6, a7, a8, _, a9⟩ := H1.out.bx
  go_wp2_with fail
  refine (pown_any W A w4 H1.out.ld HF.out).mono ?_
  rintro e w5 ⟨A2, rfl, l5, o5, own5, al5, b5⟩
  have H2 : Hid (BackAt _ _ _ _ _ _ _ _ _) := H1.out.own b5 l5 o5
  have HO5 : Hid (∀ X, X < w4.heap.size → Off W A2 X) := o5
  have HAL : Hid (Alone W A2) := al5
  have HQ5 : Hid (w5.ownsRow w4.heap.size 3 1 (.slice A2.qa W.queue.length A2.qc) W.queue.length (icells W.queue)) := own5
  have K5 := H1.out.keep b5
  have HS45 : Hid (w4.heap.size ≤ w5.heap.size) := b5.size
  have HS4 : Hid (w3.heap.size < w4.heap.size) := H1.out.lx.lt
  have HSB : Hid (w.heap.size + 1 < w3.heap.size) := H1.out.lt
  clear a0 a1 a2 a3 a4 a5 a6 a7 a8 a9
  clear l5 o5 own5 al5 b5
  obtain ⟨a0, a1, a2, a3, a4, a5, a6, a7, a8, af, a9⟩ := K5.bx
  clear K5
  unfold wdV
  go_wp2_with (with_reducible refine Hid.out (p := wpList _ _ _ ({ dst := _, op := Op.load 25 _, type := _, pos := _, after := _, guard := _ } :: _) _ _) ?_)
  obtain ⟨w6, hw6⟩ : ∃ w6, set9 w5 w.heap.size (.slice A2.ho W.lg.holds.length A2.hc) (.int .i64 W.lg.m0) (.int .i64 W.lg.m1) (.int .i64 W.lg.m2) (.int .i64 W.lg.m3) (.slice A2.ga W.gates.length A2.gc) (.slice A2.fa W.failed.length A2.fc) (.slice A2.qa W.queue.length A2.qc) (.slice A2.ma W.marks.length A2.mc) = w6 := ⟨_, rfl⟩
  show wpList _ _ _ _ _ (set9 w5 w.heap.size (.slice A2.ho W.lg.holds.length A2.hc) (.int .i64 W.lg.m0) (.int .i64 W.lg.m1) (.int .i64 W.lg.m2) (.int .i64 W.lg.m3) (.slice A2.ga W.gates.length A2.gc) (.slice A2.fa W.failed.length A2.fc) (.slice A2.qa W.queue.length A2.qc) (.slice A2.ma W.marks.length A2.mc))
  rw [hw6]
  rw [hw6] at H2
  have HS56 : Hid (w5.heap.size ≤ w6.heap.size) := by rw [← hw6, set9_size]; exact Nat.le_refl _
  have HQ6 : Hid (w6.ownsRow w4.heap.size 3 1 (.slice A2.qa W.queue.length A2.qc) W.queue.length (icells W.queue)) := by rw [← hw6]; exact owns_set9 HQ5.out (by have := HS4.out; have := HSB.out; omega) _ _ _ _ _ _ _ _ _
  clear a0 a1 a2 a3 a4 a5 a6 a7 a8 a9
  clear hw6 af
  obtain ⟨a0, a1, a2, a3, a4, a5, a6, a7, a8, af, a9⟩ := H2.out.bx
  obtain ⟨l0, l1, l2, l3, l4, lf, l9⟩ := H2.out.lx
  go_wp2_with (with_reducible refine Hid.out (p := wpList _ _ _ ({ dst := _, op := Op.load 26 _, type := _, pos := _, after := _, guard := _ } :: _) _ _) ?_)
  obtain ⟨w7, hw7⟩ : ∃ w7, set5 w6 w.heap.size L al cl = w7 := ⟨_, rfl⟩
  show wpList _ _ _ _ _ (set5 w6 w.heap.size L al cl)
  rw [hw7]
  have H3 : Hid (BackAt w w7 w.heap.size w3.heap.size { W with lg := L } { A2 with ho := al, hc := cl } L al cl) := by rw [← hw7]; exact H2.out.put
  have HS57 : Hid (w5.heap.size ≤ w7.heap.size) := by rw [← hw7, set5_size]; exact HS56.out
  have HS47 : Hid (w4.heap.size ≤ w7.heap.size) := Nat.le_trans HS45.out HS57.out
  have HQ7 : Hid (w7.ownsRow w4.heap.size 3 1 (.slice A2.qa W.queue.length A2.qc) W.queue.length (icells W.queue)) := by rw [← hw7]; exact owns_set5 HQ6.out (by have := HS4.out; have := HSB.out; omega) _ _ _
  clear a0 a1 a2 a3 a4 a5 a6 a7 a8 a9
  clear l0 l1 l2 l3 l4 lf l9
  clear hw7 af
  have X3 := H3.out.bx
  unfold WBox at X3
  dsimp only at X3
  obtain ⟨a0, a1, a2, a3, a4, a5, a6, a7, a8, af, a9⟩ := X3
  obtain ⟨g, hg⟩ : ∃ g, A2.qa = some ⟨g, 0, none⟩ := by
    rcases HQ7.out.2 with ⟨_, h0⟩ | ⟨g, cap, cur, hv, _⟩
    · rw [HQ.out] at h0; simp at h0
    · simp at hv; exact ⟨g, hv.1⟩
  have HG : Hid (A2.qa = some ⟨g, 0, none⟩) := hg
  have HGL : Hid (w4.heap.size ≤ g ∧ g < w5.heap.size) := HQ5.out.lt g (by rw [hg]; rfl)
  have gc : w7.cell? ⟨g, 0, none⟩ = some (.int .i64 q) := by
    have h := HQ7.out.cells (g := g) (by rw [hg]; rfl) 0 (.int .i64 q) (by rw [HQ.out]; rfl)
    rw [add_none] at h
    exact h
  have gl : g < w7.heap.size := (HQ7.out.lt g (by rw [hg]; rfl)).2
  rw [hg] at a7
  clear hg
  go_wp2_with fail
  refine (HTK.out al cl w7 ⟨al, cl, rfl, H3.out.hl, H3.out.hk⟩).mono ?_
  rintro e w8 ⟨v', rfl, n8, b8⟩
  obtain ⟨am, cm, rfl, m1, m2, m3, m4, mf⟩ := n8
  have K8 := H3.out.keep b8
  have HS7 : Hid (w3.heap.size < w7.heap.size) := H3.out.lx.lt
  have HFM : Hid (Fresh w7.heap.size am M.holds) := mf
  have H4 : Hid (BackAt w (set5 w8 w3.heap.size M am cm) w.heap.size w3.heap.size { W with lg := L } { A2 with ho := al, hc := cl } M am cm) := K8.setl m1 ⟨m2, m3, m4⟩ (fun X hX k off hne e => by have := mf k off hne e; have := HS7.out; have := HSB.out; omega)
  have HQ8 : Hid (w8.ownsRow w4.heap.size 3 1 (.slice A2.qa W.queue.length A2.qc) W.queue.length (icells W.queue)) := owns_below HQ7.out b8
  clear a0 a1 a2 a3 a4 a5 a6 a7 a8 a9
  clear af gc gl m1 m2 m3 m4 mf b8
  obtain ⟨l0, l1, l2, l3, l4, lf, l9⟩ := K8.lx
  clear K8
  unfold lgV
  go_wp2_with (with_reducible refine Hid.out (p := wpList _ _ _ ({ dst := _, op := Op.load 25 _, type := _, pos := _, after := _, guard := _ } :: _) _ _) ?_)
  obtain ⟨w9, hw9⟩ : ∃ w9, set5 w8 w3.heap.size M am cm = w9 := ⟨_, rfl⟩
  show wpList _ _ _ _ _ (set5 w8 w3.heap.size M am cm)
  rw [hw9]
  rw [hw9] at H4
  have HQ9 : Hid (w9.ownsRow w4.heap.size 3 1 (.slice A2.qa W.queue.length A2.qc) W.queue.length (icells W.queue)) := by rw [← hw9]; exact owns_set5 HQ8.out HS4.out _ _ _
  clear l0 l1 l2 l3 l4 lf l9
  clear hw9
  have X4 := H4.out.bx
  unfold WBox at X4
  dsimp only at X4
  obtain ⟨a0, a1, a2, a3, a4, a5, a6, a7, a8, af, a9⟩ := X4
  obtain ⟨l0, l1, l2, l3, l4, lf, l9⟩ := H4.out.lx
  go_wp2_with (with_reducible refine Hid.out (p := wpList _ _ _ ({ dst := _, op := Op.load 26 _, type := _, pos := _, after := _, guard := _ } :: _) _ _) ?_)
  obtain ⟨w10, hw10⟩ : ∃ w10, set5 w9 w.heap.size M am cm = w10 := ⟨_, rfl⟩
  show wpList _ _ _ _ _ (set5 w9 w.heap.size M am cm)
  rw [hw10]
  have H5 : Hid (BackAt w w10 w.heap.size w3.heap.size { W with lg := M } { A2 with ho := am, hc := cm } M am cm) := by rw [← hw10]; exact H4.out.put
  have HQ10 : Hid (w10.ownsRow w4.heap.size 3 1 (.slice (some ⟨g, 0, none⟩) W.queue.length A2.qc) W.queue.length (icells W.queue)) := by have h := HQ9.out; rw [HG.out] at h; rw [← hw10]; exact owns_set5 h (by have := HS4.out; have := HSB.out; omega) _ _ _
  clear a0 a1 a2 a3 a4 a5 a6 a7 a8 a9
  clear l0 l1 l2 l3 l4 lf l9
  clear hw10 af
  have X5 := H5.out.bx
  unfold WBox at X5
  dsimp only at X5
  rw [HG.out] at X5
  have HX5 : Hid (Box9 _ _ _ _ _ _ _ _ _ _ _) := X5
  obtain ⟨a0, a1, a2, a3, a4, a5, a6, a7, a8, af, a9⟩ := X5
  go_wp2_with fail
  refine (deleteI_of q t W.queue g A2.qc w4.heap.size w10 HQ.out HQ10.out).mono ?_
  rintro e w11 ⟨rfl, i11, z11, c11, f11, b11⟩
  have HOX : Hid (∀ X, X < w4.heap.size → Off { W with lg := M, queue := t } { A2 with ho := am, hc := cm } X) := fun X hX => { HO5.out X hX with h := fun k off hne e => by have := HFM.out k off hne e; have := HS47.out; omega, q := fun k off _ e => by have e' := HG.out; have e2 : A2.qa = some ⟨k, off, none⟩ := e; rw [e'] at e2; simp at e2; have := HGL.out.1; omega }
  have HL11 : Hid (WdLies w11 { W with lg := M, queue := t } { A2 with ho := am, hc := cm }) := by
    have l0 : WdLies w10 { W with lg := M, queue := [] } { A2 with ho := am, hc := cm } := { H5.out.ld with q := ints_nil _ _, qk := ⟨H5.out.ld.qk.1, Nat.zero_le _, H5.out.ld.qk.2.2⟩ }
    have o0 : Off { W with lg := M, queue := [] } { A2 with ho := am, hc := cm } g := { HAL.out g 0 HG.out with h := fun k off hne e => by have := HFM.out k off hne e; have := HGL.out.2; have := HS57.out; omega }
    have l1 := l0.far (by rw [z11]; exact Nat.le_refl _) c11 o0
    have kq : Cap A2.qa W.queue.length A2.qc := H5.out.ld.qk
    exact { l1 with q := by show IntsAt w11 A2.qa t; rw [HG.out]; exact i11, qk := ⟨kq.1, by have := kq.2.1; rw [HQ.out] at this; simp at this; show t.length ≤ A2.qc; omega, kq.2.2⟩ }
  have nb : w.heap.size ≠ g := by have := HGL.out.1; have := HS4.out; have := HSB.out; omega
  have nz : w.heap.size + 1 ≠ g := by have := HGL.out.1; have := HS4.out; have := HSB.out; omega
  have HB11 : Hid (Box9 w11 w.heap.size (.slice am M.holds.length cm) (.int .i64 M.m0) (.int .i64 M.m1) (.int .i64 M.m2) (.int .i64 M.m3) (.slice A2.ga W.gates.length A2.gc) (.slice A2.fa W.failed.length A2.fc) (.slice (some ⟨g, 0, none⟩) W.queue.length A2.qc) (.slice A2.ma W.marks.length A2.mc)) := Box9.farC HX5.out (fun j => c11 _ j nb) (fun j => f11 _) (by rw [z11]; exact Nat.le_refl _)
  have HZ11 : Hid (ZBox w11 (w.heap.size + 1)) := Box9.farC H5.out.zx (fun j => c11 _ j nz) (fun j => f11 _) (by rw [z11]; exact Nat.le_refl _)
  have HBL : Hid (Below w.heap.size w w11) := H5.out.bl.trans (b11.mono (by have := HGL.out.1; have := HS4.out; have := HSB.out; omega))
  clear a0 a1 a2 a3 a4 a5 a6 a7 a8 a9
  clear i11 z11 c11 f11 b11 af nb nz
  obtain ⟨a0, a1, a2, a3, a4, a5, a6, a7, a8, af, a9⟩ := HB11.out
  go_wp2_with (with_reducible refine Hid.out (p := wpList _ _ _ ({ dst := _, op := Op.load 29 _, type := _, pos := _, after := _, guard := _ } :: _) _ _) ?_)
  obtain ⟨w12, hw12⟩ : ∃ w12, w11.setCell ⟨w.heap.size, 7, none⟩ (.slice (some ⟨g, 0, none⟩) t.length A2.qc) = w12 := ⟨_, rfl⟩
  show wpList _ _ _ _ _ (w11.setCell ⟨w.heap.size, 7, none⟩ (.slice (some ⟨g, 0, none⟩) t.length A2.qc))
  rw [hw12]
  have HB12 : Hid (Box9 w12 w.heap.size (.slice am M.holds.length cm) (.int .i64 M.m0) (.int .i64 M.m1) (.int .i64 M.m2) (.int .i64 M.m3) (.slice A2.ga W.gates.length A2.gc) (.slice A2.fa W.failed.length A2.fc) (.slice (some ⟨g, 0, none⟩) t.length A2.qc) (.slice A2.ma W.marks.length A2.mc)) := by rw [← hw12]; exact Box9.put7 HB11.out _
  have HZ12 : Hid (ZBox w12 (w.heap.size + 1)) := by rw [← hw12]; exact Box9.far1 HZ11.out (by omega) _
  have HL12 : Hid (WdLies w12 { W with lg := M, queue := t } { A2 with ho := am, hc := cm }) := by rw [← hw12]; exact HL11.out.far (by simp) (fun k j hk => setCell_far _ _ _ _ _ _ hk) (HOX.out w.heap.size (by have := HS4.out; have := HSB.out; omega))
  have HBL12 : Hid (Below w.heap.size w w12) := by rw [← hw12]; exact HBL.out.setCell (Nat.le_refl _) _
  clear a0 a1 a2 a3 a4 a5 a6 a7 a8 a9
  clear hw12 af
  obtain ⟨a0, a1, a2, a3, a4, a5, a6, a7, a8, af, a9⟩ := HB12.out
  obtain ⟨z0, z1, z2, z3, z4, z5, z6, z7, z8, zf, z9⟩ := HZ12.out
  go_wp2
  exact bodyPost_ret (v := .tuple #[.agg #[.slice am M.holds.length cm, .int .i64 M.m0, .int .i64 M.m1, .int .i64 M.m2, .int .i64 M.m3, .slice A2.ga W.gates.length A2.gc, .slice A2.fa W.failed.length A2.fc, .slice (some ⟨g, 0, none⟩) t.length A2.qc, .slice A2.ma W.marks.length A2.mc], .int .i64 q, .int .i64 0]) (by simp [results, Try.results10, go_sem, z0, z1, z2, z3, z4, z5, z6, z7, z8]) rfl ⟨{ A2 with ho := am, hc := cm }, by rw [HG.out], Wd.far9 HL12.out (HOX.out _ (by have := HS4.out; have := HSB.out; omega)), fun X hX => HOX.out X (by have := HS4.out; have := HSB.out; omega), set9_below HBL12.out (by omega)⟩

/-- What Back comes to, in any world. -/
theorem back_any (W : Wd) (A : Ad) (id : Int) (w : World) (ha : WdLies w W A) (hf : Fits W) :
    Calls Try.prog 10 #[wdV W A, .int .i64 id] w fun e w' => ∃ A', e = .returned (.tuple #[wdV (backR W id) A', .int .i64 (backN W id), .int .i64 (giveE W.lg id 2)]) ∧ WdLies w' (backR W id) A' ∧ (∀ X, X < w.heap.size → Off (backR W id) A' X) ∧ Below w.heap.size w w' := by
  have hgv := fun w' hl => give_any W.lg (lgV W.lg A.ho A.hc) id 2 w' hl (by have := hf.h; omega)
  have h24 : ((giveR W.lg id 2).holds.length + 1) * 24 ≤ 140737488355328 := by
    have h := giveR_len W.lg id 2
    have := hf.h
    omega
  have htk := fun (q : Int) ao c w' hl => ptake_any (giveR W.lg id 2) (lgV (giveR W.lg id 2) ao c) q w' hl h24
  unfold backR backN
  by_cases he : giveE W.lg id 2 = 0
  · rw [if_pos he, if_pos he]
    rw [he] at hgv ⊢
    cases hq : W.queue with
    | nil =>
      have e : ({ W with lg := giveR W.lg id 2, queue := [] } : Wd) = { W with lg := giveR W.lg id 2 } := by rw [← hq]
      rw [e]
      exact back_empty W A id _ w ha hf hgv (by rw [hq]; rfl)
    | cons q t =>
      have e : ({ W with lg := giveR W.lg id 2, queue := q :: t } : Wd) = { W with lg := giveR W.lg id 2 } := by rw [← hq]
      rcases takeE_two (giveR W.lg id 2) with ht | ht
      · simp only [ht, if_true]
        simp only [ht] at htk
        exact back_next W A id _ w ha _ q t hf hgv (htk q) hq
      · have hn : ¬ takeE (giveR W.lg id 2) 2 = 0 := by rw [ht]; omega
        simp only [if_neg hn]
        simp only [ht] at htk
        rw [e]
        exact back_full W A id _ w ha _ q t hf hgv (htk q) hq
  · have h6 : giveE W.lg id 2 = 6 := by
      unfold giveE at he ⊢
      split
      · rfl
      · rw [if_neg (by assumption)] at he; exact absurd rfl he
    rw [if_neg he, if_neg he]
    rw [h6] at hgv ⊢
    exact back_none W A id _ w ha hgv
end Go.Proofs.Ytnhndieoaceofaa
