/- Giving a lease back: the document's own answer. -/
import Derived.Test.YtnhndieoaceofaaPoolO
import Derived.Test.YtnhndieoaceofaaLedEr
import Derived.Deep.RegionLaw
namespace Go.Proofs.Ytnhndieoaceofaa
open Go.RowKit

theorem tailO {w : World} {g off c t : Nat} {hs : List Int} (h : IntsAt w (some ⟨g, off, none⟩) hs) (hc : hs.length ≤ c) (ht : t < hs.length) : IntsAt w (if c = t + 1 then some ⟨g, off, none⟩ else some ⟨g, off + (t + 1), none⟩) (hs.drop (t + 1)) := by
  split
  · have e : hs.drop (t + 1) = [] := List.drop_eq_nil_of_le (by omega)
    rw [e]
    exact ints_nil _ _
  · refine ⟨fun i hi => ?_, by have := h.small; simp; omega⟩
    have hi' : t + 1 + i < hs.length := by simp at hi; omega
    obtain ⟨b, o, h1, h2, h3⟩ := h.lies (t + 1 + i) hi'
    simp at h1
    obtain ⟨rfl, rfl⟩ := h1
    refine ⟨g, off + (t + 1), rfl, h2, ?_⟩
    rw [show off + (t + 1) + i = off + (t + 1 + i) by omega]
    simpa using h3

set_option maxRecDepth 100000 in
set_option maxHeartbeats 1000000 in
theorem rback_none (W : Wd) (A : Ad) (id : Int) (L : Lg) (w : World) (ha : WdLies w W A) (hgv : ∀ w', LgAt w' (lgV W.lg A.ho A.hc) W.lg → Calls Try.prog 23 #[lgV W.lg A.ho A.hc, .int .i64 id, .int .i64 2] w' fun e w'' => ∃ v', e = .returned (.tuple #[v', .int .i64 6]) ∧ LgNew w'.heap.size w'' v' L ∧ Below w'.heap.size w' w'') :
    Calls Try.prog 11 #[wdV W A, .int .i64 id] w fun e w' => ∃ A', e = .returned (.tuple #[wdV zeroWd A', .int .i64 (-1), .int .i64 6]) ∧ WdLies w' zeroWd A' ∧ (∀ X, X < w.heap.size → Off W A X → Off zeroWd A' X) ∧ Below w.heap.size w w' := by
  have H0 : Hid (OwnAt _ _ _ _ _) := OwnAt.made ha
  obtain ⟨w2, hw2⟩ : ∃ w2, (w.alloc (.cells #[.slice A.ho W.lg.holds.length A.hc, .int .i64 W.lg.m0, .int .i64 W.lg.m1, .int .i64 W.lg.m2, .int .i64 W.lg.m3, .slice A.ga W.gates.length A.gc, .slice A.fa W.failed.length A.fc, .slice A.qa W.queue.length A.qc, .slice A.ma W.marks.length A.mc] 29)).alloc (.cells #[.slice none 0 0, .int .i64 0, .int .i64 0, .int .i64 0, .int .i64 0, .slice none 0 0, .slice none 0 0, .slice none 0 0, .slice none 0 0] 29) = w2 := ⟨_, rfl⟩
  rw [hw2] at H0
  have HW : Hid (_ = w2) := hw2
  have HGV : Hid (∀ w', _) := hgv
  have HAO : Hid (∀ X, w.heap.size ≤ X → Off W A X) := fun X hX => ha.off hX
  clear hw2 hgv ha
  unfold wdV
  obtain ⟨a0, a1, a2, a3, a4, a5, a6, a7, a8, af, a9⟩ := H0.out.bx
  go_enter Try.func11, Try.ntmps11
  go_wp2_with fail
  rw [HW.out]
  refine (HGV.out w2 H0.out.ld.lg).mono ?_
  rintro e w3 ⟨v', rfl, n3, b3⟩
  obtain ⟨al, cl, rfl, m1, m2, m3, m4, mf⟩ := n3
  obtain ⟨w4, hw4⟩ : ∃ w4, w3.alloc (.cells #[.slice al L.holds.length cl, .int .i64 L.m0, .int .i64 L.m1, .int .i64 L.m2, .int .i64 L.m3] 25) = w4 := ⟨_, rfl⟩
  have b4 : Below w3.heap.size w3 w4 := by rw [← hw4]; exact bel_alloc _ _
  have H1 : Hid (BackAt w w4 w.heap.size w3.heap.size W A L al cl) := by
    have h := (H0.out.keep b3).keep b4
    have s2 := H0.out.zx.lt
    have s3 := b3.size
    refine ⟨h.bx, h.zx, ?_, h.ld, m1.below (Nat.le_refl _) b4, ⟨m2, m3, m4⟩, h.bl, by omega, fun X hX => HAO.out X (by omega), fun X hX k off hne e => ?_⟩
    · rw [← hw4]; exact Box5.made rfl _ _ _ _ _ _
    · have q1 := mf k off hne e
      have q2 := holds_ne m1 (Nat.le_refl _) k off hne e
      omega
  have HB4 : Hid (w3.alloc (.cells #[.slice al L.holds.length cl, .int .i64 L.m0, .int .i64 L.m1, .int .i64 L.m2, .int .i64 L.m3] 25) = w4) := hw4
  have HFR : Hid (Fresh w2.heap.size al L.holds) := mf
  have HS2 : Hid (w.heap.size + 1 < w2.heap.size) := H0.out.zx.lt
  have HSB : Hid (w.heap.size + 1 < w3.heap.size) := by have := HS2.out; have := b3.size; show _ < _; omega
  clear a0 a1 a2 a3 a4 a5 a6 a7 a8 af a9
  clear m1 m2 m3 m4 mf b3 b4 hw4
  unfold lgV
  go_wp2_with (with_reducible refine Hid.out (p := wpList _ _ _ ({ dst := _, op := Op.store 29 _ _, type := _, pos := _, after := _, guard := _ } :: _) _ _) ?_)
  rw [HB4.out]
  show wpList _ _ _ _ _ w4
  obtain ⟨z0, z1, z2, z3, z4, z5, z6, z7, z8, zf, z9⟩ := H1.out.zx
  go_wp2
  exact bodyPost_ret (v := .tuple #[.agg #[.slice none 0 0, .int .i64 0, .int .i64 0, .int .i64 0, .int .i64 0, .slice none 0 0, .slice none 0 0, .slice none 0 0, .slice none 0 0], .int .i64 (-1), .int .i64 6]) (by simp [results, Try.results11, go_sem, z0, z1, z2, z3, z4, z5, z6, z7, z8]) rfl ⟨zeroAd, rfl, zeroLies _, fun X _ _ => zeroOff X, set9_below H1.out.bl (by omega)⟩

set_option maxRecDepth 100000 in
set_option maxHeartbeats 1000000 in
theorem rback_empty (W : Wd) (A : Ad) (id : Int) (L : Lg) (w : World) (ha : WdLies w W A) (hgv : ∀ w', LgAt w' (lgV W.lg A.ho A.hc) W.lg → Calls Try.prog 23 #[lgV W.lg A.ho A.hc, .int .i64 id, .int .i64 2] w' fun e w'' => ∃ v', e = .returned (.tuple #[v', .int .i64 0]) ∧ LgNew w'.heap.size w'' v' L ∧ Below w'.heap.size w' w'') (h0 : W.queue.length = 0) :
    Calls Try.prog 11 #[wdV W A, .int .i64 id] w fun e w' => ∃ A', e = .returned (.tuple #[wdV { W with lg := L } A', .int .i64 (-1), .int .i64 0]) ∧ WdLies w' { W with lg := L } A' ∧ (∀ X, X < w.heap.size → Off W A X → Off { W with lg := L } A' X) ∧ Below w.heap.size w w' := by
  have H0 : Hid (OwnAt _ _ _ _ _) := OwnAt.made ha
  obtain ⟨w2, hw2⟩ : ∃ w2, (w.alloc (.cells #[.slice A.ho W.lg.holds.length A.hc, .int .i64 W.lg.m0, .int .i64 W.lg.m1, .int .i64 W.lg.m2, .int .i64 W.lg.m3, .slice A.ga W.gates.length A.gc, .slice A.fa W.failed.length A.fc, .slice A.qa W.queue.length A.qc, .slice A.ma W.marks.length A.mc] 29)).alloc (.cells #[.slice none 0 0, .int .i64 0, .int .i64 0, .int .i64 0, .int .i64 0, .slice none 0 0, .slice none 0 0, .slice none 0 0, .slice none 0 0] 29) = w2 := ⟨_, rfl⟩
  rw [hw2] at H0
  have HW : Hid (_ = w2) := hw2
  have HGV : Hid (∀ w', _) := hgv
  have HAO : Hid (∀ X, w.heap.size ≤ X → Off W A X) := fun X hX => ha.off hX
  clear hw2 hgv ha
  unfold wdV
  obtain ⟨a0, a1, a2, a3, a4, a5, a6, a7, a8, af, a9⟩ := H0.out.bx
  have q0 : ((W.queue.length : Int) == 0) = true := by simp [h0]
  clear h0
  go_enter Try.func11, Try.ntmps11
  go_wp2_with fail
  rw [HW.out]
  refine (HGV.out w2 H0.out.ld.lg).mono ?_
  rintro e w3 ⟨v', rfl, n3, b3⟩
  obtain ⟨al, cl, rfl, m1, m2, m3, m4, mf⟩ := n3
  obtain ⟨w4, hw4⟩ : ∃ w4, w3.alloc (.cells #[.slice al L.holds.length cl, .int .i64 L.m0, .int .i64 L.m1, .int .i64 L.m2, .int .i64 L.m3] 25) = w4 := ⟨_, rfl⟩
  have b4 : Below w3.heap.size w3 w4 := by rw [← hw4]; exact bel_alloc _ _
  have H1 : Hid (BackAt w w4 w.heap.size w3.heap.size W A L al cl) := by
    have h := (H0.out.keep b3).keep b4
    have s2 := H0.out.zx.lt
    have s3 := b3.size
    refine ⟨h.bx, h.zx, ?_, h.ld, m1.below (Nat.le_refl _) b4, ⟨m2, m3, m4⟩, h.bl, by omega, fun X hX => HAO.out X (by omega), fun X hX k off hne e => ?_⟩
    · rw [← hw4]; exact Box5.made rfl _ _ _ _ _ _
    · have q1 := mf k off hne e
      have q2 := holds_ne m1 (Nat.le_refl _) k off hne e
      omega
  have HB4 : Hid (w3.alloc (.cells #[.slice al L.holds.length cl, .int .i64 L.m0, .int .i64 L.m1, .int .i64 L.m2, .int .i64 L.m3] 25) = w4) := hw4
  have HFR : Hid (Fresh w2.heap.size al L.holds) := mf
  have HS2 : Hid (w.heap.size + 1 < w2.heap.size) := H0.out.zx.lt
  have HSB : Hid (w.heap.size + 1 < w3.heap.size) := by have := HS2.out; have := b3.size; show _ < _; omega
  clear a0 a1 a2 a3 a4 a5 a6 a7 a8 af a9
  clear m1 m2 m3 m4 mf b3 b4 hw4
  unfold lgV
  go_wp2_with (with_reducible refine Hid.out (p := wpList _ _ _ ({ dst := _, op := Op.load 25 _, type := _, pos := _, after := _, guard := _ } :: _) _ _) ?_)
  rw [HB4.out]
  show wpList _ _ _ _ _ w4
  obtain ⟨a0, a1, a2, a3, a4, a5, a6, a7, a8, af, a9⟩ := H1.out.bx
  obtain ⟨l0, l1, l2, l3, l4, lf, l9⟩ := H1.out.lx
  have y1 := HSB.out
  have y2 : ¬ w3.heap.size = w.heap.size := by omega
  have y3 : ¬ w.heap.size = w3.heap.size := by omega
  clear y1
  go_wp2_with (with_reducible refine Hid.out (p := wpList _ _ _ ({ dst := _, op := Op.load 26 _, type := _, pos := _, after := _, guard := _ } :: _) _ _) ?_)
  obtain ⟨w7, hw7⟩ : ∃ w7, set5 w4 w.heap.size L al cl = w7 := ⟨_, rfl⟩
  show wpList _ _ _ _ _ (set5 w4 w.heap.size L al cl)
  rw [hw7]
  have H3 : Hid (BackAt w w7 w.heap.size w3.heap.size { W with lg := L } { A with ho := al, hc := cl } L al cl) := by rw [← hw7]; exact H1.out.put
  clear a0 a1 a2 a3 a4 a5 a6 a7 a8 af a9
  clear l0 l1 l2 l3 l4 lf l9
  clear hw7
  have X3 := H3.out.bx
  unfold WBox at X3
  dsimp only at X3
  obtain ⟨a0, a1, a2, a3, a4, a5, a6, a7, a8, af, a9⟩ := X3
  obtain ⟨z0, z1, z2, z3, z4, z5, z6, z7, z8, zf, z9⟩ := H3.out.zx
  go_wp2
  exact bodyPost_ret (v := .tuple #[.agg #[.slice al L.holds.length cl, .int .i64 L.m0, .int .i64 L.m1, .int .i64 L.m2, .int .i64 L.m3, .slice A.ga W.gates.length A.gc, .slice A.fa W.failed.length A.fc, .slice A.qa W.queue.length A.qc, .slice A.ma W.marks.length A.mc], .int .i64 (-1), .int .i64 0]) (by simp [results, Try.results11, go_sem, z0, z1, z2, z3, z4, z5, z6, z7, z8]) rfl ⟨{ A with ho := al, hc := cl }, rfl, Wd.far9 H3.out.ld (H3.out.o _ (.inr (.inl rfl))), fun X hX ho => { ho with h := fun k off hne e => by have := HFR.out k off hne e; have := HS2.out; omega }, set9_below H3.out.bl (by omega)⟩

set_option maxRecDepth 100000 in
set_option maxHeartbeats 1000000 in
theorem rback_full (W : Wd) (A : Ad) (id : Int) (L : Lg) (w : World) (ha : WdLies w W A) (M : Lg) (q : Int) (t : List Int) (hgv : ∀ w', LgAt w' (lgV W.lg A.ho A.hc) W.lg → Calls Try.prog 23 #[lgV W.lg A.ho A.hc, .int .i64 id, .int .i64 2] w' fun e w'' => ∃ v', e = .returned (.tuple #[v', .int .i64 0]) ∧ LgNew w'.heap.size w'' v' L ∧ Below w'.heap.size w' w'') (htk : ∀ ao c w', LgAt w' (lgV L ao c) L → Calls Try.prog 20 #[lgV L ao c, .int .i64 q, .int .i64 2, .int .i64 (-1)] w' fun e w'' => ∃ v', e = .returned (.tuple #[v', .int .i64 8]) ∧ LgNew w'.heap.size w'' v' M ∧ Below w'.heap.size w' w'') (hq : W.queue = q :: t) :
    Calls Try.prog 11 #[wdV W A, .int .i64 id] w fun e w' => ∃ A', e = .returned (.tuple #[wdV { W with lg := L } A', .int .i64 (-1), .int .i64 0]) ∧ WdLies w' { W with lg := L } A' ∧ (∀ X, X < w.heap.size → Off W A X → Off { W with lg := L } A' X) ∧ Below w.heap.size w w' := by
  have H0 : Hid (OwnAt _ _ _ _ _) := OwnAt.made ha
  obtain ⟨w2, hw2⟩ : ∃ w2, (w.alloc (.cells #[.slice A.ho W.lg.holds.length A.hc, .int .i64 W.lg.m0, .int .i64 W.lg.m1, .int .i64 W.lg.m2, .int .i64 W.lg.m3, .slice A.ga W.gates.length A.gc, .slice A.fa W.failed.length A.fc, .slice A.qa W.queue.length A.qc, .slice A.ma W.marks.length A.mc] 29)).alloc (.cells #[.slice none 0 0, .int .i64 0, .int .i64 0, .int .i64 0, .int .i64 0, .slice none 0 0, .slice none 0 0, .slice none 0 0, .slice none 0 0] 29) = w2 := ⟨_, rfl⟩
  rw [hw2] at H0
  have HW : Hid (_ = w2) := hw2
  have HGV : Hid (∀ w', _) := hgv
  have HAO : Hid (∀ X, w.heap.size ≤ X → Off W A X) := fun X hX => ha.off hX
  clear hw2 hgv ha
  unfold wdV
  obtain ⟨a0, a1, a2, a3, a4, a5, a6, a7, a8, af, a9⟩ := H0.out.bx
  have q0 : ((W.queue.length : Int) == 0) = false := by rw [hq]; simp; omega
  have qp : (0 : Int) < (W.queue.length : Int) := by rw [hq]; simp
  have HQ : Hid (W.queue = q :: t) := hq
  have HTK : Hid (∀ (ao : Option Addr), _) := htk
  clear hq htk
  go_enter Try.func11, Try.ntmps11
  go_wp2_with fail
  rw [HW.out]
  refine (HGV.out w2 H0.out.ld.lg).mono ?_
  rintro e w3 ⟨v', rfl, n3, b3⟩
  obtain ⟨al, cl, rfl, m1, m2, m3, m4, mf⟩ := n3
  obtain ⟨w4, hw4⟩ : ∃ w4, w3.alloc (.cells #[.slice al L.holds.length cl, .int .i64 L.m0, .int .i64 L.m1, .int .i64 L.m2, .int .i64 L.m3] 25) = w4 := ⟨_, rfl⟩
  have b4 : Below w3.heap.size w3 w4 := by rw [← hw4]; exact bel_alloc _ _
  have H1 : Hid (BackAt w w4 w.heap.size w3.heap.size W A L al cl) := by
    have h := (H0.out.keep b3).keep b4
    have s2 := H0.out.zx.lt
    have s3 := b3.size
    refine ⟨h.bx, h.zx, ?_, h.ld, m1.below (Nat.le_refl _) b4, ⟨m2, m3, m4⟩, h.bl, by omega, fun X hX => HAO.out X (by omega), fun X hX k off hne e => ?_⟩
    · rw [← hw4]; exact Box5.made rfl _ _ _ _ _ _
    · have q1 := mf k off hne e
      have q2 := holds_ne m1 (Nat.le_refl _) k off hne e
      omega
  have HB4 : Hid (w3.alloc (.cells #[.slice al L.holds.length cl, .int .i64 L.m0, .int .i64 L.m1, .int .i64 L.m2, .int .i64 L.m3] 25) = w4) := hw4
  have HFR : Hid (Fresh w2.heap.size al L.holds) := mf
  have HS2 : Hid (w.heap.size + 1 < w2.heap.size) := H0.out.zx.lt
  have HSB : Hid (w.heap.size + 1 < w3.heap.size) := by have := HS2.out; have := b3.size; show _ < _; omega
  clear a0 a1 a2 a3 a4 a5 a6 a7 a8 af a9
  clear m1 m2 m3 m4 mf b3 b4 hw4
  unfold lgV
  go_wp2_with (with_reducible refine Hid.out (p := wpList _ _ _ ({ dst := _, op := Op.load 25 _, type := _, pos := _, after := _, guard := _ } :: _) _ _) ?_)
  rw [HB4.out]
  show wpList _ _ _ _ _ w4
  obtain ⟨a0, a1, a2, a3, a4, a5, a6, a7, a8, af, a9⟩ := H1.out.bx
  obtain ⟨l0, l1, l2, l3, l4, lf, l9⟩ := H1.out.lx
  have y1 := HSB.out
  have y2 : ¬ w3.heap.size = w.heap.size := by omega
  have y3 : ¬ w.heap.size = w3.heap.size := by omega
  clear y1
  go_wp2_with (with_reducible refine Hid.out (p := wpList _ _ _ ({ dst := _, op := Op.load 26 _, type := _, pos := _, after := _, guard := _ } :: _) _ _) ?_)
  obtain ⟨w7, hw7⟩ : ∃ w7, set5 w4 w.heap.size L al cl = w7 := ⟨_, rfl⟩
  show wpList _ _ _ _ _ (set5 w4 w.heap.size L al cl)
  rw [hw7]
  have H3 : Hid (BackAt w w7 w.heap.size w3.heap.size { W with lg := L } { A with ho := al, hc := cl } L al cl) := by rw [← hw7]; exact H1.out.put
  clear a0 a1 a2 a3 a4 a5 a6 a7 a8 af a9
  clear l0 l1 l2 l3 l4 lf l9
  clear hw7
  have X3 := H3.out.bx
  unfold WBox at X3
  dsimp only at X3
  obtain ⟨a0, a1, a2, a3, a4, a5, a6, a7, a8, af, a9⟩ := X3
  obtain ⟨qb, qo, hg, gl, gc⟩ := H3.out.ld.q.lies 0 (by rw [HQ.out]; simp)
  have hg' : A.qa = some ⟨qb, qo, none⟩ := hg
  have gc' : w7.cell? ⟨qb, qo, none⟩ = some (.int .i64 q) := by
    have e : (W.queue)[0]'(by rw [HQ.out]; simp) = q := by simp [HQ.out]
    rw [← e]; exact gc
  have HG : Hid (A.qa = some ⟨qb, qo, none⟩) := hg'
  rw [hg'] at a7
  clear hg gc hg'
  obtain ⟨l0, l1, l2, l3, l4, lf, l9⟩ := H3.out.lx
  go_wp2_with fail
  refine (HTK.out al cl w7 ⟨al, cl, rfl, H3.out.hl, H3.out.hk⟩).mono ?_
  rintro e w8 ⟨v', rfl, n8, b8⟩
  obtain ⟨am, cm, rfl, m1, m2, m3, m4, mf⟩ := n8
  have K8 := H3.out.keep b8
  have HS7 : Hid (w3.heap.size < w7.heap.size) := H3.out.lx.lt
  have HFM : Hid (Fresh w7.heap.size am M.holds) := mf
  have H4 : Hid (BackAt w (set5 w8 w3.heap.size M am cm) w.heap.size w3.heap.size { W with lg := L } { A with ho := al, hc := cl } M am cm) := K8.setl m1 ⟨m2, m3, m4⟩ (fun X hX k off hne e => by have := mf k off hne e; have := HS7.out; have := HSB.out; omega)
  have HS8 : Hid (w7.heap.size ≤ w8.heap.size) := b8.size
  clear a0 a1 a2 a3 a4 a5 a6 a7 a8 af a9
  clear l0 l1 l2 l3 l4 lf l9
  clear gc' gl m1 m2 m3 m4 mf b8
  obtain ⟨l0, l1, l2, l3, l4, lf, l9⟩ := K8.lx
  clear K8
  unfold lgV
  go_wp2_with (with_reducible refine Hid.out (p := wpList _ _ _ ({ dst := _, op := Op.load 29 _, type := _, pos := _, after := _, guard := _ } :: _) _ _) ?_)
  obtain ⟨w9, hw9⟩ : ∃ w9, set5 w8 w3.heap.size M am cm = w9 := ⟨_, rfl⟩
  show wpList _ _ _ _ _ (set5 w8 w3.heap.size M am cm)
  rw [hw9]
  rw [hw9] at H4
  clear l0 l1 l2 l3 l4 lf l9
  clear hw9
  have X4 := H4.out.bx
  unfold WBox at X4
  dsimp only at X4
  obtain ⟨a0, a1, a2, a3, a4, a5, a6, a7, a8, af, a9⟩ := X4
  obtain ⟨z0, z1, z2, z3, z4, z5, z6, z7, z8, zf, z9⟩ := H4.out.zx
  go_wp2
  exact bodyPost_ret (v := .tuple #[.agg #[.slice al L.holds.length cl, .int .i64 L.m0, .int .i64 L.m1, .int .i64 L.m2, .int .i64 L.m3, .slice A.ga W.gates.length A.gc, .slice A.fa W.failed.length A.fc, .slice A.qa W.queue.length A.qc, .slice A.ma W.marks.length A.mc], .int .i64 (-1), .int .i64 0]) (by simp [results, Try.results11, go_sem, z0, z1, z2, z3, z4, z5, z6, z7, z8]) rfl ⟨{ A with ho := al, hc := cl }, rfl, Wd.far9 H4.out.ld (H4.out.o _ (.inr (.inl rfl))), fun X hX ho => { ho with h := fun k off hne e => by have := HFR.out k off hne e; have := HS2.out; omega }, set9_below H4.out.bl (by omega)⟩

set_option maxRecDepth 100000 in
set_option maxHeartbeats 1000000 in
theorem rback_next (W : Wd) (A : Ad) (id : Int) (L : Lg) (w : World) (ha : WdLies w W A) (M : Lg) (q : Int) (t : List Int) (hf : Fits W) (hgv : ∀ w', LgAt w' (lgV W.lg A.ho A.hc) W.lg → Calls Try.prog 23 #[lgV W.lg A.ho A.hc, .int .i64 id, .int .i64 2] w' fun e w'' => ∃ v', e = .returned (.tuple #[v', .int .i64 0]) ∧ LgNew w'.heap.size w'' v' L ∧ Below w'.heap.size w' w'') (htk : ∀ ao c w', LgAt w' (lgV L ao c) L → Calls Try.prog 20 #[lgV L ao c, .int .i64 q, .int .i64 2, .int .i64 (-1)] w' fun e w'' => ∃ v', e = .returned (.tuple #[v', .int .i64 0]) ∧ LgNew w'.heap.size w'' v' M ∧ Below w'.heap.size w' w'') (hq : W.queue = q :: t) :
    Calls Try.prog 11 #[wdV W A, .int .i64 id] w fun e w' => ∃ A', e = .returned (.tuple #[wdV { W with lg := M, queue := t } A', .int .i64 q, .int .i64 0]) ∧ WdLies w' { W with lg := M, queue := t } A' ∧ (∀ X, X < w.heap.size → Off W A X → Off { W with lg := M, queue := t } A' X) ∧ Below w.heap.size w w' := by
  have H0 : Hid (OwnAt _ _ _ _ _) := OwnAt.made ha
  obtain ⟨w2, hw2⟩ : ∃ w2, (w.alloc (.cells #[.slice A.ho W.lg.holds.length A.hc, .int .i64 W.lg.m0, .int .i64 W.lg.m1, .int .i64 W.lg.m2, .int .i64 W.lg.m3, .slice A.ga W.gates.length A.gc, .slice A.fa W.failed.length A.fc, .slice A.qa W.queue.length A.qc, .slice A.ma W.marks.length A.mc] 29)).alloc (.cells #[.slice none 0 0, .int .i64 0, .int .i64 0, .int .i64 0, .int .i64 0, .slice none 0 0, .slice none 0 0, .slice none 0 0, .slice none 0 0] 29) = w2 := ⟨_, rfl⟩
  rw [hw2] at H0
  have HW : Hid (_ = w2) := hw2
  have HGV : Hid (∀ w', _) := hgv
  have HAO : Hid (∀ X, w.heap.size ≤ X → Off W A X) := fun X hX => ha.off hX
  clear hw2 hgv ha
  unfold wdV
  obtain ⟨a0, a1, a2, a3, a4, a5, a6, a7, a8, af, a9⟩ := H0.out.bx
  have q0 : ((W.queue.length : Int) == 0) = false := by rw [hq]; simp; omega
  have qp : (0 : Int) < (W.queue.length : Int) := by rw [hq]; simp
  have HQ : Hid (W.queue = q :: t) := hq
  have HTK : Hid (∀ (ao : Option Addr), _) := htk
  clear hq htk
  have HF : Hid (Fits W) := hf
  clear hf
  obtain ⟨i3, hi3, hz3, hs3, hb3⟩ := info_parts Try.info3
  go_enter Try.func11, Try.ntmps11
  go_wp2_with fail
  rw [HW.out]
  refine (HGV.out w2 H0.out.ld.lg).mono ?_
  rintro e w3 ⟨v', rfl, n3, b3⟩
  obtain ⟨al, cl, rfl, m1, m2, m3, m4, mf⟩ := n3
  obtain ⟨w4, hw4⟩ : ∃ w4, w3.alloc (.cells #[.slice al L.holds.length cl, .int .i64 L.m0, .int .i64 L.m1, .int .i64 L.m2, .int .i64 L.m3] 25) = w4 := ⟨_, rfl⟩
  have b4 : Below w3.heap.size w3 w4 := by rw [← hw4]; exact bel_alloc _ _
  have H1 : Hid (BackAt w w4 w.heap.size w3.heap.size W A L al cl) := by
    have h := (H0.out.keep b3).keep b4
    have s2 := H0.out.zx.lt
    have s3 := b3.size
    refine ⟨h.bx, h.zx, ?_, h.ld, m1.below (Nat.le_refl _) b4, ⟨m2, m3, m4⟩, h.bl, by omega, fun X hX => HAO.out X (by omega), fun X hX k off hne e => ?_⟩
    · rw [← hw4]; exact Box5.made rfl _ _ _ _ _ _
    · have q1 := mf k off hne e
      have q2 := holds_ne m1 (Nat.le_refl _) k off hne e
      omega
  have HB4 : Hid (w3.alloc (.cells #[.slice al L.holds.length cl, .int .i64 L.m0, .int .i64 L.m1, .int .i64 L.m2, .int .i64 L.m3] 25) = w4) := hw4
  have HFR : Hid (Fresh w2.heap.size al L.holds) := mf
  have HS2 : Hid (w.heap.size + 1 < w2.heap.size) := H0.out.zx.lt
  have HSB : Hid (w.heap.size + 1 < w3.heap.size) := by have := HS2.out; have := b3.size; show _ < _; omega
  clear a0 a1 a2 a3 a4 a5 a6 a7 a8 af a9
  clear m1 m2 m3 m4 mf b3 b4 hw4
  unfold lgV
  go_wp2_with (with_reducible refine Hid.out (p := wpList _ _ _ ({ dst := _, op := Op.load 25 _, type := _, pos := _, after := _, guard := _ } :: _) _ _) ?_)
  rw [HB4.out]
  show wpList _ _ _ _ _ w4
  obtain ⟨a0, a1, a2, a3, a4, a5, a6, a7, a8, af, a9⟩ := H1.out.bx
  obtain ⟨l0, l1, l2, l3, l4, lf, l9⟩ := H1.out.lx
  have y1 := HSB.out
  have y2 : ¬ w3.heap.size = w.heap.size := by omega
  have y3 : ¬ w.heap.size = w3.heap.size := by omega
  clear y1
  go_wp2_with (with_reducible refine Hid.out (p := wpList _ _ _ ({ dst := _, op := Op.load 26 _, type := _, pos := _, after := _, guard := _ } :: _) _ _) ?_)
  obtain ⟨w7, hw7⟩ : ∃ w7, set5 w4 w.heap.size L al cl = w7 := ⟨_, rfl⟩
  show wpList _ _ _ _ _ (set5 w4 w.heap.size L al cl)
  rw [hw7]
  have H3 : Hid (BackAt w w7 w.heap.size w3.heap.size { W with lg := L } { A with ho := al, hc := cl } L al cl) := by rw [← hw7]; exact H1.out.put
  clear a0 a1 a2 a3 a4 a5 a6 a7 a8 af a9
  clear l0 l1 l2 l3 l4 lf l9
  clear hw7
  have X3 := H3.out.bx
  unfold WBox at X3
  dsimp only at X3
  obtain ⟨a0, a1, a2, a3, a4, a5, a6, a7, a8, af, a9⟩ := X3
  obtain ⟨qb, qo, hg, gl, gc⟩ := H3.out.ld.q.lies 0 (by rw [HQ.out]; simp)
  have hg' : A.qa = some ⟨qb, qo, none⟩ := hg
  have gc' : w7.cell? ⟨qb, qo, none⟩ = some (.int .i64 q) := by
    have e : (W.queue)[0]'(by rw [HQ.out]; simp) = q := by simp [HQ.out]
    rw [← e]; exact gc
  have HG : Hid (A.qa = some ⟨qb, qo, none⟩) := hg'
  rw [hg'] at a7
  clear hg gc hg'
  obtain ⟨l0, l1, l2, l3, l4, lf, l9⟩ := H3.out.lx
  go_wp2_with fail
  refine (HTK.out al cl w7 ⟨al, cl, rfl, H3.out.hl, H3.out.hk⟩).mono ?_
  rintro e w8 ⟨v', rfl, n8, b8⟩
  obtain ⟨am, cm, rfl, m1, m2, m3, m4, mf⟩ := n8
  have K8 := H3.out.keep b8
  have HS7 : Hid (w3.heap.size < w7.heap.size) := H3.out.lx.lt
  have HFM : Hid (Fresh w7.heap.size am M.holds) := mf
  have H4 : Hid (BackAt w (set5 w8 w3.heap.size M am cm) w.heap.size w3.heap.size { W with lg := L } { A with ho := al, hc := cl } M am cm) := K8.setl m1 ⟨m2, m3, m4⟩ (fun X hX k off hne e => by have := mf k off hne e; have := HS7.out; have := HSB.out; omega)
  have HS8 : Hid (w7.heap.size ≤ w8.heap.size) := b8.size
  clear a0 a1 a2 a3 a4 a5 a6 a7 a8 af a9
  clear l0 l1 l2 l3 l4 lf l9
  clear gc' gl m1 m2 m3 m4 mf b8
  obtain ⟨l0, l1, l2, l3, l4, lf, l9⟩ := K8.lx
  clear K8
  unfold lgV
  go_wp2_with fail
  obtain ⟨w9, hw9⟩ : ∃ w9, set5 w8 w3.heap.size M am cm = w9 := ⟨_, rfl⟩
  show Code.wp _ _ _ _ (set5 w8 w3.heap.size M am cm)
  rw [hw9]
  rw [hw9] at H4
  have HS9 : Hid (w7.heap.size ≤ w9.heap.size) := by rw [← hw9, set5_size]; exact HS8.out
  clear l0 l1 l2 l3 l4 lf l9
  clear hw9
  have X4 := H4.out.bx
  unfold WBox at X4
  dsimp only at X4
  have HX4 : Hid (Box9 _ _ _ _ _ _ _ _ _ _ _) := X4
  have KQ : Cap A.qa W.queue.length A.qc := H4.out.ld.qk
  have c1 : (1 : Int) ≤ (W.queue.length : Int) := by omega
  have c2 : 1 ≤ W.queue.length := by omega
  have c3 : W.queue.length ≤ A.qc := KQ.2.1
  have c4 : 1 ≤ A.qc := by omega
  have c5 := KQ.2.2
  unfold maxLen at c5
  clear KQ
  have HIQ : Hid (IntsAt w9 (some ⟨qb, qo, none⟩) W.queue) := by have h : IntsAt w9 A.qa W.queue := H4.out.ld.q; rw [HG.out] at h; exact h
  have HTL : Hid (icells t = icells (W.queue.drop (0 + 1))) := by show _ = _; rw [HQ.out]; rfl
  have HLT : Hid ((icells t).length = (W.queue.length - 1) * 1) := by show _ = _; rw [icells_length, HQ.out]; simp
  have HFQ : Hid ((W.queue.length + 1) * 8 ≤ 140737488355328) := HF.out.q
  have hfq := HFQ.out
  have OE : (w9.drew.alloc (.cells #[] 3)).ownsRow w9.heap.size 3 1 (.slice (some ⟨w9.heap.size, 0, none⟩) 0 0) 0 [] := World.ownsRow_lit (base := w9.heap.size) (e := 3) (size := 1) w9.drew #[] 0 (Nat.le_refl _) (by unfold maxLen; omega) rfl
  have bE : Below w9.heap.size w9 (w9.drew.alloc (.cells #[] 3)) := (Below.refl _ _).drew.alloc (Nat.le_refl _) _
  have HNE : Hid (∀ ad, (if A.qc = 0 + 1 then some (⟨qb, qo, none⟩ : Addr) else some ⟨qb, qo + (0 + 1), none⟩) = some ad → ∀ j u, (icells t)[j]? = some u → (w9.drew.alloc (.cells #[] 3)).cell? (ad.add j) = some u) := by
    show ∀ ad, _
    rw [HTL.out]
    exact (tailO (HIQ.out.below (Nat.le_refl _) bE) c3 (by omega)).news
  simp only [Nat.zero_add] at HNE
  rw [HG.out] at X4
  obtain ⟨a0, a1, a2, a3, a4, a5, a6, a7, a8, af, a9⟩ := X4
  obtain ⟨l0, l1, l2, l3, l4, lf, l9⟩ := H4.out.lx
  have y1 := HSB.out
  have y2 : ¬ w3.heap.size = w.heap.size := by omega
  have y3 : ¬ w.heap.size = w3.heap.size := by omega
  go_region_law (refine step_app rfl (.tmp 42) (.tmp 45) 26 rfl w9.heap.size 3 i3 _ 1 8 Try.underlying26 hi3 hz3 hs3 hb3 rfl (by decide) (some ⟨w9.heap.size, 0, none⟩) 0 0 [] rfl OE (if A.qc = 1 then some ⟨qb, qo, none⟩ else some ⟨qb, qo + 1, none⟩) (W.queue.length - 1) (A.qc - 1) (icells t) rfl (by intro e; split at e <;> cases e) HLT.out HNE.out (icells_one _) (W.queue.length - 1) (by omega) (by unfold maxLen; omega) (by omega) (by simp) ?_; intro ao1 c1' w10 own10 gr10; have b10 : Below w9.heap.size w9 w10 := bE.grown gr10 (by simp) (fun j hj => by have e : w9.heap.size = j := Option.some.inj hj; omega); obtain ⟨d0, d1, d2, d3, d4, d5, d6, d7, d8, df, d9⟩ := Box9.keep HX4.out b10; obtain ⟨g0, g1, g2, g3, g4, gf, g9⟩ := H4.out.lx.keep b10)
  all_goals
    clear d0 d1 d2 d3 d4 d5 d6 d7 d8 df d9 g0 g1 g2 g3 g4 gf g9
    generalize (if A.qc = 1 then some (⟨qb, qo, none⟩ : Addr) else some ⟨qb, qo + 1, none⟩) = gg
    have HQ1 : Hid (W.queue.length - 1 = t.length) := by show _ = _; rw [HQ.out]; simp
    have own10' : w10.ownsRow w9.heap.size 3 1 (.slice ao1 t.length c1') t.length (icells t) := by rw [← HQ1.out]; exact own10
    have HL10 : Hid (WdLies w10 { W with lg := M, queue := t } { A with ho := am, hc := cm, qa := ao1, qc := c1' }) := { H4.out.ld.below (Nat.le_refl _) b10 with h := H4.out.hl.below (Nat.le_refl _) b10, hk := H4.out.hk, q := intsAt_of_owns own10' rfl (by unfold maxLen; rw [← HQ1.out]; omega), qk := cap_of_owns own10' }
    have HOX : Hid (∀ X, X < w7.heap.size → Off W A X → Off { W with lg := M, queue := t } { A with ho := am, hc := cm, qa := ao1, qc := c1' } X) := fun X hX ho => { ho with h := fun k off hne e => by have := HFM.out k off hne e; omega, q := fun k off _ e => by have e' : ao1 = some ⟨k, off, none⟩ := e; subst e'; have := (own10.lt k rfl).1; have := HS9.out; omega }
    obtain ⟨w11, hw11⟩ : ∃ w11, (set5 w10 w.heap.size M am cm).setCell ⟨w.heap.size, 7, none⟩ (.slice ao1 (W.queue.length - 1) c1') = w11 := ⟨_, rfl⟩
    have HB11 : Hid (Box9 w11 w.heap.size (.slice am M.holds.length cm) (.int .i64 M.m0) (.int .i64 M.m1) (.int .i64 M.m2) (.int .i64 M.m3) (.slice A.ga W.gates.length A.gc) (.slice A.fa W.failed.length A.fc) (.slice ao1 (W.queue.length - 1) c1') (.slice A.ma W.marks.length A.mc)) := by rw [← hw11]; exact Box9.put7 (Box9.set5 (Box9.keep HX4.out b10) _ _ _) _
    have HZ11 : Hid (ZBox w11 (w.heap.size + 1)) := by rw [← hw11]; exact Box9.far1 (Box9.far5 (Box9.keep H4.out.zx b10) (by omega) _ _ _) (by omega) _
    have O0 := HOX.out w.heap.size (by have := HS7.out; omega) (HAO.out _ (Nat.le_refl _))
    have HO1 : Hid (Off { W with lg := M, queue := t } { A with ho := am, hc := cm, qa := ao1, qc := c1' } (w.heap.size + 1)) := HOX.out (w.heap.size + 1) (by have := HS7.out; omega) (HAO.out _ (by omega))
    have HL11 : Hid (WdLies w11 { W with lg := M, queue := t } { A with ho := am, hc := cm, qa := ao1, qc := c1' }) := by rw [← hw11]; exact (HL10.out.far (by rw [set5_size]; exact Nat.le_refl _) (fun k j hk => set5_far hk) O0).far (by simp) (fun k j hk => setCell_far _ _ _ _ _ _ hk) O0
    have HBL : Hid (Below w.heap.size w w11) := by rw [← hw11]; exact (set5_below' (H4.out.bl.trans (b10.mono (Nat.le_of_lt H4.out.bx.lt))) (Nat.le_refl _)).setCell (Nat.le_refl _) _
    unfold set5 at hw11
    rw [hw11]
    clear a0 a1 a2 a3 a4 a5 a6 a7 a8 af a9
    clear l0 l1 l2 l3 l4 lf l9
    clear hw11 O0 own10' own10 gr10 b10 OE bE HNE hfq c1 c2 c3 c4 c5 y1 y2 y3
    obtain ⟨a0, a1, a2, a3, a4, a5, a6, a7, a8, af, a9⟩ := HB11.out
    obtain ⟨z0, z1, z2, z3, z4, z5, z6, z7, z8, zf, z9⟩ := HZ11.out
    go_wp2
    exact bodyPost_ret (v := .tuple #[.agg #[.slice am M.holds.length cm, .int .i64 M.m0, .int .i64 M.m1, .int .i64 M.m2, .int .i64 M.m3, .slice A.ga W.gates.length A.gc, .slice A.fa W.failed.length A.fc, .slice ao1 (W.queue.length - 1) c1', .slice A.ma W.marks.length A.mc], .int .i64 q, .int .i64 0]) (by simp [results, Try.results11, go_sem, z0, z1, z2, z3, z4, z5, z6, z7, z8]) rfl ⟨{ A with ho := am, hc := cm, qa := ao1, qc := c1' }, by rw [HQ1.out], Wd.far9 HL11.out HO1.out, fun X hX ho => HOX.out X (by have := HS7.out; have := HSB.out; omega) ho, set9_below HBL.out (by omega)⟩

/-- What the document's own Back comes to, in any world. -/
theorem rback_any (W : Wd) (A : Ad) (id : Int) (w : World) (ha : WdLies w W A) (hf : Fits W) :
    Calls Try.prog 11 #[wdV W A, .int .i64 id] w fun e w' => ∃ A', e = .returned (.tuple #[wdV (backR W id) A', .int .i64 (backN W id), .int .i64 (giveE W.lg id 2)]) ∧ WdLies w' (backR W id) A' ∧ (∀ X, X < w.heap.size → Off W A X → Off (backR W id) A' X) ∧ Below w.heap.size w w' := by
  have hgv := fun w' hl => rgive_any W.lg (lgV W.lg A.ho A.hc) id 2 w' hl (by have := hf.h; omega)
  have h24 : ((giveR W.lg id 2).holds.length + 1) * 24 ≤ 140737488355328 := by
    have h := giveR_len W.lg id 2
    have := hf.h
    omega
  have htk := fun (q : Int) ao c w' hl => rtake_any (giveR W.lg id 2) (lgV (giveR W.lg id 2) ao c) q 2 (-1) w' hl h24
  unfold backR backN
  by_cases he : giveE W.lg id 2 = 0
  · rw [if_pos he, if_pos he]
    rw [he] at hgv ⊢
    cases hq : W.queue with
    | nil =>
      have e : ({ W with lg := giveR W.lg id 2, queue := [] } : Wd) = { W with lg := giveR W.lg id 2 } := by rw [← hq]
      rw [e]
      exact rback_empty W A id _ w ha hgv (by rw [hq]; rfl)
    | cons q t =>
      have e : ({ W with lg := giveR W.lg id 2, queue := q :: t } : Wd) = { W with lg := giveR W.lg id 2 } := by rw [← hq]
      rcases takeE_two (giveR W.lg id 2) with ht | ht
      · simp only [ht, if_true]
        simp only [ht] at htk
        exact rback_next W A id _ w ha _ q t hf hgv (htk q) hq
      · have hn : ¬ takeE (giveR W.lg id 2) 2 = 0 := by rw [ht]; omega
        simp only [if_neg hn]
        simp only [ht] at htk
        rw [e]
        exact rback_full W A id _ w ha _ q t hgv (htk q) hq
  · have h6 : giveE W.lg id 2 = 6 := by
      unfold giveE at he ⊢
      split
      · rfl
      · rw [if_neg (by assumption)] at he; exact absurd rfl he
    rw [if_neg he, if_neg he]
    rw [h6] at hgv ⊢
    exact rback_none W A id _ w ha hgv
end Go.Proofs.Ytnhndieoaceofaa
