/- A world of one's own: pool.Own. -/
import Derived.Test.YtnhndieoaceofaaPoolC
namespace Go.Proofs.Ytnhndieoaceofaa
open Go.RowKit

theorem Try.info3 : (Try.prog.info? 3).map (fun i => (i.zero, i.size, i.bytes)) = some (some (.int .i64 0), 1, 8) := by kernel_rfl
theorem Try.info43 : (Try.prog.info? 43).map (fun i => (i.zero, i.size, i.bytes)) = some (some (.agg #[.int .i64 0, .int .i64 0, .int .i64 0]), 3, 24) := by kernel_rfl

theorem Box9.put5 {W : World} {b : Nat} {v0 v1 v2 v3 v4 v5 v6 v7 v8 : Value} (h : Box9 W b v0 v1 v2 v3 v4 v5 v6 v7 v8) (u : Value) : Box9 (W.setCell ⟨b, 5, none⟩ u) b v0 v1 v2 v3 v4 u v6 v7 v8 := by
  obtain ⟨c0, c1, c2, c3, c4, c5, c6, c7, c8, fz, lt⟩ := h
  refine ⟨?_, ?_, ?_, ?_, ?_, ?_, ?_, ?_, ?_, fun j => by simpa using fz j, by simpa using lt⟩ <;> simp [go_sem, c0, c1, c2, c3, c4, c5, c6, c7, c8]
theorem Box9.put6 {W : World} {b : Nat} {v0 v1 v2 v3 v4 v5 v6 v7 v8 : Value} (h : Box9 W b v0 v1 v2 v3 v4 v5 v6 v7 v8) (u : Value) : Box9 (W.setCell ⟨b, 6, none⟩ u) b v0 v1 v2 v3 v4 v5 u v7 v8 := by
  obtain ⟨c0, c1, c2, c3, c4, c5, c6, c7, c8, fz, lt⟩ := h
  refine ⟨?_, ?_, ?_, ?_, ?_, ?_, ?_, ?_, ?_, fun j => by simpa using fz j, by simpa using lt⟩ <;> simp [go_sem, c0, c1, c2, c3, c4, c5, c6, c7, c8]
theorem Box9.put7 {W : World} {b : Nat} {v0 v1 v2 v3 v4 v5 v6 v7 v8 : Value} (h : Box9 W b v0 v1 v2 v3 v4 v5 v6 v7 v8) (u : Value) : Box9 (W.setCell ⟨b, 7, none⟩ u) b v0 v1 v2 v3 v4 v5 v6 u v8 := by
  obtain ⟨c0, c1, c2, c3, c4, c5, c6, c7, c8, fz, lt⟩ := h
  refine ⟨?_, ?_, ?_, ?_, ?_, ?_, ?_, ?_, ?_, fun j => by simpa using fz j, by simpa using lt⟩ <;> simp [go_sem, c0, c1, c2, c3, c4, c5, c6, c7, c8]
theorem Box9.put8 {W : World} {b : Nat} {v0 v1 v2 v3 v4 v5 v6 v7 v8 : Value} (h : Box9 W b v0 v1 v2 v3 v4 v5 v6 v7 v8) (u : Value) : Box9 (W.setCell ⟨b, 8, none⟩ u) b v0 v1 v2 v3 v4 v5 v6 v7 u := by
  obtain ⟨c0, c1, c2, c3, c4, c5, c6, c7, c8, fz, lt⟩ := h
  refine ⟨?_, ?_, ?_, ?_, ?_, ?_, ?_, ?_, ?_, fun j => by simpa using fz j, by simpa using lt⟩ <;> simp [go_sem, c0, c1, c2, c3, c4, c5, c6, c7, c8]
theorem Box9.far1 {W : World} {b X i : Nat} {v0 v1 v2 v3 v4 v5 v6 v7 v8 : Value} (h : Box9 W b v0 v1 v2 v3 v4 v5 v6 v7 v8) (hb : b ≠ X) (u : Value) : Box9 (W.setCell ⟨X, i, none⟩ u) b v0 v1 v2 v3 v4 v5 v6 v7 v8 := by
  obtain ⟨c0, c1, c2, c3, c4, c5, c6, c7, c8, fz, lt⟩ := h
  have e := fun j => setCell_far W X i b j u hb
  exact ⟨by rw [e]; exact c0, by rw [e]; exact c1, by rw [e]; exact c2, by rw [e]; exact c3, by rw [e]; exact c4, by rw [e]; exact c5, by rw [e]; exact c6, by rw [e]; exact c7, by rw [e]; exact c8, fun j => by simpa using fz j, by simpa using lt⟩
theorem Box9.set5 {W : World} {b : Nat} {v0 v1 v2 v3 v4 v5 v6 v7 v8 : Value} (h : Box9 W b v0 v1 v2 v3 v4 v5 v6 v7 v8) (l : Lg) (ao : Option Addr) (c : Nat) : Box9 (set5 W b l ao c) b (.slice ao l.holds.length c) (.int .i64 l.m0) (.int .i64 l.m1) (.int .i64 l.m2) (.int .i64 l.m3) v5 v6 v7 v8 := by
  obtain ⟨c0, c1, c2, c3, c4, c5, c6, c7, c8, fz, lt⟩ := h
  refine ⟨?_, ?_, ?_, ?_, ?_, ?_, ?_, ?_, ?_, fun j => by rw [set5_frozen]; exact fz j, by rw [set5_size]; exact lt⟩ <;> unfold Ytnhndieoaceofaa.set5 <;> simp [go_sem, c0, c1, c2, c3, c4, c5, c6, c7, c8]
theorem Box9.far5 {W : World} {b X : Nat} {v0 v1 v2 v3 v4 v5 v6 v7 v8 : Value} (h : Box9 W b v0 v1 v2 v3 v4 v5 v6 v7 v8) (hb : b ≠ X) (l : Lg) (ao : Option Addr) (c : Nat) : Box9 (Ytnhndieoaceofaa.set5 W X l ao c) b v0 v1 v2 v3 v4 v5 v6 v7 v8 := by
  obtain ⟨c0, c1, c2, c3, c4, c5, c6, c7, c8, fz, lt⟩ := h
  have e := fun j => set5_far (W := W) (b := X) (k := b) (j := j) (l := l) (ao := ao) (c := c) hb
  exact ⟨by rw [e]; exact c0, by rw [e]; exact c1, by rw [e]; exact c2, by rw [e]; exact c3, by rw [e]; exact c4, by rw [e]; exact c5, by rw [e]; exact c6, by rw [e]; exact c7, by rw [e]; exact c8, fun j => by rw [set5_frozen]; exact fz j, by rw [set5_size]; exact lt⟩

theorem set5_below' {B : Nat} {w W : World} {X : Nat} {N : Lg} {aN : Option Addr} {cN : Nat} (hb : Below B w W) (hx : B ≤ X) : Below B w (set5 W X N aN cN) := by
  unfold set5
  iterate 5 (refine Below.setCell ?_ hx _)
  exact hb
/-- A world in its box, as it lies. -/
def WBox (wr : World) (b : Nat) (W : Wd) (A : Ad) : Prop := Box9 wr b (.slice A.ho W.lg.holds.length A.hc) (.int .i64 W.lg.m0) (.int .i64 W.lg.m1) (.int .i64 W.lg.m2) (.int .i64 W.lg.m3) (.slice A.ga W.gates.length A.gc) (.slice A.fa W.failed.length A.fc) (.slice A.qa W.queue.length A.qc) (.slice A.ma W.marks.length A.mc)
def ZBox (wr : World) (b : Nat) : Prop := Box9 wr b (.slice none 0 0) (.int .i64 0) (.int .i64 0) (.int .i64 0) (.int .i64 0) (.slice none 0 0) (.slice none 0 0) (.slice none 0 0) (.slice none 0 0)
/-- Between two lists that are written anew. -/
structure OwnAt (w wr : World) (W : Wd) (A : Ad) (b : Nat) : Prop where
  bx : WBox wr b W A
  zx : ZBox wr (b + 1)
  ld : WdLies wr W A
  o0 : Off W A b
  o1 : Off W A (b + 1)
  bl : Below b w wr
theorem fresh_ne {w : World} {base n c X size : Nat} {e : TypeId} {ao : Option Addr} {xs : List Value} (h : w.ownsRow base e size (.slice ao n c) n xs) (hX : X < base) {p : Prop} : ∀ k off, p → ao = some ⟨k, off, none⟩ → k ≠ X := by
  intro k off _ e
  subst e
  have := (h.lt k rfl).1
  omega
theorem OwnAt.gates {w wr wr' : World} {W : Wd} {A : Ad} {b c : Nat} {ao : Option Addr} (h : OwnAt w wr W A b) (hg : wr.grownBy wr' none) (ho : wr'.ownsRow (b + 2) 3 1 (.slice ao W.gates.length c) W.gates.length (icells W.gates)) : OwnAt w (wr'.setCell ⟨b, 5, none⟩ (.slice ao W.gates.length c)) W { A with ga := ao, gc := c } b := by
  have hb : Below wr.heap.size wr wr' := (Below.refl _ _).grown hg (Nat.le_refl _) (fun k hk => by cases hk)
  have ld := h.ld.below (Nat.le_refl _) hb
  have o0 : Off W { A with ga := ao, gc := c } b := { h.o0 with g := fresh_ne ho (by omega) }
  have o1 : Off W { A with ga := ao, gc := c } (b + 1) := { h.o1 with g := fresh_ne ho (by omega) }
  have ld' : WdLies wr' W { A with ga := ao, gc := c } := { ld with g := intsAt_of_owns ho rfl h.ld.g.small, gk := cap_of_owns ho }
  have bx : WBox wr' b W A := Box9.keep h.bx hb
  exact ⟨Box9.put5 bx _, Box9.far1 (Box9.keep h.zx hb) (by omega) _, ld'.far (by simp) (fun k j hk => setCell_far _ _ _ _ _ _ hk) o0, o0, o1, (h.bl.trans (hb.mono (Nat.le_of_lt h.bx.lt))).setCell (Nat.le_refl _) _⟩
theorem OwnAt.failed {w wr wr' : World} {W : Wd} {A : Ad} {b c : Nat} {ao : Option Addr} (h : OwnAt w wr W A b) (hg : wr.grownBy wr' none) (ho : wr'.ownsRow (b + 2) 3 1 (.slice ao W.failed.length c) W.failed.length (icells W.failed)) : OwnAt w (wr'.setCell ⟨b, 6, none⟩ (.slice ao W.failed.length c)) W { A with fa := ao, fc := c } b := by
  have hb : Below wr.heap.size wr wr' := (Below.refl _ _).grown hg (Nat.le_refl _) (fun k hk => by cases hk)
  have ld := h.ld.below (Nat.le_refl _) hb
  have o0 : Off W { A with fa := ao, fc := c } b := { h.o0 with f := fresh_ne ho (by omega) }
  have o1 : Off W { A with fa := ao, fc := c } (b + 1) := { h.o1 with f := fresh_ne ho (by omega) }
  have ld' : WdLies wr' W { A with fa := ao, fc := c } := { ld with f := intsAt_of_owns ho rfl h.ld.f.small, fk := cap_of_owns ho }
  have bx : WBox wr' b W A := Box9.keep h.bx hb
  exact ⟨Box9.put6 bx _, Box9.far1 (Box9.keep h.zx hb) (by omega) _, ld'.far (by simp) (fun k j hk => setCell_far _ _ _ _ _ _ hk) o0, o0, o1, (h.bl.trans (hb.mono (Nat.le_of_lt h.bx.lt))).setCell (Nat.le_refl _) _⟩
theorem OwnAt.queue {w wr wr' : World} {W : Wd} {A : Ad} {b c : Nat} {ao : Option Addr} (h : OwnAt w wr W A b) (hg : wr.grownBy wr' none) (ho : wr'.ownsRow (b + 2) 3 1 (.slice ao W.queue.length c) W.queue.length (icells W.queue)) : OwnAt w (wr'.setCell ⟨b, 7, none⟩ (.slice ao W.queue.length c)) W { A with qa := ao, qc := c } b := by
  have hb : Below wr.heap.size wr wr' := (Below.refl _ _).grown hg (Nat.le_refl _) (fun k hk => by cases hk)
  have ld := h.ld.below (Nat.le_refl _) hb
  have o0 : Off W { A with qa := ao, qc := c } b := { h.o0 with q := fresh_ne ho (by omega) }
  have o1 : Off W { A with qa := ao, qc := c } (b + 1) := { h.o1 with q := fresh_ne ho (by omega) }
  have ld' : WdLies wr' W { A with qa := ao, qc := c } := { ld with q := intsAt_of_owns ho rfl h.ld.q.small, qk := cap_of_owns ho }
  have bx : WBox wr' b W A := Box9.keep h.bx hb
  exact ⟨Box9.put7 bx _, Box9.far1 (Box9.keep h.zx hb) (by omega) _, ld'.far (by simp) (fun k j hk => setCell_far _ _ _ _ _ _ hk) o0, o0, o1, (h.bl.trans (hb.mono (Nat.le_of_lt h.bx.lt))).setCell (Nat.le_refl _) _⟩
theorem OwnAt.marks {w wr wr' : World} {W : Wd} {A : Ad} {b c : Nat} {ao : Option Addr} (h : OwnAt w wr W A b) (hg : wr.grownBy wr' none) (ho : wr'.ownsRow (b + 2) 43 3 (.slice ao W.marks.length c) W.marks.length (hocells W.marks)) : OwnAt w (wr'.setCell ⟨b, 8, none⟩ (.slice ao W.marks.length c)) W { A with ma := ao, mc := c } b := by
  have hb : Below wr.heap.size wr wr' := (Below.refl _ _).grown hg (Nat.le_refl _) (fun k hk => by cases hk)
  have ld := h.ld.below (Nat.le_refl _) hb
  have o0 : Off W { A with ma := ao, mc := c } b := { h.o0 with m := fresh_ne ho (by omega) }
  have o1 : Off W { A with ma := ao, mc := c } (b + 1) := { h.o1 with m := fresh_ne ho (by omega) }
  have ld' : WdLies wr' W { A with ma := ao, mc := c } := { ld with m := marksAt_of_owns ho rfl h.ld.m.small, kk := cap_of_owns ho }
  have bx : WBox wr' b W A := Box9.keep h.bx hb
  exact ⟨Box9.put8 bx _, Box9.far1 (Box9.keep h.zx hb) (by omega) _, ld'.far (by simp) (fun k j hk => setCell_far _ _ _ _ _ _ hk) o0, o0, o1, (h.bl.trans (hb.mono (Nat.le_of_lt h.bx.lt))).setCell (Nat.le_refl _) _⟩
theorem OwnAt.ledger {w wr wr' : World} {W : Wd} {A : Ad} {b c : Nat} {ao : Option Addr} (h : OwnAt w wr W A b) (hb : Below wr.heap.size wr wr') (h1 : HoldsAt wr' ao W.lg.holds) (h2 : Cap ao W.lg.holds.length c) (hf : Fresh (b + 2) ao W.lg.holds) : OwnAt w (set5 wr' b W.lg ao c) W { A with ho := ao, hc := c } b := by
  have ld := h.ld.below (Nat.le_refl _) hb
  have o0 : Off W { A with ho := ao, hc := c } b := { h.o0 with h := fun k off hne e => by have := hf k off hne e; omega }
  have o1 : Off W { A with ho := ao, hc := c } (b + 1) := { h.o1 with h := fun k off hne e => by have := hf k off hne e; omega }
  have ld' : WdLies wr' W { A with ho := ao, hc := c } := { ld with h := h1, hk := h2 }
  have bx : WBox wr' b W A := Box9.keep h.bx hb
  exact ⟨Box9.set5 bx _ _ _, Box9.far5 (Box9.keep h.zx hb) (by omega) _ _ _, ld'.far (by rw [set5_size]; exact Nat.le_refl _) (fun k j hk => set5_far hk) o0, o0, o1, set5_below' (h.bl.trans (hb.mono (Nat.le_of_lt h.bx.lt))) (Nat.le_refl _)⟩
theorem Wd.far9 {wr : World} {W : Wd} {A : Ad} {X : Nat} {v0 v1 v2 v3 v4 v5 v6 v7 v8 : Value} (h : WdLies wr W A) (ho : Off W A X) : WdLies (set9 wr X v0 v1 v2 v3 v4 v5 v6 v7 v8) W A :=
  h.far (by rw [set9_size]; exact Nat.le_refl _) (fun k j hk => set9_far hk) ho
theorem owns_set9 {w : World} {base b n : Nat} {e : TypeId} {size : Nat} {v : Value} {xs : List Value} (h : w.ownsRow base e size v n xs) (hb : b < base) (v0 v1 v2 v3 v4 v5 v6 v7 v8 : Value) : (set9 w b v0 v1 v2 v3 v4 v5 v6 v7 v8).ownsRow base e size v n xs := by
  unfold set9
  iterate 9 (refine ownsRow_setCell_below ?_ hb _)
  exact h
/-- No other list of it lies where those lie that wait. -/
def Alone (W : Wd) (A : Ad) : Prop := ∀ k off, A.qa = some ⟨k, off, none⟩ → Off { W with queue := [] } A k
theorem owns_keep {w w' : World} {base n size : Nat} {e : TypeId} {v : Value} {xs : List Value} (h : w.ownsRow base e size v n xs) (hg : w.grownBy w' none) : w'.ownsRow base e size v n xs :=
  h.kept hg (by cases v.ownBlock with | none => exact .inl rfl | some k => exact .inr (by simp))

set_option maxRecDepth 100000 in
set_option maxHeartbeats 4000000 in
theorem pown_any (W : Wd) (A : Ad) (w : World) (ha : WdLies w W A) (hf : Fits W) :
    Calls Try.prog 7 #[wdV W A] w fun e w' => ∃ A', e = .returned (wdV W A') ∧ WdLies w' W A' ∧ (∀ X, X < w.heap.size → Off W A' X) ∧ w'.ownsRow w.heap.size 3 1 (.slice A'.qa W.queue.length A'.qc) W.queue.length (icells W.queue) ∧ Alone W A' ∧ Below w.heap.size w w' := by
  obtain ⟨i3, hi3, hz3, hs3, hb3⟩ := info_parts Try.info3
  obtain ⟨i43, hi43, hz43, hs43, hb43⟩ := info_parts Try.info43
  obtain ⟨w2, hw2⟩ : ∃ w2, (w.alloc (.cells #[.slice A.ho W.lg.holds.length A.hc, .int .i64 W.lg.m0, .int .i64 W.lg.m1, .int .i64 W.lg.m2, .int .i64 W.lg.m3, .slice A.ga W.gates.length A.gc, .slice A.fa W.failed.length A.fc, .slice A.qa W.queue.length A.qc, .slice A.ma W.marks.length A.mc] 29)).alloc (.cells #[.slice none 0 0, .int .i64 0, .int .i64 0, .int .i64 0, .int .i64 0, .slice none 0 0, .slice none 0 0, .slice none 0 0, .slice none 0 0] 29) = w2 := ⟨_, rfl⟩
  have hbel : Below w.heap.size w w2 := by rw [← hw2]; exact ((Below.refl _ _).alloc (Nat.le_refl _) _).alloc (by simp) _
  have hsz : w2.heap.size = w.heap.size + 2 := by rw [← hw2]; simp
  have H0 : Hid (OwnAt w w2 W A w.heap.size) := by
    refine ⟨?_, ?_, ha.below (Nat.le_refl _) hbel, ha.off (Nat.le_refl _), ha.off (by omega), hbel⟩
    · rw [← hw2]; exact (Box9.made _ _ _ _ _ _ _ _ _ _ _).keep (bel_alloc _ _)
    · rw [← hw2]; exact Box9.made' (by simp) _ _ _ _ _ _ _ _ _ _
  have HF : Hid (Fits W) := hf
  have HW : Hid (_ = w2) := hw2
  have HZ : Hid (w2.heap.size = w.heap.size + 2) := hsz
  clear ha hf hbel hw2 hsz
  unfold wdV
  obtain ⟨a0, a1, a2, a3, a4, a5, a6, a7, a8, _, a9⟩ := H0.out.bx
  go_enter Try.func7, Try.ntmps7
  go_wp2_with fail
  rw [HW.out]
  refine (own_any W.lg _ w2 H0.out.ld.lg (by have := HF.out.h; omega)).mono ?_
  rintro e w3 ⟨v', rfl, n1, b1⟩
  obtain ⟨ho1, hc1, rfl, m1, m2, m3, m4, mf⟩ := n1
  rw [HZ.out] at mf
  have H1 : Hid (OwnAt w (set5 w3 w.heap.size W.lg ho1 hc1) W { A with ho := ho1, hc := hc1 } w.heap.size) := H0.out.ledger b1 m1 ⟨m2, m3, m4⟩ mf
  have HF1 : Hid (Fresh (w.heap.size + 2) ho1 W.lg.holds) := mf
  have HS1 : Hid (w.heap.size + 2 ≤ w3.heap.size) := by have := b1.size; rw [HZ.out] at this; exact this
  clear a0 a1 a2 a3 a4 a5 a6 a7 a8 a9
  obtain ⟨a0, a1, a2, a3, a4, a5, a6, a7, a8, af, a9⟩ := Box9.keep H0.out.bx b1
  clear m1 m2 m3 m4 mf b1
  unfold lgV
  go_wp2_with (at_builtin; refine Hid.out ?_)
  obtain ⟨w4, hw4⟩ : ∃ w4, set5 w3 w.heap.size W.lg ho1 hc1 = w4 := ⟨_, rfl⟩
  have HS4 : Hid (w.heap.size + 2 ≤ w4.heap.size) := by rw [← hw4, set5_size]; exact HS1.out
  show wpList _ _ _ _ _ (set5 w3 w.heap.size W.lg ho1 hc1)
  rw [hw4]
  rw [hw4] at H1
  clear hw4 a0 a1 a2 a3 a4 a5 a6 a7 a8 af a9
  refine wpList_app_nil rfl (.const (.slice none 0 0)) (.tmp 8) 26 rfl (w.heap.size + 2) 3 i3 _ 1 8 Try.underlying26 hi3 hz3 hs3 hb3 rfl (by decide) rfl A.ga W.gates.length A.gc (icells W.gates) rfl (fun e => ⟨ints_zero H1.out.ld.g e, H1.out.ld.gk.1 e⟩) (icells_length _) H1.out.ld.g.news (icells_one _) H1.out.ld.g.small HF.out.g HS4.out ?_
  intro ga1 gc1 w5 own5 gr5
  have H2 : Hid (OwnAt _ _ _ _ _) := H1.out.gates gr5 own5
  have HN5 : Hid (∀ k off, ga1 = some ⟨k, off, none⟩ → w.heap.size + 2 ≤ k) := fun k off e => by subst e; exact (own5.lt k rfl).1
  have HS5 : Hid (w.heap.size + 2 ≤ w5.heap.size) := Nat.le_trans HS4.out gr5.size
  have bx := Box9.keep H1.out.bx ((Below.refl w4.heap.size w4).grown gr5 (Nat.le_refl _) (fun k hk => by cases hk))
  dsimp only at bx
  obtain ⟨a0, a1, a2, a3, a4, a5, a6, a7, a8, af, a9⟩ := bx
  go_wp2_with (at_builtin; refine Hid.out ?_)
  obtain ⟨w6, hw⟩ : ∃ w6, w5.setCell ⟨w.heap.size, 5, none⟩ (.slice ga1 W.gates.length gc1) = w6 := ⟨_, rfl⟩
  have HS6 : Hid (w.heap.size + 2 ≤ w6.heap.size) := by show _ ≤ _; rw [← hw]; simpa using HS5.out
  show wpList _ _ _ _ _ (w5.setCell ⟨w.heap.size, 5, none⟩ (.slice ga1 W.gates.length gc1))
  rw [hw]
  rw [hw] at H2
  have HE6 : Hid (_ = w6) := hw
  clear hw a0 a1 a2 a3 a4 a5 a6 a7 a8 af a9
  refine wpList_app_nil rfl (.const (.slice none 0 0)) (.tmp 12) 26 rfl (w.heap.size + 2) 3 i3 _ 1 8 Try.underlying26 hi3 hz3 hs3 hb3 rfl (by decide) rfl A.fa W.failed.length A.fc (icells W.failed) rfl (fun e => ⟨ints_zero H2.out.ld.f e, H2.out.ld.fk.1 e⟩) (icells_length _) H2.out.ld.f.news (icells_one _) H2.out.ld.f.small HF.out.f HS6.out ?_
  intro fa1 fc1 w7 own7 gr7
  have H3 : Hid (OwnAt _ _ _ _ _) := H2.out.failed gr7 own7
  have HN7 : Hid (∀ k off, fa1 = some ⟨k, off, none⟩ → w.heap.size + 2 ≤ k) := fun k off e => by subst e; exact (own7.lt k rfl).1
  have HS7 : Hid (w.heap.size + 2 ≤ w7.heap.size) := Nat.le_trans HS6.out gr7.size
  have bx := Box9.keep H2.out.bx ((Below.refl w6.heap.size w6).grown gr7 (Nat.le_refl _) (fun k hk => by cases hk))
  dsimp only at bx
  obtain ⟨a0, a1, a2, a3, a4, a5, a6, a7, a8, af, a9⟩ := bx
  go_wp2_with (at_builtin; refine Hid.out ?_)
  obtain ⟨w8, hw⟩ : ∃ w8, w7.setCell ⟨w.heap.size, 6, none⟩ (.slice fa1 W.failed.length fc1) = w8 := ⟨_, rfl⟩
  have HS8 : Hid (w.heap.size + 2 ≤ w8.heap.size) := by show _ ≤ _; rw [← hw]; simpa using HS7.out
  show wpList _ _ _ _ _ (w7.setCell ⟨w.heap.size, 6, none⟩ (.slice fa1 W.failed.length fc1))
  rw [hw]
  rw [hw] at H3
  have HE8 : Hid (_ = w8) := hw
  clear hw a0 a1 a2 a3 a4 a5 a6 a7 a8 af a9
  refine wpList_app_nil rfl (.const (.slice none 0 0)) (.tmp 16) 26 rfl w8.heap.size 3 i3 _ 1 8 Try.underlying26 hi3 hz3 hs3 hb3 rfl (by decide) rfl A.qa W.queue.length A.qc (icells W.queue) rfl (fun e => ⟨ints_zero H3.out.ld.q e, H3.out.ld.qk.1 e⟩) (icells_length _) H3.out.ld.q.news (icells_one _) H3.out.ld.q.small (by have := HF.out.q; omega) (Nat.le_refl _) ?_
  intro qa1 qc1 w9 own9' gr9
  have own9 := own9'.mono HS8.out
  have HQ9 : Hid (∀ k off, qa1 = some ⟨k, off, none⟩ → w8.heap.size ≤ k ∧ k < w9.heap.size) := fun k off e => by subst e; exact own9'.lt k rfl
  clear own9'
  have H4 : Hid (OwnAt _ _ _ _ _) := H3.out.queue gr9 own9
  have HN9 : Hid (∀ k off, qa1 = some ⟨k, off, none⟩ → w.heap.size + 2 ≤ k) := fun k off e => by subst e; exact (own9.lt k rfl).1
  have HS9 : Hid (w.heap.size + 2 ≤ w9.heap.size) := Nat.le_trans HS8.out gr9.size
  have bx := Box9.keep H3.out.bx ((Below.refl w8.heap.size w8).grown gr9 (Nat.le_refl _) (fun k hk => by cases hk))
  dsimp only at bx
  obtain ⟨a0, a1, a2, a3, a4, a5, a6, a7, a8, af, a9⟩ := bx
  go_wp2_with (at_builtin; refine Hid.out ?_)
  obtain ⟨w10, hw⟩ : ∃ w10, w9.setCell ⟨w.heap.size, 7, none⟩ (.slice qa1 W.queue.length qc1) = w10 := ⟨_, rfl⟩
  have HS10 : Hid (w.heap.size + 2 ≤ w10.heap.size) := by show _ ≤ _; rw [← hw]; simpa using HS9.out
  show wpList _ _ _ _ _ (w9.setCell ⟨w.heap.size, 7, none⟩ (.slice qa1 W.queue.length qc1))
  rw [hw]
  rw [hw] at H4
  have HE10 : Hid (_ = w10) := hw
  clear hw a0 a1 a2 a3 a4 a5 a6 a7 a8 af a9
  refine wpList_app_nil rfl (.const (.slice none 0 0)) (.tmp 20) 27 rfl w10.heap.size 43 i43 _ 3 24 Try.underlying27 hi43 hz43 hs43 hb43 rfl (by decide) rfl A.ma W.marks.length A.mc (hocells W.marks) rfl (fun e => ⟨holds_zero H4.out.ld.m e, H4.out.ld.kk.1 e⟩) (hocells_length _) H4.out.ld.m.news (hocells_one _) H4.out.ld.m.small HF.out.m (Nat.le_refl _) ?_
  intro ma1 mc1 w11 own11' gr11
  have own11 := own11'.mono HS10.out
  have HQ11 : Hid (∀ k off, ma1 = some ⟨k, off, none⟩ → w10.heap.size ≤ k) := fun k off e => by subst e; exact (own11'.lt k rfl).1
  have HQS : Hid (w10.heap.size = w9.heap.size) := by show _ = _; rw [← HE10.out]; simp
  clear own11'
  have H5 : Hid (OwnAt _ _ _ _ _) := H4.out.marks gr11 own11
  have HN11 : Hid (∀ k off, ma1 = some ⟨k, off, none⟩ → w.heap.size + 2 ≤ k) := fun k off e => by subst e; exact (own11.lt k rfl).1
  have HS11 : Hid (w.heap.size + 2 ≤ w11.heap.size) := Nat.le_trans HS10.out gr11.size
  have bx := Box9.keep H4.out.bx ((Below.refl w10.heap.size w10).grown gr11 (Nat.le_refl _) (fun k hk => by cases hk))
  dsimp only at bx
  obtain ⟨a0, a1, a2, a3, a4, a5, a6, a7, a8, af, a9⟩ := bx
  have HO : Hid (w11.ownsRow (w.heap.size + 2) 3 1 (.slice qa1 W.queue.length qc1) W.queue.length (icells W.queue)) := owns_keep (by rw [← HE10.out]; exact ownsRow_setCell_below own9 (by show w.heap.size < w.heap.size + 2; omega) _) gr11
  have bz := Box9.keep H4.out.zx ((Below.refl w10.heap.size w10).grown gr11 (Nat.le_refl _) (fun k hk => by cases hk))
  obtain ⟨z0, z1, z2, z3, z4, z5, z6, z7, z8, zf, z9⟩ := bz
  have hs11 := HS11.out
  go_wp2
  refine bodyPost_ret (v := .agg #[.slice ho1 W.lg.holds.length hc1, .int .i64 W.lg.m0, .int .i64 W.lg.m1, .int .i64 W.lg.m2, .int .i64 W.lg.m3, .slice ga1 W.gates.length gc1, .slice fa1 W.failed.length fc1, .slice qa1 W.queue.length qc1, .slice ma1 W.marks.length mc1]) (by simp [results, Try.results7, go_sem, z0, z1, z2, z3, z4, z5, z6, z7, z8]) rfl ⟨⟨ho1, hc1, ga1, gc1, fa1, fc1, qa1, qc1, ma1, mc1⟩, rfl, ?_, ?_, ?_, ?_, ?_⟩
  · exact Wd.far9 H5.out.ld H5.out.o1
  · intro X hX
    exact ⟨fun k off hne e => by have := HF1.out k off hne e; omega, fun k off _ e => by have := HN5.out k off e; omega, fun k off _ e => by have := HN7.out k off e; omega, fun k off _ e => by have := HN9.out k off e; omega, fun k off _ e => by have := HN11.out k off e; omega⟩
  · exact (owns_set9 (ownsRow_setCell_below HO.out (by show w.heap.size < w.heap.size + 2; omega) _) (by omega) _ _ _ _ _ _ _ _ _).mono (by omega)
  · intro k off e
    obtain ⟨k1, k2⟩ := HQ9.out k off e
    exact ⟨holds_ne H3.out.ld.h k1, ints_ne H3.out.ld.g k1, ints_ne H3.out.ld.f k1, fun _ _ h => absurd rfl h, fun j o _ ej => by have := HQ11.out j o ej; have := HQS.out; omega⟩
  · exact set9_below H5.out.bl (by omega)
end Go.Proofs.Ytnhndieoaceofaa
