/- Asking for a lease: pool.Ask. -/
import Derived.Test.YtnhndieoaceofaaPoolD
namespace Go.Proofs.Ytnhndieoaceofaa
open Go.RowKit

theorem OwnAt.keep {w wr wr' : World} {W : Wd} {A : Ad} {b : Nat} (h : OwnAt w wr W A b) (hb : Below wr.heap.size wr wr') : OwnAt w wr' W A b :=
  ⟨Box9.keep h.bx hb, Box9.keep h.zx hb, h.ld.below (Nat.le_refl _) hb, h.o0, h.o1, h.bl.trans (hb.mono (Nat.le_of_lt h.bx.lt))⟩
theorem OwnAt.made {w : World} {W : Wd} {A : Ad} (ha : WdLies w W A) : OwnAt w ((w.alloc (.cells #[.slice A.ho W.lg.holds.length A.hc, .int .i64 W.lg.m0, .int .i64 W.lg.m1, .int .i64 W.lg.m2, .int .i64 W.lg.m3, .slice A.ga W.gates.length A.gc, .slice A.fa W.failed.length A.fc, .slice A.qa W.queue.length A.qc, .slice A.ma W.marks.length A.mc] 29)).alloc (.cells #[.slice none 0 0, .int .i64 0, .int .i64 0, .int .i64 0, .int .i64 0, .slice none 0 0, .slice none 0 0, .slice none 0 0, .slice none 0 0] 29)) W A w.heap.size := by
  have hbel : Below w.heap.size w ((w.alloc (.cells #[.slice A.ho W.lg.holds.length A.hc, .int .i64 W.lg.m0, .int .i64 W.lg.m1, .int .i64 W.lg.m2, .int .i64 W.lg.m3, .slice A.ga W.gates.length A.gc, .slice A.fa W.failed.length A.fc, .slice A.qa W.queue.length A.qc, .slice A.ma W.marks.length A.mc] 29)).alloc (.cells #[.slice none 0 0, .int .i64 0, .int .i64 0, .int .i64 0, .int .i64 0, .slice none 0 0, .slice none 0 0, .slice none 0 0, .slice none 0 0] 29)) := ((Below.refl _ _).alloc (Nat.le_refl _) _).alloc (by simp) _
  exact ⟨(Box9.made _ _ _ _ _ _ _ _ _ _ _).keep (bel_alloc _ _), Box9.made' (by simp) _ _ _ _ _ _ _ _ _ _, ha.below (Nat.le_refl _) hbel, ha.off (Nat.le_refl _), ha.off (by omega), hbel⟩

def doneB (W : Wd) (id : Int) : Bool := inB id W.queue || leaseB id W.lg.holds
def askE (W : Wd) (id waits : Int) : Int := if doneB W id = true then 9 else if W.queue.length = 0 ∧ takeE W.lg 2 = 0 then 0 else if waits ≤ (W.queue.length : Int) then 8 else 10
def askR (W : Wd) (id waits : Int) : Wd := if doneB W id = true then zeroWd else if W.queue.length = 0 ∧ takeE W.lg 2 = 0 then { W with lg := takeR W.lg id 2 (-1) } else if waits ≤ (W.queue.length : Int) then zeroWd else { W with queue := W.queue ++ [id] }

theorem HoldsAt.far2 {W W' : World} {ao : Option Addr} {hs : List Ho} {b : Nat} (h : HoldsAt W ao hs) (hz : W.heap.size ≤ W'.heap.size) (hc : ∀ k j, k < W.heap.size → k ≠ b → W'.cell? ⟨k, j, none⟩ = W.cell? ⟨k, j, none⟩) (hn : ∀ k off, hs ≠ [] → ao = some ⟨k, off, none⟩ → k ≠ b) : HoldsAt W' ao hs where
  lies i hi := by
    obtain ⟨k, off, h1, h2, h3, h4, h5⟩ := h.lies i hi
    have hk := hn k off (fun e => by rw [e] at hi; simp at hi) h1
    exact ⟨k, off, h1, by omega, by rw [hc _ _ h2 hk]; exact h3, by rw [hc _ _ h2 hk]; exact h4, by rw [hc _ _ h2 hk]; exact h5⟩
  small := h.small
theorem IntsAt.far2 {W W' : World} {ao : Option Addr} {xs : List Int} {b : Nat} (h : IntsAt W ao xs) (hz : W.heap.size ≤ W'.heap.size) (hc : ∀ k j, k < W.heap.size → k ≠ b → W'.cell? ⟨k, j, none⟩ = W.cell? ⟨k, j, none⟩) (hn : ∀ k off, xs ≠ [] → ao = some ⟨k, off, none⟩ → k ≠ b) : IntsAt W' ao xs where
  lies i hi := by
    obtain ⟨k, off, h1, h2, h3⟩ := h.lies i hi
    have hk := hn k off (fun e => by rw [e] at hi; simp at hi) h1
    exact ⟨k, off, h1, by omega, by rw [hc _ _ h2 hk]; exact h3⟩
  small := h.small
theorem WdLies.far2 {w w' : World} {X : Nat} {W : Wd} {A : Ad} (h : WdLies w W A) (hz : w.heap.size ≤ w'.heap.size) (hc : ∀ k j, k < w.heap.size → k ≠ X → w'.cell? ⟨k, j, none⟩ = w.cell? ⟨k, j, none⟩) (ho : Off W A X) : WdLies w' W A :=
  ⟨h.h.far2 hz hc ho.h, h.hk, h.g.far2 hz hc ho.g, h.gk, h.f.far2 hz hc ho.f, h.fk, h.q.far2 hz hc ho.q, h.qk, h.m.far2 hz hc ho.m, h.kk⟩
/-- Those that wait grow by one; the other lists lie there as they did. -/
theorem others_grown {wr wr' : World} {W : Wd} {A : Ad} {base : Nat} (h : WdLies wr W A) (al : Alone W A) (ow : wr.ownsRow base 3 1 (.slice A.qa W.queue.length A.qc) W.queue.length (icells W.queue)) (hg : wr.grownBy wr' (Value.slice A.qa W.queue.length A.qc).ownBlock) : WdLies wr' { W with queue := [] } A := by
  have h0 : WdLies wr { W with queue := [] } A := { h with q := ints_nil _ _, qk := ⟨h.qk.1, Nat.zero_le _, h.qk.2.2⟩ }
  rcases ow.2 with ⟨hv, _⟩ | ⟨g, cap, cur, hv, _⟩
  · have e : A.qa = none := by simp at hv; exact hv.1
    rw [e] at hg
    exact h0.below (Nat.le_refl _) ((Below.refl _ _).grown hg (Nat.le_refl _) (fun k hk => by cases hk))
  · have e : A.qa = some ⟨g, 0, none⟩ := by simp at hv; exact hv.1
    rw [e] at hg
    exact h0.far2 hg.size (fun k j hk hne => World.cell?_of_block (w := wr) (a := ⟨k, j, none⟩) (hg.block k hk (fun e => hne (Option.some.inj e)))) (al g 0 e)

set_option maxRecDepth 100000 in
set_option maxHeartbeats 400000 in
theorem ask_done (W : Wd) (A : Ad) (id waits : Int) (w : World) (ha : WdLies w W A) (hd : doneB W id = true) :
    Calls Try.prog 8 #[wdV W A, .int .i64 id, .int .i64 waits] w fun e w' => ∃ A', e = .returned (.tuple #[wdV zeroWd A', .int .i64 9]) ∧ WdLies w' zeroWd A' ∧ (∀ X, X < w.heap.size → Off zeroWd A' X) ∧ Below w.heap.size w w' := by
  have H0 : Hid (OwnAt _ _ _ _ _) := OwnAt.made ha
  obtain ⟨w2, hw2⟩ : ∃ w2, (w.alloc (.cells #[.slice A.ho W.lg.holds.length A.hc, .int .i64 W.lg.m0, .int .i64 W.lg.m1, .int .i64 W.lg.m2, .int .i64 W.lg.m3, .slice A.ga W.gates.length A.gc, .slice A.fa W.failed.length A.fc, .slice A.qa W.queue.length A.qc, .slice A.ma W.marks.length A.mc] 29)).alloc (.cells #[.slice none 0 0, .int .i64 0, .int .i64 0, .int .i64 0, .int .i64 0, .slice none 0 0, .slice none 0 0, .slice none 0 0, .slice none 0 0] 29) = w2 := ⟨_, rfl⟩
  rw [hw2] at H0
  have HW : Hid (_ = w2) := hw2
  clear hw2 ha
  unfold wdV
  obtain ⟨a0, a1, a2, a3, a4, a5, a6, a7, a8, _, a9⟩ := H0.out.bx
  have hq : inB id W.queue = true ∨ inB id W.queue = false ∧ leaseB id W.lg.holds = true := by
    unfold doneB at hd
    cases e : inB id W.queue with
    | true => exact .inl rfl
    | false => rw [e] at hd; exact .inr ⟨rfl, by simpa using hd⟩
  clear hd
  rcases hq with hq | ⟨hq, hr⟩
  · go_enter Try.func8, Try.ntmps8
    go_wp2_with fail
    rw [HW.out]
    refine (contains_any id W.queue _ _ w2 H0.out.ld.q).mono ?_
    rintro e w3 ⟨rfl, b3⟩
    rw [hq]
    have H1 : Hid (OwnAt _ _ _ _ _) := H0.out.keep b3
    clear a0 a1 a2 a3 a4 a5 a6 a7 a8 a9 b3 hq
    obtain ⟨z0, z1, z2, z3, z4, z5, z6, z7, z8, zf, z9⟩ := H1.out.zx
    go_wp2
    exact bodyPost_ret (v := .tuple #[.agg #[.slice none 0 0, .int .i64 0, .int .i64 0, .int .i64 0, .int .i64 0, .slice none 0 0, .slice none 0 0, .slice none 0 0, .slice none 0 0], .int .i64 9]) (by simp [results, Try.results8, go_sem, z0, z1, z2, z3, z4, z5, z6, z7, z8]) rfl ⟨zeroAd, rfl, zeroLies _, fun X _ => zeroOff X, set9_below H1.out.bl (by omega)⟩
  · go_enter Try.func8, Try.ntmps8
    go_wp2_with fail
    rw [HW.out]
    refine (contains_any id W.queue _ _ w2 H0.out.ld.q).mono ?_
    rintro e w3 ⟨rfl, b3⟩
    rw [hq]
    have H1 : Hid (OwnAt _ _ _ _ _) := H0.out.keep b3
    clear a0 a1 a2 a3 a4 a5 a6 a7 a8 a9 b3 hq
    obtain ⟨a0, a1, a2, a3, a4, a5, a6, a7, a8, _, a9⟩ := H1.out.bx
    go_wp2_with fail
    refine (leases_any W.lg _ id w3 H1.out.ld.lg).mono ?_
    rintro e w4 ⟨rfl, b4⟩
    rw [hr]
    have H2 : Hid (OwnAt _ _ _ _ _) := H1.out.keep b4
    clear a0 a1 a2 a3 a4 a5 a6 a7 a8 a9 b4 hr
    obtain ⟨z0, z1, z2, z3, z4, z5, z6, z7, z8, zf, z9⟩ := H2.out.zx
    go_wp2
    exact bodyPost_ret (v := .tuple #[.agg #[.slice none 0 0, .int .i64 0, .int .i64 0, .int .i64 0, .int .i64 0, .slice none 0 0, .slice none 0 0, .slice none 0 0, .slice none 0 0], .int .i64 9]) (by simp [results, Try.results8, go_sem, z0, z1, z2, z3, z4, z5, z6, z7, z8]) rfl ⟨zeroAd, rfl, zeroLies _, fun X _ => zeroOff X, set9_below H2.out.bl (by omega)⟩

set_option maxRecDepth 100000 in
set_option maxHeartbeats 400000 in
theorem ask_takes (W : Wd) (A : Ad) (id waits : Int) (w : World) (ha : WdLies w W A) (R : Lg) (hf : Fits W) (hd : doneB W id = false) (h0 : W.queue.length = 0) (htk : ∀ w', LgAt w' (lgV W.lg A.ho A.hc) W.lg → Calls Try.prog 19 #[lgV W.lg A.ho A.hc, .int .i64 id] w' fun e w'' => ∃ v', e = .returned (.tuple #[v', .int .i64 0]) ∧ LgNew w'.heap.size w'' v' R ∧ Below w'.heap.size w' w'') :
    Calls Try.prog 8 #[wdV W A, .int .i64 id, .int .i64 waits] w fun e w' => ∃ A', e = .returned (.tuple #[wdV { W with lg := R } A', .int .i64 0]) ∧ WdLies w' { W with lg := R } A' ∧ (∀ X, X < w.heap.size → Off { W with lg := R } A' X) ∧ Below w.heap.size w w' := by
  have H0 : Hid (OwnAt _ _ _ _ _) := OwnAt.made ha
  obtain ⟨w2, hw2⟩ : ∃ w2, (w.alloc (.cells #[.slice A.ho W.lg.holds.length A.hc, .int .i64 W.lg.m0, .int .i64 W.lg.m1, .int .i64 W.lg.m2, .int .i64 W.lg.m3, .slice A.ga W.gates.length A.gc, .slice A.fa W.failed.length A.fc, .slice A.qa W.queue.length A.qc, .slice A.ma W.marks.length A.mc] 29)).alloc (.cells #[.slice none 0 0, .int .i64 0, .int .i64 0, .int .i64 0, .int .i64 0, .slice none 0 0, .slice none 0 0, .slice none 0 0, .slice none 0 0] 29) = w2 := ⟨_, rfl⟩
  rw [hw2] at H0
  have HW : Hid (_ = w2) := hw2
  clear hw2 ha
  unfold wdV
  obtain ⟨a0, a1, a2, a3, a4, a5, a6, a7, a8, _, a9⟩ := H0.out.bx
  have q0 : ((W.queue.length : Int) == 0) = true := by simp [h0]
  have HQ0 : Hid (W.queue.length = 0) := h0
  have HF : Hid (Fits W) := hf
  have HTK : Hid (∀ w', _) := htk
  clear h0 hf htk
  have hq : inB id W.queue = false := by
    unfold doneB at hd
    cases e : inB id W.queue with
    | true => rw [e] at hd; simp at hd
    | false => rfl
  have hr : leaseB id W.lg.holds = false := by
    unfold doneB at hd
    rw [hq] at hd
    simpa using hd
  clear hd
  go_enter Try.func8, Try.ntmps8
  go_wp2_with fail
  rw [HW.out]
  refine (contains_any id W.queue _ _ w2 H0.out.ld.q).mono ?_
  rintro e w3 ⟨rfl, b3⟩
  rw [hq]
  have H1 : Hid (OwnAt _ _ _ _ _) := H0.out.keep b3
  clear a0 a1 a2 a3 a4 a5 a6 a7 a8 a9 b3 hq
  obtain ⟨a0, a1, a2, a3, a4, a5, a6, a7, a8, _, a9⟩ := H1.out.bx
  go_wp2_with fail
  refine (leases_any W.lg _ id w3 H1.out.ld.lg).mono ?_
  rintro e w4 ⟨rfl, b4⟩
  rw [hr]
  have H2 : Hid (OwnAt _ _ _ _ _) := H1.out.keep b4
  clear a0 a1 a2 a3 a4 a5 a6 a7 a8 a9 b4 hr
  obtain ⟨a0, a1, a2, a3, a4, a5, a6, a7, a8, _, a9⟩ := H2.out.bx
  go_wp2_with fail
  refine (HTK.out w4 H2.out.ld.lg).mono ?_
  rintro e w5 ⟨v', rfl, n5, b5⟩
  obtain ⟨ho1, hc1, rfl, m1, m2, m3, m4, mf⟩ := n5
  have H3 : Hid (OwnAt _ _ _ _ _) := H2.out.keep b5
  have HM : Hid (HoldsAt w5 ho1 R.holds ∧ Cap ho1 R.holds.length hc1) := ⟨m1, m2, m3, m4⟩
  have HFR : Hid (Fresh w4.heap.size ho1 R.holds) := mf
  have s4 := H2.out.zx.lt
  have s5 := b5.size
  clear m1 m2 m3 m4 mf b5
  unfold lgV
  have H4 : Hid (OwnAt _ _ _ _ _) := H3.out.keep (bel_alloc w5 (.cells #[.slice ho1 R.holds.length hc1, .int .i64 R.m0, .int .i64 R.m1, .int .i64 R.m2, .int .i64 R.m3] 25))
  clear a0 a1 a2 a3 a4 a5 a6 a7 a8 a9
  obtain ⟨a0, a1, a2, a3, a4, a5, a6, a7, a8, _, a9⟩ := H4.out.bx
  go_wp2_with fail
  obtain ⟨w6, hw6⟩ : ∃ w6, w5.alloc (.cells #[.slice ho1 R.holds.length hc1, .int .i64 R.m0, .int .i64 R.m1, .int .i64 R.m2, .int .i64 R.m3] 25) = w6 := ⟨_, rfl⟩
  rw [hw6] at H4 ⊢
  have b6 : Below w5.heap.size w5 w6 := by rw [← hw6]; exact bel_alloc _ _
  have s6 : w6.heap.size = w5.heap.size + 1 := by rw [← hw6]; simp
  have HLB : Hid (Box5 w6 w5.heap.size (.slice ho1 R.holds.length hc1) (.int .i64 R.m0) (.int .i64 R.m1) (.int .i64 R.m2) (.int .i64 R.m3)) := by
    refine ⟨?_, ?_, ?_, ?_, ?_, fun j => ?_, by rw [s6]; omega⟩ <;> rw [← hw6] <;> simp [go_sem]
  have HM6 : Hid (HoldsAt w6 ho1 R.holds) := HM.out.1.below (Nat.le_refl _) b6
  clear b6 hw6
  refine (pown_any W A w6 H4.out.ld HF.out).mono ?_
  rintro e w7 ⟨A2, rfl, l7, o7, _, _, b7⟩
  have H5 : Hid (OwnAt _ _ _ _ _) := H4.out.keep b7
  have HL7 : Hid (WdLies w7 W A2) := l7
  have HO7 : Hid (∀ X, X < w6.heap.size → Off W A2 X) := o7
  have HM7 : Hid (HoldsAt w7 ho1 R.holds) := HM6.out.below (Nat.le_refl _) b7
  obtain ⟨l0, l1, l2, l3, l4, lf, ll⟩ := HLB.out.keep b7
  have s7 := b7.size
  clear a0 a1 a2 a3 a4 a5 a6 a7 a8 a9
  clear l7 o7 b7
  obtain ⟨a0, a1, a2, a3, a4, a5, a6, a7, a8, af, a9⟩ := H5.out.bx
  obtain ⟨z0, z1, z2, z3, z4, z5, z6, z7, z8, zf, z9⟩ := H5.out.zx
  have x0 : w.heap.size < w5.heap.size := by omega
  have x1 : w.heap.size + 1 < w5.heap.size := by omega
  have x2 : ¬ w.heap.size = w5.heap.size := by omega
  have x3 : ¬ w.heap.size + 1 = w5.heap.size := by omega
  have x4 : ¬ w5.heap.size = w.heap.size := by omega
  have x5 : ¬ w5.heap.size = w.heap.size + 1 := by omega
  have HS4 : Hid (w.heap.size + 1 < w4.heap.size) := s4
  have HS5 : Hid (w4.heap.size ≤ w5.heap.size) := s5
  have HS6 : Hid (w6.heap.size = w5.heap.size + 1) := s6
  clear s4 s5 s6 s7
  unfold wdV
  go_wp2_with (with_reducible refine Hid.out (p := wpList _ _ _ ({ dst := _, op := Op.load 25 _, type := _, pos := _, after := _, guard := _ } :: _) _ _) ?_)
  obtain ⟨w8, hw8⟩ : ∃ w8, set9 w7 w.heap.size (.slice A2.ho W.lg.holds.length A2.hc) (.int .i64 W.lg.m0) (.int .i64 W.lg.m1) (.int .i64 W.lg.m2) (.int .i64 W.lg.m3) (.slice A2.ga W.gates.length A2.gc) (.slice A2.fa W.failed.length A2.fc) (.slice A2.qa W.queue.length A2.qc) (.slice A2.ma W.marks.length A2.mc) = w8 := ⟨_, rfl⟩
  show wpList _ _ _ _ _ (set9 w7 w.heap.size (.slice A2.ho W.lg.holds.length A2.hc) (.int .i64 W.lg.m0) (.int .i64 W.lg.m1) (.int .i64 W.lg.m2) (.int .i64 W.lg.m3) (.slice A2.ga W.gates.length A2.gc) (.slice A2.fa W.failed.length A2.fc) (.slice A2.qa W.queue.length A2.qc) (.slice A2.ma W.marks.length A2.mc))
  rw [hw8]
  have HB8 : Hid (WBox w8 w.heap.size W A2) := by rw [← hw8]; exact Box9.set H5.out.bx _ _ _ _ _ _ _ _ _
  have HZ8 : Hid (ZBox w8 (w.heap.size + 1)) := by rw [← hw8]; exact Box9.far H5.out.zx (by omega) _ _ _ _ _ _ _ _ _
  have q : ∀ j, w8.cell? ⟨w5.heap.size, j, none⟩ = w7.cell? ⟨w5.heap.size, j, none⟩ := fun j => by rw [← hw8]; exact set9_far x4
  have L7 : WdLies w7 { W with lg := R } { A2 with ho := ho1, hc := hc1 } := { HL7.out with h := HM7.out, hk := HM.out.2 }
  have OX : ∀ X, X < w4.heap.size → Off { W with lg := R } { A2 with ho := ho1, hc := hc1 } X := fun X hX => { HO7.out X (by have := HS5.out; have := HS6.out; omega) with h := fun k off hne e => by have := HFR.out k off hne e; omega }
  have HL8 : Hid (WdLies w8 { W with lg := R } { A2 with ho := ho1, hc := hc1 }) := by rw [← hw8]; exact Wd.far9 L7 (OX w.heap.size (by have := HS4.out; omega))
  have HOX : Hid (∀ X, X < w4.heap.size → Off { W with lg := R } { A2 with ho := ho1, hc := hc1 } X) := OX
  have HBL : Hid (Below w.heap.size w w8) := by rw [← hw8]; exact set9_below H5.out.bl (Nat.le_refl _)
  have q0 := (q 0).trans l0
  have q1 := (q 1).trans l1
  have q2 := (q 2).trans l2
  have q3 := (q 3).trans l3
  have q4 := (q 4).trans l4
  have ll8 : w5.heap.size < w8.heap.size := by rw [← hw8, set9_size]; exact ll
  clear q l0 l1 l2 l3 l4 lf ll L7 OX hw8 af z0 z1 z2 z3 z4 z5 z6 z7 z8 z9 zf
  clear a0 a1 a2 a3 a4 a5 a6 a7 a8 a9
  obtain ⟨a0, a1, a2, a3, a4, a5, a6, a7, a8, af, a9⟩ := HB8.out
  obtain ⟨z0, z1, z2, z3, z4, z5, z6, z7, z8, zf, z9⟩ := HZ8.out
  go_wp2_with (with_reducible refine Hid.out (p := wpList _ _ _ ({ dst := _, op := Op.load 29 _, type := _, pos := _, after := _, guard := _ } :: _) _ _) ?_)
  obtain ⟨w9, hw9⟩ : ∃ w9, set5 w8 w.heap.size R ho1 hc1 = w9 := ⟨_, rfl⟩
  show wpList _ _ _ _ _ (set5 w8 w.heap.size R ho1 hc1)
  rw [hw9]
  have HB9 : Hid (Box9 w9 w.heap.size (.slice ho1 R.holds.length hc1) (.int .i64 R.m0) (.int .i64 R.m1) (.int .i64 R.m2) (.int .i64 R.m3) (.slice A2.ga W.gates.length A2.gc) (.slice A2.fa W.failed.length A2.fc) (.slice A2.qa W.queue.length A2.qc) (.slice A2.ma W.marks.length A2.mc)) := by rw [← hw9]; exact Box9.set5 HB8.out _ _ _
  have HZ9 : Hid (ZBox w9 (w.heap.size + 1)) := by rw [← hw9]; exact Box9.far5 HZ8.out (by omega) _ _ _
  have HL9 : Hid (WdLies w9 { W with lg := R } { A2 with ho := ho1, hc := hc1 }) := by rw [← hw9]; exact HL8.out.far (by rw [set5_size]; exact Nat.le_refl _) (fun k j hk => set5_far hk) (HOX.out w.heap.size (by have := HS4.out; omega))
  have HBL9 : Hid (Below w.heap.size w w9) := by rw [← hw9]; exact set5_below' HBL.out (Nat.le_refl _)
  clear hw9 q0 q1 q2 q3 q4 ll8 af z0 z1 z2 z3 z4 z5 z6 z7 z8 z9 zf
  clear a0 a1 a2 a3 a4 a5 a6 a7 a8 a9
  obtain ⟨a0, a1, a2, a3, a4, a5, a6, a7, a8, af, a9⟩ := HB9.out
  obtain ⟨z0, z1, z2, z3, z4, z5, z6, z7, z8, zf, z9⟩ := HZ9.out
  go_wp2
  exact bodyPost_ret (v := .tuple #[.agg #[.slice ho1 R.holds.length hc1, .int .i64 R.m0, .int .i64 R.m1, .int .i64 R.m2, .int .i64 R.m3, .slice A2.ga W.gates.length A2.gc, .slice A2.fa W.failed.length A2.fc, .slice A2.qa W.queue.length A2.qc, .slice A2.ma W.marks.length A2.mc], .int .i64 0]) (by simp [results, Try.results8, go_sem, z0, z1, z2, z3, z4, z5, z6, z7, z8]) rfl ⟨{ A2 with ho := ho1, hc := hc1 }, rfl, Wd.far9 HL9.out (HOX.out (w.heap.size + 1) HS4.out), fun X hX => HOX.out X (by have := HS4.out; omega), set9_below HBL9.out (by omega)⟩

set_option maxRecDepth 100000 in
set_option maxHeartbeats 400000 in
theorem ask_full_a (W : Wd) (A : Ad) (id waits : Int) (w : World) (ha : WdLies w W A) (hd : doneB W id = false) (h0 : W.queue.length ≠ 0) (hw : waits ≤ (W.queue.length : Int)) :
    Calls Try.prog 8 #[wdV W A, .int .i64 id, .int .i64 waits] w fun e w' => ∃ A', e = .returned (.tuple #[wdV zeroWd A', .int .i64 8]) ∧ WdLies w' zeroWd A' ∧ (∀ X, X < w.heap.size → Off zeroWd A' X) ∧ Below w.heap.size w w' := by
  have H0 : Hid (OwnAt _ _ _ _ _) := OwnAt.made ha
  obtain ⟨w2, hw2⟩ : ∃ w2, (w.alloc (.cells #[.slice A.ho W.lg.holds.length A.hc, .int .i64 W.lg.m0, .int .i64 W.lg.m1, .int .i64 W.lg.m2, .int .i64 W.lg.m3, .slice A.ga W.gates.length A.gc, .slice A.fa W.failed.length A.fc, .slice A.qa W.queue.length A.qc, .slice A.ma W.marks.length A.mc] 29)).alloc (.cells #[.slice none 0 0, .int .i64 0, .int .i64 0, .int .i64 0, .int .i64 0, .slice none 0 0, .slice none 0 0, .slice none 0 0, .slice none 0 0] 29) = w2 := ⟨_, rfl⟩
  rw [hw2] at H0
  have HW : Hid (_ = w2) := hw2
  clear hw2 ha
  unfold wdV
  obtain ⟨a0, a1, a2, a3, a4, a5, a6, a7, a8, _, a9⟩ := H0.out.bx
  have q0 : ((W.queue.length : Int) == 0) = false := by simp [h0]
  clear h0
  have hq : inB id W.queue = false := by
    unfold doneB at hd
    cases e : inB id W.queue with
    | true => rw [e] at hd; simp at hd
    | false => rfl
  have hr : leaseB id W.lg.holds = false := by
    unfold doneB at hd
    rw [hq] at hd
    simpa using hd
  clear hd
  go_enter Try.func8, Try.ntmps8
  go_wp2_with fail
  rw [HW.out]
  refine (contains_any id W.queue _ _ w2 H0.out.ld.q).mono ?_
  rintro e w3 ⟨rfl, b3⟩
  rw [hq]
  have H1 : Hid (OwnAt _ _ _ _ _) := H0.out.keep b3
  clear a0 a1 a2 a3 a4 a5 a6 a7 a8 a9 b3 hq
  obtain ⟨a0, a1, a2, a3, a4, a5, a6, a7, a8, _, a9⟩ := H1.out.bx
  go_wp2_with fail
  refine (leases_any W.lg _ id w3 H1.out.ld.lg).mono ?_
  rintro e w4 ⟨rfl, b4⟩
  rw [hr]
  have H2 : Hid (OwnAt _ _ _ _ _) := H1.out.keep b4
  clear a0 a1 a2 a3 a4 a5 a6 a7 a8 a9 b4 hr
  obtain ⟨a0, a1, a2, a3, a4, a5, a6, a7, a8, _, a9⟩ := H2.out.bx
  have H4 := H2
  obtain ⟨w6, hw6⟩ : ∃ w6, w4 = w6 := ⟨_, rfl⟩
  rw [hw6] at H4 ⊢ a0 a1 a2 a3 a4 a5 a6 a7 a8 a9
  clear H2 hw6
  obtain ⟨z0, z1, z2, z3, z4, z5, z6, z7, z8, zf, z9⟩ := H4.out.zx
  go_wp2
  exact bodyPost_ret (v := .tuple #[.agg #[.slice none 0 0, .int .i64 0, .int .i64 0, .int .i64 0, .int .i64 0, .slice none 0 0, .slice none 0 0, .slice none 0 0, .slice none 0 0], .int .i64 8]) (by simp [results, Try.results8, go_sem, z0, z1, z2, z3, z4, z5, z6, z7, z8]) rfl ⟨zeroAd, rfl, zeroLies _, fun X _ => zeroOff X, set9_below H4.out.bl (by omega)⟩

set_option maxRecDepth 100000 in
set_option maxHeartbeats 400000 in
theorem ask_full_b (W : Wd) (A : Ad) (id waits : Int) (w : World) (ha : WdLies w W A) (hd : doneB W id = false) (R : Lg) (h0 : W.queue.length = 0) (htk : ∀ w', LgAt w' (lgV W.lg A.ho A.hc) W.lg → Calls Try.prog 19 #[lgV W.lg A.ho A.hc, .int .i64 id] w' fun e w'' => ∃ v', e = .returned (.tuple #[v', .int .i64 8]) ∧ LgNew w'.heap.size w'' v' R ∧ Below w'.heap.size w' w'') (hw : waits ≤ (W.queue.length : Int)) :
    Calls Try.prog 8 #[wdV W A, .int .i64 id, .int .i64 waits] w fun e w' => ∃ A', e = .returned (.tuple #[wdV zeroWd A', .int .i64 8]) ∧ WdLies w' zeroWd A' ∧ (∀ X, X < w.heap.size → Off zeroWd A' X) ∧ Below w.heap.size w w' := by
  have H0 : Hid (OwnAt _ _ _ _ _) := OwnAt.made ha
  obtain ⟨w2, hw2⟩ : ∃ w2, (w.alloc (.cells #[.slice A.ho W.lg.holds.length A.hc, .int .i64 W.lg.m0, .int .i64 W.lg.m1, .int .i64 W.lg.m2, .int .i64 W.lg.m3, .slice A.ga W.gates.length A.gc, .slice A.fa W.failed.length A.fc, .slice A.qa W.queue.length A.qc, .slice A.ma W.marks.length A.mc] 29)).alloc (.cells #[.slice none 0 0, .int .i64 0, .int .i64 0, .int .i64 0, .int .i64 0, .slice none 0 0, .slice none 0 0, .slice none 0 0, .slice none 0 0] 29) = w2 := ⟨_, rfl⟩
  rw [hw2] at H0
  have HW : Hid (_ = w2) := hw2
  clear hw2 ha
  unfold wdV
  obtain ⟨a0, a1, a2, a3, a4, a5, a6, a7, a8, _, a9⟩ := H0.out.bx
  have q0 : ((W.queue.length : Int) == 0) = true := by simp [h0]
  clear h0
  have HTK : Hid (∀ w', _) := htk
  clear htk
  have hq : inB id W.queue = false := by
    unfold doneB at hd
    cases e : inB id W.queue with
    | true => rw [e] at hd; simp at hd
    | false => rfl
  have hr : leaseB id W.lg.holds = false := by
    unfold doneB at hd
    rw [hq] at hd
    simpa using hd
  clear hd
  go_enter Try.func8, Try.ntmps8
  go_wp2_with fail
  rw [HW.out]
  refine (contains_any id W.queue _ _ w2 H0.out.ld.q).mono ?_
  rintro e w3 ⟨rfl, b3⟩
  rw [hq]
  have H1 : Hid (OwnAt _ _ _ _ _) := H0.out.keep b3
  clear a0 a1 a2 a3 a4 a5 a6 a7 a8 a9 b3 hq
  obtain ⟨a0, a1, a2, a3, a4, a5, a6, a7, a8, _, a9⟩ := H1.out.bx
  go_wp2_with fail
  refine (leases_any W.lg _ id w3 H1.out.ld.lg).mono ?_
  rintro e w4 ⟨rfl, b4⟩
  rw [hr]
  have H2 : Hid (OwnAt _ _ _ _ _) := H1.out.keep b4
  clear a0 a1 a2 a3 a4 a5 a6 a7 a8 a9 b4 hr
  obtain ⟨a0, a1, a2, a3, a4, a5, a6, a7, a8, _, a9⟩ := H2.out.bx
  go_wp2_with fail
  refine (HTK.out w4 H2.out.ld.lg).mono ?_
  rintro e w5 ⟨v', rfl, n5, b5⟩
  obtain ⟨ho1, hc1, rfl, m1, m2, m3, m4, mf⟩ := n5
  have H3 : Hid (OwnAt _ _ _ _ _) := H2.out.keep b5
  have HM : Hid (HoldsAt w5 ho1 R.holds ∧ Cap ho1 R.holds.length hc1) := ⟨m1, m2, m3, m4⟩
  have HFR : Hid (Fresh w4.heap.size ho1 R.holds) := mf
  have s4 := H2.out.zx.lt
  have s5 := b5.size
  clear m1 m2 m3 m4 mf b5
  unfold lgV
  have H4 : Hid (OwnAt _ _ _ _ _) := H3.out.keep (bel_alloc w5 (.cells #[.slice ho1 R.holds.length hc1, .int .i64 R.m0, .int .i64 R.m1, .int .i64 R.m2, .int .i64 R.m3] 25))
  clear a0 a1 a2 a3 a4 a5 a6 a7 a8 a9
  clear s4 s5 HM HFR H3 H2
  obtain ⟨a0, a1, a2, a3, a4, a5, a6, a7, a8, _, a9⟩ := H4.out.bx
  obtain ⟨z0, z1, z2, z3, z4, z5, z6, z7, z8, zf, z9⟩ := H4.out.zx
  go_wp2
  exact bodyPost_ret (v := .tuple #[.agg #[.slice none 0 0, .int .i64 0, .int .i64 0, .int .i64 0, .int .i64 0, .slice none 0 0, .slice none 0 0, .slice none 0 0, .slice none 0 0], .int .i64 8]) (by simp [results, Try.results8, go_sem, z0, z1, z2, z3, z4, z5, z6, z7, z8]) rfl ⟨zeroAd, rfl, zeroLies _, fun X _ => zeroOff X, set9_below H4.out.bl (by omega)⟩

set_option maxRecDepth 100000 in
set_option maxHeartbeats 400000 in
theorem ask_waits_a (W : Wd) (A : Ad) (id waits : Int) (w : World) (ha : WdLies w W A) (hf : Fits W) (hd : doneB W id = false) (h0 : W.queue.length ≠ 0) (hw : ¬ waits ≤ (W.queue.length : Int)) :
    Calls Try.prog 8 #[wdV W A, .int .i64 id, .int .i64 waits] w fun e w' => ∃ A', e = .returned (.tuple #[wdV { W with queue := W.queue ++ [id] } A', .int .i64 10]) ∧ WdLies w' { W with queue := W.queue ++ [id] } A' ∧ (∀ X, X < w.heap.size → Off { W with queue := W.queue ++ [id] } A' X) ∧ Below w.heap.size w w' := by
  have H0 : Hid (OwnAt _ _ _ _ _) := OwnAt.made ha
  obtain ⟨w2, hw2⟩ : ∃ w2, (w.alloc (.cells #[.slice A.ho W.lg.holds.length A.hc, .int .i64 W.lg.m0, .int .i64 W.lg.m1, .int .i64 W.lg.m2, .int .i64 W.lg.m3, .slice A.ga W.gates.length A.gc, .slice A.fa W.failed.length A.fc, .slice A.qa W.queue.length A.qc, .slice A.ma W.marks.length A.mc] 29)).alloc (.cells #[.slice none 0 0, .int .i64 0, .int .i64 0, .int .i64 0, .int .i64 0, .slice none 0 0, .slice none 0 0, .slice none 0 0, .slice none 0 0] 29) = w2 := ⟨_, rfl⟩
  rw [hw2] at H0
  have HW : Hid (_ = w2) := hw2
  clear hw2 ha
  unfold wdV
  obtain ⟨a0, a1, a2, a3, a4, a5, a6, a7, a8, _, a9⟩ := H0.out.bx
  have HF : Hid (Fits W) := hf
  clear hf
  obtain ⟨i3, hi3, hz3, hs3, hb3⟩ := info_parts Try.info3
  have q0 : ((W.queue.length : Int) == 0) = false := by simp [h0]
  clear h0
  have hq : inB id W.queue = false := by
    unfold doneB at hd
    cases e : inB id W.queue with
    | true => rw [e] at hd; simp at hd
    | false => rfl
  have hr : leaseB id W.lg.holds = false := by
    unfold doneB at hd
    rw [hq] at hd
    simpa using hd
  clear hd
  go_enter Try.func8, Try.ntmps8
  go_wp2_with fail
  rw [HW.out]
  refine (contains_any id W.queue _ _ w2 H0.out.ld.q).mono ?_
  rintro e w3 ⟨rfl, b3⟩
  rw [hq]
  have H1 : Hid (OwnAt _ _ _ _ _) := H0.out.keep b3
  clear a0 a1 a2 a3 a4 a5 a6 a7 a8 a9 b3 hq
  obtain ⟨a0, a1, a2, a3, a4, a5, a6, a7, a8, _, a9⟩ := H1.out.bx
  go_wp2_with fail
  refine (leases_any W.lg _ id w3 H1.out.ld.lg).mono ?_
  rintro e w4 ⟨rfl, b4⟩
  rw [hr]
  have H2 : Hid (OwnAt _ _ _ _ _) := H1.out.keep b4
  clear a0 a1 a2 a3 a4 a5 a6 a7 a8 a9 b4 hr
  obtain ⟨a0, a1, a2, a3, a4, a5, a6, a7, a8, _, a9⟩ := H2.out.bx
  have H4 := H2
  obtain ⟨w6, hw6⟩ : ∃ w6, w4 = w6 := ⟨_, rfl⟩
  rw [hw6] at H4 ⊢ a0 a1 a2 a3 a4 a5 a6 a7 a8 a9
  clear H2 hw6
  go_wp2_with fail
  refine (pown_any W A w6 H4.out.ld HF.out).mono ?_
  rintro e w7 ⟨A2, rfl, l7, o7, own7, al7, b7⟩
  have H5 : Hid (OwnAt _ _ _ _ _) := H4.out.keep b7
  have HL7 : Hid (WdLies w7 W A2) := l7
  have HO7 : Hid (∀ X, X < w6.heap.size → Off W A2 X) := o7
  have HW7 : Hid (w7.ownsRow w6.heap.size 3 1 (.slice A2.qa W.queue.length A2.qc) W.queue.length (icells W.queue)) := own7
  have HAL : Hid (Alone W A2) := al7
  have HS6 : Hid (w.heap.size + 1 < w6.heap.size) := H4.out.zx.lt
  have HS7 : Hid (w6.heap.size ≤ w7.heap.size) := b7.size
  clear a0 a1 a2 a3 a4 a5 a6 a7 a8 a9
  clear l7 o7 own7 b7 al7
  obtain ⟨a0, a1, a2, a3, a4, a5, a6, a7, a8, af, a9⟩ := H5.out.bx
  unfold wdV
  go_wp2_with (with_reducible refine Hid.out (p := wpList _ _ _ ({ dst := _, op := Op.load 26 _, type := _, pos := _, after := _, guard := _ } :: _) _ _) ?_)
  obtain ⟨w8, hw8⟩ : ∃ w8, set9 w7 w.heap.size (.slice A2.ho W.lg.holds.length A2.hc) (.int .i64 W.lg.m0) (.int .i64 W.lg.m1) (.int .i64 W.lg.m2) (.int .i64 W.lg.m3) (.slice A2.ga W.gates.length A2.gc) (.slice A2.fa W.failed.length A2.fc) (.slice A2.qa W.queue.length A2.qc) (.slice A2.ma W.marks.length A2.mc) = w8 := ⟨_, rfl⟩
  show wpList _ _ _ _ _ (set9 w7 w.heap.size (.slice A2.ho W.lg.holds.length A2.hc) (.int .i64 W.lg.m0) (.int .i64 W.lg.m1) (.int .i64 W.lg.m2) (.int .i64 W.lg.m3) (.slice A2.ga W.gates.length A2.gc) (.slice A2.fa W.failed.length A2.fc) (.slice A2.qa W.queue.length A2.qc) (.slice A2.ma W.marks.length A2.mc))
  rw [hw8]
  have HB8 : Hid (WBox w8 w.heap.size W A2) := by rw [← hw8]; exact Box9.set H5.out.bx _ _ _ _ _ _ _ _ _
  have HZ8 : Hid (ZBox w8 (w.heap.size + 1)) := by rw [← hw8]; exact Box9.far H5.out.zx (by omega) _ _ _ _ _ _ _ _ _
  have HL8 : Hid (WdLies w8 W A2) := by rw [← hw8]; exact Wd.far9 HL7.out (HO7.out w.heap.size (by have := HS6.out; omega))
  have HW8 : Hid (w8.ownsRow w6.heap.size 3 1 (.slice A2.qa W.queue.length A2.qc) W.queue.length (icells W.queue)) := by rw [← hw8]; exact owns_set9 HW7.out (by have := HS6.out; omega) _ _ _ _ _ _ _ _ _
  have HBL : Hid (Below w.heap.size w w8) := by rw [← hw8]; exact set9_below H5.out.bl (Nat.le_refl _)
  have HS8 : Hid (w6.heap.size ≤ w8.heap.size) := by rw [← hw8, set9_size]; exact HS7.out
  clear hw8 af
  clear a0 a1 a2 a3 a4 a5 a6 a7 a8 a9
  obtain ⟨a0, a1, a2, a3, a4, a5, a6, a7, a8, af, a9⟩ := HB8.out
  have xx : ¬ w.heap.size = w8.heap.size := by omega
  go_wp2_with (at_builtin; refine Hid.out ?_)
  have NW := World.news_of_block (cs := #[.int .i64 id]) (heap_alloc_new w8 (.cells #[.int .i64 id] 3))
  have HF1 := HF.out.q
  have hs8 := HS8.out
  refine wpList_append_lies _ rfl (.tmp 48) (.tmp 50) 26 rfl w6.heap.size 3 i3 _ 1 8 Try.underlying26 hi3 hz3 hs3 hb3 rfl (by decide) _ W.queue.length (icells W.queue) rfl (HW8.out.alloc _) ⟨w8.heap.size, 0, none⟩ 1 1 [.int .i64 id] rfl rfl NW (icells_one [id]) (by decide) (by unfold maxLen; omega) HF1 (by simp; omega) (w8.heap.size + 1) (by simp) ?_
  intro g cap w10 own10 gr10 _ _
  have b10 : Below w6.heap.size (w8.alloc (.cells #[.int .i64 id] 3)) w10 := (Below.refl _ _).grown gr10 (by simp; omega) (fun j hj => ((HW8.out.alloc (.cells #[.int .i64 id] 3)).lt j hj).1)
  have b8 : Below w6.heap.size w8 (w8.alloc (.cells #[.int .i64 id] 3)) := (Below.refl _ _).alloc hs8 _
  have L10 : WdLies w10 { W with queue := [] } A2 := others_grown (HL8.out.below (Nat.le_refl _) (bel_alloc _ _)) HAL.out (HW8.out.alloc _) gr10
  have own10' : w10.ownsRow w6.heap.size 3 1 (.slice (some ⟨g, 0, none⟩) (W.queue ++ [id]).length cap) (W.queue ++ [id]).length (icells (W.queue ++ [id])) := by rw [icells_append, List.length_append]; exact own10
  have HL10 : Hid (WdLies w10 { W with queue := W.queue ++ [id] } { A2 with qa := some ⟨g, 0, none⟩, qc := cap }) := { L10 with q := intsAt_of_owns own10' rfl (by unfold maxLen; simp; omega), qk := cap_of_owns own10' }
  have HOX : Hid (∀ X, X < w6.heap.size → Off { W with queue := W.queue ++ [id] } { A2 with qa := some ⟨g, 0, none⟩, qc := cap } X) := fun X hX => { HO7.out X hX with q := fun k off _ e => by have := (own10.lt g rfl).1; simp at e; omega }
  have hs6 := HS6.out
  have HB10 : Hid (WBox w10 w.heap.size W A2) := Box9.below (Box9.below HB8.out b8 (by omega)) b10 (by omega)
  have HZ10 : Hid (ZBox w10 (w.heap.size + 1)) := Box9.below (Box9.below HZ8.out b8 hs6) b10 hs6
  have HBL10 : Hid (Below w.heap.size w w10) := (HBL.out.trans (b8.mono (by omega))).trans (b10.mono (by omega))
  have HS6 : Hid (w.heap.size + 1 < w6.heap.size) := hs6
  clear b10 b8 L10 own10' own10 gr10 NW HF1 hs6 hs8 af xx
  clear a0 a1 a2 a3 a4 a5 a6 a7 a8 a9
  obtain ⟨a0, a1, a2, a3, a4, a5, a6, a7, a8, af, a9⟩ := HB10.out
  obtain ⟨z0, z1, z2, z3, z4, z5, z6, z7, z8, zf, z9⟩ := HZ10.out
  go_wp2_with (with_reducible refine Hid.out (p := wpList _ _ _ ({ dst := _, op := Op.load 29 _, type := _, pos := _, after := _, guard := _ } :: _) _ _) ?_)
  obtain ⟨w11, hw11⟩ : ∃ w11, w10.setCell ⟨w.heap.size, 7, none⟩ (.slice (some ⟨g, 0, none⟩) (W.queue.length + 1) cap) = w11 := ⟨_, rfl⟩
  show wpList _ _ _ _ _ (w10.setCell ⟨w.heap.size, 7, none⟩ (.slice (some ⟨g, 0, none⟩) (W.queue.length + 1) cap))
  rw [hw11]
  have HB11 : Hid (Box9 w11 w.heap.size (.slice A2.ho W.lg.holds.length A2.hc) (.int .i64 W.lg.m0) (.int .i64 W.lg.m1) (.int .i64 W.lg.m2) (.int .i64 W.lg.m3) (.slice A2.ga W.gates.length A2.gc) (.slice A2.fa W.failed.length A2.fc) (.slice (some ⟨g, 0, none⟩) (W.queue.length + 1) cap) (.slice A2.ma W.marks.length A2.mc)) := by rw [← hw11]; exact Box9.put7 HB10.out _
  have HZ11 : Hid (ZBox w11 (w.heap.size + 1)) := by rw [← hw11]; exact Box9.far1 HZ10.out (by omega) _
  have HL11 : Hid (WdLies w11 { W with queue := W.queue ++ [id] } { A2 with qa := some ⟨g, 0, none⟩, qc := cap }) := by rw [← hw11]; exact HL10.out.far (by simp) (fun k j hk => setCell_far _ _ _ _ _ _ hk) (HOX.out w.heap.size (by have := HS6.out; omega))
  have HBL11 : Hid (Below w.heap.size w w11) := by rw [← hw11]; exact HBL10.out.setCell (Nat.le_refl _) _
  clear hw11 af z0 z1 z2 z3 z4 z5 z6 z7 z8 z9 zf
  clear a0 a1 a2 a3 a4 a5 a6 a7 a8 a9
  obtain ⟨a0, a1, a2, a3, a4, a5, a6, a7, a8, af, a9⟩ := HB11.out
  obtain ⟨z0, z1, z2, z3, z4, z5, z6, z7, z8, zf, z9⟩ := HZ11.out
  have ql : W.queue.length + 1 = (W.queue ++ [id]).length := by simp
  have HQL : Hid (W.queue.length + 1 = (W.queue ++ [id]).length) := ql
  clear ql
  go_wp2
  exact bodyPost_ret (v := .tuple #[.agg #[.slice A2.ho W.lg.holds.length A2.hc, .int .i64 W.lg.m0, .int .i64 W.lg.m1, .int .i64 W.lg.m2, .int .i64 W.lg.m3, .slice A2.ga W.gates.length A2.gc, .slice A2.fa W.failed.length A2.fc, .slice (some ⟨g, 0, none⟩) (W.queue.length + 1) cap, .slice A2.ma W.marks.length A2.mc], .int .i64 10]) (by simp [results, Try.results8, go_sem, z0, z1, z2, z3, z4, z5, z6, z7, z8]) rfl ⟨{ A2 with qa := some ⟨g, 0, none⟩, qc := cap }, by rw [HQL.out], Wd.far9 HL11.out (HOX.out (w.heap.size + 1) HS6.out), fun X hX => HOX.out X (by have := HS6.out; omega), set9_below HBL11.out (by omega)⟩

set_option maxRecDepth 100000 in
set_option maxHeartbeats 400000 in
theorem ask_waits_b (W : Wd) (A : Ad) (id waits : Int) (w : World) (ha : WdLies w W A) (hf : Fits W) (hd : doneB W id = false) (R : Lg) (h0 : W.queue.length = 0) (htk : ∀ w', LgAt w' (lgV W.lg A.ho A.hc) W.lg → Calls Try.prog 19 #[lgV W.lg A.ho A.hc, .int .i64 id] w' fun e w'' => ∃ v', e = .returned (.tuple #[v', .int .i64 8]) ∧ LgNew w'.heap.size w'' v' R ∧ Below w'.heap.size w' w'') (hw : ¬ waits ≤ (W.queue.length : Int)) :
    Calls Try.prog 8 #[wdV W A, .int .i64 id, .int .i64 waits] w fun e w' => ∃ A', e = .returned (.tuple #[wdV { W with queue := W.queue ++ [id] } A', .int .i64 10]) ∧ WdLies w' { W with queue := W.queue ++ [id] } A' ∧ (∀ X, X < w.heap.size → Off { W with queue := W.queue ++ [id] } A' X) ∧ Below w.heap.size w w' := by
  have H0 : Hid (OwnAt _ _ _ _ _) := OwnAt.made ha
  obtain ⟨w2, hw2⟩ : ∃ w2, (w.alloc (.cells #[.slice A.ho W.lg.holds.length A.hc, .int .i64 W.lg.m0, .int .i64 W.lg.m1, .int .i64 W.lg.m2, .int .i64 W.lg.m3, .slice A.ga W.gates.length A.gc, .slice A.fa W.failed.length A.fc, .slice A.qa W.queue.length A.qc, .slice A.ma W.marks.length A.mc] 29)).alloc (.cells #[.slice none 0 0, .int .i64 0, .int .i64 0, .int .i64 0, .int .i64 0, .slice none 0 0, .slice none 0 0, .slice none 0 0, .slice none 0 0] 29) = w2 := ⟨_, rfl⟩
  rw [hw2] at H0
  have HW : Hid (_ = w2) := hw2
  clear hw2 ha
  unfold wdV
  obtain ⟨a0, a1, a2, a3, a4, a5, a6, a7, a8, _, a9⟩ := H0.out.bx
  have HF : Hid (Fits W) := hf
  clear hf
  obtain ⟨i3, hi3, hz3, hs3, hb3⟩ := info_parts Try.info3
  have q0 : ((W.queue.length : Int) == 0) = true := by simp [h0]
  clear h0
  have HTK : Hid (∀ w', _) := htk
  clear htk
  have hq : inB id W.queue = false := by
    unfold doneB at hd
    cases e : inB id W.queue with
    | true => rw [e] at hd; simp at hd
    | false => rfl
  have hr : leaseB id W.lg.holds = false := by
    unfold doneB at hd
    rw [hq] at hd
    simpa using hd
  clear hd
  go_enter Try.func8, Try.ntmps8
  go_wp2_with fail
  rw [HW.out]
  refine (contains_any id W.queue _ _ w2 H0.out.ld.q).mono ?_
  rintro e w3 ⟨rfl, b3⟩
  rw [hq]
  have H1 : Hid (OwnAt _ _ _ _ _) := H0.out.keep b3
  clear a0 a1 a2 a3 a4 a5 a6 a7 a8 a9 b3 hq
  obtain ⟨a0, a1, a2, a3, a4, a5, a6, a7, a8, _, a9⟩ := H1.out.bx
  go_wp2_with fail
  refine (leases_any W.lg _ id w3 H1.out.ld.lg).mono ?_
  rintro e w4 ⟨rfl, b4⟩
  rw [hr]
  have H2 : Hid (OwnAt _ _ _ _ _) := H1.out.keep b4
  clear a0 a1 a2 a3 a4 a5 a6 a7 a8 a9 b4 hr
  obtain ⟨a0, a1, a2, a3, a4, a5, a6, a7, a8, _, a9⟩ := H2.out.bx
  go_wp2_with fail
  refine (HTK.out w4 H2.out.ld.lg).mono ?_
  rintro e w5 ⟨v', rfl, n5, b5⟩
  obtain ⟨ho1, hc1, rfl, m1, m2, m3, m4, mf⟩ := n5
  have H3 : Hid (OwnAt _ _ _ _ _) := H2.out.keep b5
  have HM : Hid (HoldsAt w5 ho1 R.holds ∧ Cap ho1 R.holds.length hc1) := ⟨m1, m2, m3, m4⟩
  have HFR : Hid (Fresh w4.heap.size ho1 R.holds) := mf
  have s4 := H2.out.zx.lt
  have s5 := b5.size
  clear m1 m2 m3 m4 mf b5
  unfold lgV
  have H4 : Hid (OwnAt _ _ _ _ _) := H3.out.keep (bel_alloc w5 (.cells #[.slice ho1 R.holds.length hc1, .int .i64 R.m0, .int .i64 R.m1, .int .i64 R.m2, .int .i64 R.m3] 25))
  clear a0 a1 a2 a3 a4 a5 a6 a7 a8 a9
  clear s4 s5 HM HFR H3 H2
  obtain ⟨a0, a1, a2, a3, a4, a5, a6, a7, a8, _, a9⟩ := H4.out.bx
  go_wp2_with fail
  obtain ⟨w6, hw6⟩ : ∃ w6, w5.alloc (.cells #[.slice ho1 R.holds.length hc1, .int .i64 R.m0, .int .i64 R.m1, .int .i64 R.m2, .int .i64 R.m3] 25) = w6 := ⟨_, rfl⟩
  rw [hw6] at H4 ⊢ a0 a1 a2 a3 a4 a5 a6 a7 a8 a9
  clear hw6
  refine (pown_any W A w6 H4.out.ld HF.out).mono ?_
  rintro e w7 ⟨A2, rfl, l7, o7, own7, al7, b7⟩
  have H5 : Hid (OwnAt _ _ _ _ _) := H4.out.keep b7
  have HL7 : Hid (WdLies w7 W A2) := l7
  have HO7 : Hid (∀ X, X < w6.heap.size → Off W A2 X) := o7
  have HW7 : Hid (w7.ownsRow w6.heap.size 3 1 (.slice A2.qa W.queue.length A2.qc) W.queue.length (icells W.queue)) := own7
  have HAL : Hid (Alone W A2) := al7
  have HS6 : Hid (w.heap.size + 1 < w6.heap.size) := H4.out.zx.lt
  have HS7 : Hid (w6.heap.size ≤ w7.heap.size) := b7.size
  clear a0 a1 a2 a3 a4 a5 a6 a7 a8 a9
  clear l7 o7 own7 b7 al7
  obtain ⟨a0, a1, a2, a3, a4, a5, a6, a7, a8, af, a9⟩ := H5.out.bx
  unfold wdV
  go_wp2_with (with_reducible refine Hid.out (p := wpList _ _ _ ({ dst := _, op := Op.load 26 _, type := _, pos := _, after := _, guard := _ } :: _) _ _) ?_)
  obtain ⟨w8, hw8⟩ : ∃ w8, set9 w7 w.heap.size (.slice A2.ho W.lg.holds.length A2.hc) (.int .i64 W.lg.m0) (.int .i64 W.lg.m1) (.int .i64 W.lg.m2) (.int .i64 W.lg.m3) (.slice A2.ga W.gates.length A2.gc) (.slice A2.fa W.failed.length A2.fc) (.slice A2.qa W.queue.length A2.qc) (.slice A2.ma W.marks.length A2.mc) = w8 := ⟨_, rfl⟩
  show wpList _ _ _ _ _ (set9 w7 w.heap.size (.slice A2.ho W.lg.holds.length A2.hc) (.int .i64 W.lg.m0) (.int .i64 W.lg.m1) (.int .i64 W.lg.m2) (.int .i64 W.lg.m3) (.slice A2.ga W.gates.length A2.gc) (.slice A2.fa W.failed.length A2.fc) (.slice A2.qa W.queue.length A2.qc) (.slice A2.ma W.marks.length A2.mc))
  rw [hw8]
  have HB8 : Hid (WBox w8 w.heap.size W A2) := by rw [← hw8]; exact Box9.set H5.out.bx _ _ _ _ _ _ _ _ _
  have HZ8 : Hid (ZBox w8 (w.heap.size + 1)) := by rw [← hw8]; exact Box9.far H5.out.zx (by omega) _ _ _ _ _ _ _ _ _
  have HL8 : Hid (WdLies w8 W A2) := by rw [← hw8]; exact Wd.far9 HL7.out (HO7.out w.heap.size (by have := HS6.out; omega))
  have HW8 : Hid (w8.ownsRow w6.heap.size 3 1 (.slice A2.qa W.queue.length A2.qc) W.queue.length (icells W.queue)) := by rw [← hw8]; exact owns_set9 HW7.out (by have := HS6.out; omega) _ _ _ _ _ _ _ _ _
  have HBL : Hid (Below w.heap.size w w8) := by rw [← hw8]; exact set9_below H5.out.bl (Nat.le_refl _)
  have HS8 : Hid (w6.heap.size ≤ w8.heap.size) := by rw [← hw8, set9_size]; exact HS7.out
  clear hw8 af
  clear a0 a1 a2 a3 a4 a5 a6 a7 a8 a9
  obtain ⟨a0, a1, a2, a3, a4, a5, a6, a7, a8, af, a9⟩ := HB8.out
  have xx : ¬ w.heap.size = w8.heap.size := by omega
  go_wp2_with (at_builtin; refine Hid.out ?_)
  have NW := World.news_of_block (cs := #[.int .i64 id]) (heap_alloc_new w8 (.cells #[.int .i64 id] 3))
  have HF1 := HF.out.q
  have hs8 := HS8.out
  refine wpList_append_lies _ rfl (.tmp 48) (.tmp 50) 26 rfl w6.heap.size 3 i3 _ 1 8 Try.underlying26 hi3 hz3 hs3 hb3 rfl (by decide) _ W.queue.length (icells W.queue) rfl (HW8.out.alloc _) ⟨w8.heap.size, 0, none⟩ 1 1 [.int .i64 id] rfl rfl NW (icells_one [id]) (by decide) (by unfold maxLen; omega) HF1 (by simp; omega) (w8.heap.size + 1) (by simp) ?_
  intro g cap w10 own10 gr10 _ _
  have b10 : Below w6.heap.size (w8.alloc (.cells #[.int .i64 id] 3)) w10 := (Below.refl _ _).grown gr10 (by simp; omega) (fun j hj => ((HW8.out.alloc (.cells #[.int .i64 id] 3)).lt j hj).1)
  have b8 : Below w6.heap.size w8 (w8.alloc (.cells #[.int .i64 id] 3)) := (Below.refl _ _).alloc hs8 _
  have L10 : WdLies w10 { W with queue := [] } A2 := others_grown (HL8.out.below (Nat.le_refl _) (bel_alloc _ _)) HAL.out (HW8.out.alloc _) gr10
  have own10' : w10.ownsRow w6.heap.size 3 1 (.slice (some ⟨g, 0, none⟩) (W.queue ++ [id]).length cap) (W.queue ++ [id]).length (icells (W.queue ++ [id])) := by rw [icells_append, List.length_append]; exact own10
  have HL10 : Hid (WdLies w10 { W with queue := W.queue ++ [id] } { A2 with qa := some ⟨g, 0, none⟩, qc := cap }) := { L10 with q := intsAt_of_owns own10' rfl (by unfold maxLen; simp; omega), qk := cap_of_owns own10' }
  have HOX : Hid (∀ X, X < w6.heap.size → Off { W with queue := W.queue ++ [id] } { A2 with qa := some ⟨g, 0, none⟩, qc := cap } X) := fun X hX => { HO7.out X hX with q := fun k off _ e => by have := (own10.lt g rfl).1; simp at e; omega }
  have hs6 := HS6.out
  have HB10 : Hid (WBox w10 w.heap.size W A2) := Box9.below (Box9.below HB8.out b8 (by omega)) b10 (by omega)
  have HZ10 : Hid (ZBox w10 (w.heap.size + 1)) := Box9.below (Box9.below HZ8.out b8 hs6) b10 hs6
  have HBL10 : Hid (Below w.heap.size w w10) := (HBL.out.trans (b8.mono (by omega))).trans (b10.mono (by omega))
  have HS6 : Hid (w.heap.size + 1 < w6.heap.size) := hs6
  clear b10 b8 L10 own10' own10 gr10 NW HF1 hs6 hs8 af xx
  clear a0 a1 a2 a3 a4 a5 a6 a7 a8 a9
  obtain ⟨a0, a1, a2, a3, a4, a5, a6, a7, a8, af, a9⟩ := HB10.out
  obtain ⟨z0, z1, z2, z3, z4, z5, z6, z7, z8, zf, z9⟩ := HZ10.out
  go_wp2_with (with_reducible refine Hid.out (p := wpList _ _ _ ({ dst := _, op := Op.load 29 _, type := _, pos := _, after := _, guard := _ } :: _) _ _) ?_)
  obtain ⟨w11, hw11⟩ : ∃ w11, w10.setCell ⟨w.heap.size, 7, none⟩ (.slice (some ⟨g, 0, none⟩) (W.queue.length + 1) cap) = w11 := ⟨_, rfl⟩
  show wpList _ _ _ _ _ (w10.setCell ⟨w.heap.size, 7, none⟩ (.slice (some ⟨g, 0, none⟩) (W.queue.length + 1) cap))
  rw [hw11]
  have HB11 : Hid (Box9 w11 w.heap.size (.slice A2.ho W.lg.holds.length A2.hc) (.int .i64 W.lg.m0) (.int .i64 W.lg.m1) (.int .i64 W.lg.m2) (.int .i64 W.lg.m3) (.slice A2.ga W.gates.length A2.gc) (.slice A2.fa W.failed.length A2.fc) (.slice (some ⟨g, 0, none⟩) (W.queue.length + 1) cap) (.slice A2.ma W.marks.length A2.mc)) := by rw [← hw11]; exact Box9.put7 HB10.out _
  have HZ11 : Hid (ZBox w11 (w.heap.size + 1)) := by rw [← hw11]; exact Box9.far1 HZ10.out (by omega) _
  have HL11 : Hid (WdLies w11 { W with queue := W.queue ++ [id] } { A2 with qa := some ⟨g, 0, none⟩, qc := cap }) := by rw [← hw11]; exact HL10.out.far (by simp) (fun k j hk => setCell_far _ _ _ _ _ _ hk) (HOX.out w.heap.size (by have := HS6.out; omega))
  have HBL11 : Hid (Below w.heap.size w w11) := by rw [← hw11]; exact HBL10.out.setCell (Nat.le_refl _) _
  clear hw11 af z0 z1 z2 z3 z4 z5 z6 z7 z8 z9 zf
  clear a0 a1 a2 a3 a4 a5 a6 a7 a8 a9
  obtain ⟨a0, a1, a2, a3, a4, a5, a6, a7, a8, af, a9⟩ := HB11.out
  obtain ⟨z0, z1, z2, z3, z4, z5, z6, z7, z8, zf, z9⟩ := HZ11.out
  have ql : W.queue.length + 1 = (W.queue ++ [id]).length := by simp
  have HQL : Hid (W.queue.length + 1 = (W.queue ++ [id]).length) := ql
  clear ql
  go_wp2
  exact bodyPost_ret (v := .tuple #[.agg #[.slice A2.ho W.lg.holds.length A2.hc, .int .i64 W.lg.m0, .int .i64 W.lg.m1, .int .i64 W.lg.m2, .int .i64 W.lg.m3, .slice A2.ga W.gates.length A2.gc, .slice A2.fa W.failed.length A2.fc, .slice (some ⟨g, 0, none⟩) (W.queue.length + 1) cap, .slice A2.ma W.marks.length A2.mc], .int .i64 10]) (by simp [results, Try.results8, go_sem, z0, z1, z2, z3, z4, z5, z6, z7, z8]) rfl ⟨{ A2 with qa := some ⟨g, 0, none⟩, qc := cap }, by rw [HQL.out], Wd.far9 HL11.out (HOX.out (w.heap.size + 1) HS6.out), fun X hX => HOX.out X (by have := HS6.out; omega), set9_below HBL11.out (by omega)⟩

theorem takeE_two (l : Lg) : takeE l 2 = 0 ∨ takeE l 2 = 8 := by
  unfold takeE
  rw [if_neg (by omega)]
  by_cases h : mostOf l 2 ≤ (countL 2 l.holds : Int)
  · rw [if_pos h]; exact .inr rfl
  · rw [if_neg h]; exact .inl rfl
/-- What Ask comes to, in any world. -/
theorem ask_any (W : Wd) (A : Ad) (id waits : Int) (w : World) (ha : WdLies w W A) (hf : Fits W) :
    Calls Try.prog 8 #[wdV W A, .int .i64 id, .int .i64 waits] w fun e w' => ∃ A', e = .returned (.tuple #[wdV (askR W id waits) A', .int .i64 (askE W id waits)]) ∧ WdLies w' (askR W id waits) A' ∧ (∀ X, X < w.heap.size → Off (askR W id waits) A' X) ∧ Below w.heap.size w w' := by
  unfold askR askE
  by_cases hd : doneB W id = true
  · rw [if_pos hd, if_pos hd]
    exact ask_done W A id waits w ha hd
  · rw [if_neg hd, if_neg hd]
    have hd' : doneB W id = false := by simpa using hd
    by_cases h0 : W.queue.length = 0
    · have htk := fun w' hl => ptake_any W.lg (lgV W.lg A.ho A.hc) id w' hl hf.h
      rcases takeE_two W.lg with ht | ht
      · rw [if_pos ⟨h0, ht⟩, if_pos ⟨h0, ht⟩]
        rw [ht] at htk
        exact ask_takes W A id waits w ha _ hf hd' h0 htk
      · have hn : ¬ (W.queue.length = 0 ∧ takeE W.lg 2 = 0) := fun h => by rw [ht] at h; omega
        rw [if_neg hn, if_neg hn]
        rw [ht] at htk
        by_cases hw : waits ≤ (W.queue.length : Int)
        · rw [if_pos hw, if_pos hw]
          exact ask_full_b W A id waits w ha hd' _ h0 htk hw
        · rw [if_neg hw, if_neg hw]
          exact ask_waits_b W A id waits w ha hf hd' _ h0 htk hw
    · have hn : ¬ (W.queue.length = 0 ∧ takeE W.lg 2 = 0) := fun h => h0 h.1
      rw [if_neg hn, if_neg hn]
      by_cases hw : waits ≤ (W.queue.length : Int)
      · rw [if_pos hw, if_pos hw]
        exact ask_full_a W A id waits w ha hd' h0 hw
      · rw [if_neg hw, if_neg hw]
        exact ask_waits_a W A id waits w ha hf hd' h0 hw
end Go.Proofs.Ytnhndieoaceofaa
