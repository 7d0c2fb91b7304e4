/- A world, as it lies: what is held, three lists of numbers, and the marks. -/
import Derived.Test.YtnhndieoaceofaaLedW
namespace Go.Proofs.Ytnhndieoaceofaa
open Go.RowKit

/-- A slice of whole numbers, as it lies. -/
structure IntsAt (w : World) (ao : Option Addr) (xs : List Int) : Prop where
  lies : ∀ i (h : i < xs.length), ∃ b off, ao = some ⟨b, off, none⟩ ∧ b < w.heap.size ∧ w.cell? ⟨b, off + i, none⟩ = some (.int .i64 xs[i])
  small : xs.length ≤ maxLen
theorem IntsAt.below {w w' : World} {B : Nat} {ao : Option Addr} {xs : List Int} (h : IntsAt w ao xs) (hB : w.heap.size ≤ B) (hb : Below B w w') : IntsAt w' ao xs where
  lies i hi := by
    obtain ⟨b, off, h1, h2, h3⟩ := h.lies i hi
    have hsz := hb.size
    exact ⟨b, off, h1, by omega, by rw [hb.cell (p := ⟨b, off + i, none⟩) (by show b < B; omega)]; exact h3⟩
  small := h.small
theorem IntsAt.far {W W' : World} {ao : Option Addr} {xs : List Int} {b : Nat} (h : IntsAt W ao xs) (hz : W.heap.size ≤ W'.heap.size) (hc : ∀ k j, k ≠ b → W'.cell? ⟨k, j, none⟩ = W.cell? ⟨k, j, none⟩) (hn : ∀ k off, xs ≠ [] → ao = some ⟨k, off, none⟩ → k ≠ b) : IntsAt W' ao xs where
  lies i hi := by
    obtain ⟨k, off, h1, h2, h3⟩ := h.lies i hi
    have hk := hn k off (fun e => by rw [e] at hi; simp at hi) h1
    exact ⟨k, off, h1, by omega, by rw [hc _ _ hk]; exact h3⟩
  small := h.small
theorem ints_zero {w : World} {ao : Option Addr} {xs : List Int} (h : IntsAt w ao xs) (he : ao = none) : xs.length = 0 := by
  rcases Nat.eq_zero_or_pos xs.length with h0 | h0
  · exact h0
  · obtain ⟨_, _, e, _⟩ := h.lies 0 h0; rw [he] at e; cases e

/-- The cells of numbers. -/
def icells (xs : List Int) : List Value := xs.map (Value.int .i64)
theorem icells_length (xs : List Int) : (icells xs).length = xs.length * 1 := by simp [icells]
theorem icells_append (a b : List Int) : icells (a ++ b) = icells a ++ icells b := by simp [icells]
theorem icells_one (xs : List Int) : ∀ u ∈ icells xs, u.oneCell' = true := by
  intro u h
  simp [icells] at h
  obtain ⟨x, _, rfl⟩ := h
  rfl
theorem IntsAt.news {w : World} {ao : Option Addr} {xs : List Int} (h : IntsAt w ao xs) : ∀ ad, ao = some ad → ∀ j u, (icells xs)[j]? = some u → w.cell? (ad.add j) = some u := by
  intro ad e j u hu
  obtain ⟨hj, hju⟩ := List.getElem?_eq_some_iff.1 hu
  have hj' : j < xs.length := by simpa [icells] using hj
  obtain ⟨b, off, e', _, c0⟩ := h.lies j hj'
  rw [e] at e'
  obtain rfl : ad = ⟨b, off, none⟩ := Option.some.inj e'
  rw [add_none, c0, ← hju]
  simp [icells]
theorem intsAt_of_owns {w : World} {base c n : Nat} {ao : Option Addr} {xs : List Int} (h : w.ownsRow base 3 1 (.slice ao n c) n (icells xs)) (hn : xs.length = n) (hsm : xs.length ≤ maxLen) : IntsAt w ao xs where
  lies i hi := by
    rcases h.2 with ⟨_, h0⟩ | ⟨g, cap, cur, hv, hb, hg, hrest⟩
    · omega
    · have hv' : ao = some ⟨g, 0, none⟩ := by simp at hv; exact hv.1
      subst hv'
      have hlt := (h.lt g rfl).2
      have hc := h.cells (g := g) rfl
      refine ⟨g, 0, rfl, hlt, ?_⟩
      rw [← add_none]
      exact hc i _ (by simp [icells, hi])
  small := hsm

/-- What a slice's address and room must be. -/
def Cap (ao : Option Addr) (n c : Nat) : Prop := (ao = none → c = 0) ∧ n ≤ c ∧ c ≤ maxLen
theorem cap_of_owns {w : World} {base n c size : Nat} {e : TypeId} {ao : Option Addr} {xs : List Value} (h : w.ownsRow base e size (.slice ao n c) n xs) : Cap ao n c := by
  unfold World.ownsRow at h
  rcases h.2 with ⟨hv, h0⟩ | ⟨g, cap, cur, hv, hb, hg, h5, h6, hrest⟩
  · simp only [Value.slice.injEq] at hv; rw [h0, hv.2.2]; exact ⟨fun _ => rfl, Nat.le_refl _, by unfold maxLen; omega⟩
  · simp only [Value.slice.injEq, true_and] at hv; rw [hv.1, hv.2]; exact ⟨fun e => (by cases e), h5, h6⟩
theorem marksAt_of_owns {w : World} {e : TypeId} {base c n : Nat} {ao : Option Addr} {hs : List Ho} (h : w.ownsRow base e 3 (.slice ao n c) n (hocells hs)) (hn : hs.length = n) (hsm : hs.length ≤ maxLen) : HoldsAt w ao hs where
  lies i hi := by
    rcases h.2 with ⟨_, h0⟩ | ⟨g, cap, cur, hv, hb, hg, hrest⟩
    · omega
    · have hv' : ao = some ⟨g, 0, none⟩ := by simp at hv; exact hv.1
      subst hv'
      have hlt := (h.lt g rfl).2
      have hc := h.cells (g := g) rfl
      have hh := hocells_at hs i hi
      refine ⟨g, 0, rfl, hlt, ?_, ?_, ?_⟩
      · rw [← add_none]; exact hc _ _ hh.1
      · rw [Nat.add_assoc, ← add_none]; exact hc _ _ hh.2.1
      · rw [Nat.add_assoc, ← add_none]; exact hc _ _ hh.2.2
  small := hsm

/-- A world as data; where its lists lie; its value. -/
structure Wd where
  lg : Lg
  gates : List Int
  failed : List Int
  queue : List Int
  marks : List Ho
structure Ad where
  ho : Option Addr
  hc : Nat
  ga : Option Addr
  gc : Nat
  fa : Option Addr
  fc : Nat
  qa : Option Addr
  qc : Nat
  ma : Option Addr
  mc : Nat
def wdV (W : Wd) (A : Ad) : Value := .agg #[.slice A.ho W.lg.holds.length A.hc, .int .i64 W.lg.m0, .int .i64 W.lg.m1, .int .i64 W.lg.m2, .int .i64 W.lg.m3, .slice A.ga W.gates.length A.gc, .slice A.fa W.failed.length A.fc, .slice A.qa W.queue.length A.qc, .slice A.ma W.marks.length A.mc]
structure WdLies (w : World) (W : Wd) (A : Ad) : Prop where
  h : HoldsAt w A.ho W.lg.holds
  hk : Cap A.ho W.lg.holds.length A.hc
  g : IntsAt w A.ga W.gates
  gk : Cap A.ga W.gates.length A.gc
  f : IntsAt w A.fa W.failed
  fk : Cap A.fa W.failed.length A.fc
  q : IntsAt w A.qa W.queue
  qk : Cap A.qa W.queue.length A.qc
  m : HoldsAt w A.ma W.marks
  kk : Cap A.ma W.marks.length A.mc
theorem WdLies.below {w w' : World} {B : Nat} {W : Wd} {A : Ad} (h : WdLies w W A) (hB : w.heap.size ≤ B) (hb : Below B w w') : WdLies w' W A :=
  ⟨h.h.below hB hb, h.hk, h.g.below hB hb, h.gk, h.f.below hB hb, h.fk, h.q.below hB hb, h.qk, h.m.below hB hb, h.kk⟩
/-- No list of it lies in this block. -/
structure Off (W : Wd) (A : Ad) (X : Nat) : Prop where
  h : ∀ k off, W.lg.holds ≠ [] → A.ho = some ⟨k, off, none⟩ → k ≠ X
  g : ∀ k off, W.gates ≠ [] → A.ga = some ⟨k, off, none⟩ → k ≠ X
  f : ∀ k off, W.failed ≠ [] → A.fa = some ⟨k, off, none⟩ → k ≠ X
  q : ∀ k off, W.queue ≠ [] → A.qa = some ⟨k, off, none⟩ → k ≠ X
  m : ∀ k off, W.marks ≠ [] → A.ma = some ⟨k, off, none⟩ → k ≠ X
theorem WdLies.far {w w' : World} {X : Nat} {W : Wd} {A : Ad} (h : WdLies w W A) (hz : w.heap.size ≤ w'.heap.size) (hc : ∀ k j, k ≠ X → w'.cell? ⟨k, j, none⟩ = w.cell? ⟨k, j, none⟩) (ho : Off W A X) : WdLies w' W A :=
  ⟨h.h.far hz hc ho.h, h.hk, h.g.far hz hc ho.g, h.gk, h.f.far hz hc ho.f, h.fk, h.q.far hz hc ho.q, h.qk, h.m.far hz hc ho.m, h.kk⟩
theorem holds_ne {w : World} {ao : Option Addr} {hs : List Ho} {X : Nat} (h : HoldsAt w ao hs) (hX : w.heap.size ≤ X) : ∀ k off, hs ≠ [] → ao = some ⟨k, off, none⟩ → k ≠ X := by
  intro b off hne e
  obtain ⟨b', off', e', hlt, _⟩ := h.lies 0 (List.length_pos_iff.2 hne)
  rw [e] at e'
  simp at e'
  obtain ⟨rfl, rfl⟩ := e'
  omega
theorem ints_ne {w : World} {ao : Option Addr} {hs : List Int} {X : Nat} (h : IntsAt w ao hs) (hX : w.heap.size ≤ X) : ∀ k off, hs ≠ [] → ao = some ⟨k, off, none⟩ → k ≠ X := by
  intro b off hne e
  obtain ⟨b', off', e', hlt, _⟩ := h.lies 0 (List.length_pos_iff.2 hne)
  rw [e] at e'
  simp at e'
  obtain ⟨rfl, rfl⟩ := e'
  omega
/-- What lay there ahead of a block is off it. -/
theorem WdLies.off {w : World} {W : Wd} {A : Ad} {X : Nat} (h : WdLies w W A) (hX : w.heap.size ≤ X) : Off W A X :=
  ⟨holds_ne h.h hX, ints_ne h.g hX, ints_ne h.f hX, ints_ne h.q hX, holds_ne h.m hX⟩
theorem WdLies.lg {w : World} {W : Wd} {A : Ad} (h : WdLies w W A) : LgAt w (lgV W.lg A.ho A.hc) W.lg := ⟨A.ho, A.hc, rfl, h.h, h.hk⟩
/-- There is room to write it anew, and one more. -/
structure Fits (W : Wd) : Prop where
  h : (W.lg.holds.length + 1) * 24 ≤ 140737488355328
  g : W.gates.length * 8 ≤ 140737488355328
  f : W.failed.length * 8 ≤ 140737488355328
  q : (W.queue.length + 1) * 8 ≤ 140737488355328
  m : W.marks.length * 24 ≤ 140737488355328
def zeroWd : Wd := ⟨zeroLg, [], [], [], []⟩
def zeroAd : Ad := ⟨none, 0, none, 0, none, 0, none, 0, none, 0⟩
theorem holds_nil (w : World) (ao : Option Addr) : HoldsAt w ao [] := ⟨fun i h => absurd h (by simp), by simp⟩
theorem ints_nil (w : World) (ao : Option Addr) : IntsAt w ao [] := ⟨fun i h => absurd h (by simp), by simp⟩
theorem cap_nil : Cap none 0 0 := ⟨fun _ => rfl, Nat.le_refl _, by unfold maxLen; omega⟩
theorem zeroLies (w : World) : WdLies w zeroWd zeroAd :=
  ⟨holds_nil _ _, cap_nil, ints_nil _ _, cap_nil, ints_nil _ _, cap_nil, ints_nil _ _, cap_nil, holds_nil _ _, cap_nil⟩
theorem zeroOff (X : Nat) : Off zeroWd zeroAd X := ⟨fun _ _ h => absurd rfl h, fun _ _ h => absurd rfl h, fun _ _ h => absurd rfl h, fun _ _ h => absurd rfl h, fun _ _ h => absurd rfl h⟩

/-- A box of nine cells, as it lies. -/
structure Box9 (W : World) (b : Nat) (v0 v1 v2 v3 v4 v5 v6 v7 v8 : Value) : Prop where
  c0 : W.cell? ⟨b, 0, none⟩ = some v0
  c1 : W.cell? ⟨b, 1, none⟩ = some v1
  c2 : W.cell? ⟨b, 2, none⟩ = some v2
  c3 : W.cell? ⟨b, 3, none⟩ = some v3
  c4 : W.cell? ⟨b, 4, none⟩ = some v4
  c5 : W.cell? ⟨b, 5, none⟩ = some v5
  c6 : W.cell? ⟨b, 6, none⟩ = some v6
  c7 : W.cell? ⟨b, 7, none⟩ = some v7
  c8 : W.cell? ⟨b, 8, none⟩ = some v8
  fz : ∀ j, W.frozen? ⟨b, j, none⟩ = false
  lt : b < W.heap.size
theorem Box9.below {W W' : World} {B b : Nat} {v0 v1 v2 v3 v4 v5 v6 v7 v8 : Value} (h : Box9 W b v0 v1 v2 v3 v4 v5 v6 v7 v8) (hb : Below B W W') (hB : b < B) : Box9 W' b v0 v1 v2 v3 v4 v5 v6 v7 v8 := by
  have e := fun j => hb.cell (p := ⟨b, j, none⟩) hB
  exact ⟨by rw [e]; exact h.c0, by rw [e]; exact h.c1, by rw [e]; exact h.c2, by rw [e]; exact h.c3, by rw [e]; exact h.c4, by rw [e]; exact h.c5, by rw [e]; exact h.c6, by rw [e]; exact h.c7, by rw [e]; exact h.c8, fun j => by rw [hb.frozen (p := ⟨b, j, none⟩) hB]; exact h.fz j, Nat.lt_of_lt_of_le h.lt hb.size⟩
theorem Box9.keep {W W' : World} {b : Nat} {v0 v1 v2 v3 v4 v5 v6 v7 v8 : Value} (h : Box9 W b v0 v1 v2 v3 v4 v5 v6 v7 v8) (hb : Below W.heap.size W W') : Box9 W' b v0 v1 v2 v3 v4 v5 v6 v7 v8 := h.below hb h.lt
theorem Box9.made (W : World) (t : TypeId) (v0 v1 v2 v3 v4 v5 v6 v7 v8 : Value) : Box9 (W.alloc (.cells #[v0, v1, v2, v3, v4, v5, v6, v7, v8] t)) W.heap.size v0 v1 v2 v3 v4 v5 v6 v7 v8 :=
  ⟨by simp, by simp, by simp, by simp, by simp, by simp, by simp, by simp, by simp, fun j => by simp, by simp⟩
theorem Box9.made' {W : World} {n : Nat} (hn : W.heap.size = n) (t : TypeId) (v0 v1 v2 v3 v4 v5 v6 v7 v8 : Value) : Box9 (W.alloc (.cells #[v0, v1, v2, v3, v4, v5, v6, v7, v8] t)) n v0 v1 v2 v3 v4 v5 v6 v7 v8 := by
  subst hn; exact Box9.made W t v0 v1 v2 v3 v4 v5 v6 v7 v8
/-- Nine cells laid into a box that is there. -/
def set9 (W : World) (b : Nat) (v0 v1 v2 v3 v4 v5 v6 v7 v8 : Value) : World := ((((((((W.setCell ⟨b, 0, none⟩ v0).setCell ⟨b, 1, none⟩ v1).setCell ⟨b, 2, none⟩ v2).setCell ⟨b, 3, none⟩ v3).setCell ⟨b, 4, none⟩ v4).setCell ⟨b, 5, none⟩ v5).setCell ⟨b, 6, none⟩ v6).setCell ⟨b, 7, none⟩ v7).setCell ⟨b, 8, none⟩ v8
theorem setCell_far (W : World) (b i k j : Nat) (u : Value) (h : k ≠ b) : (W.setCell ⟨b, i, none⟩ u).cell? ⟨k, j, none⟩ = W.cell? ⟨k, j, none⟩ :=
  World.cell?_of_block (w := W) (a := ⟨k, j, none⟩) (Below.heap_setCell W ⟨b, i, none⟩ u k h)
theorem set9_far {W : World} {b k j : Nat} {v0 v1 v2 v3 v4 v5 v6 v7 v8 : Value} (h : k ≠ b) : (set9 W b v0 v1 v2 v3 v4 v5 v6 v7 v8).cell? ⟨k, j, none⟩ = W.cell? ⟨k, j, none⟩ := by
  unfold set9
  repeat rw [setCell_far _ _ _ _ _ _ h]
theorem set9_size (W : World) (b : Nat) (v0 v1 v2 v3 v4 v5 v6 v7 v8 : Value) : (set9 W b v0 v1 v2 v3 v4 v5 v6 v7 v8).heap.size = W.heap.size := by unfold set9; simp
theorem set9_frozen (W : World) (b : Nat) (v0 v1 v2 v3 v4 v5 v6 v7 v8 : Value) (a : Addr) : (set9 W b v0 v1 v2 v3 v4 v5 v6 v7 v8).frozen? a = W.frozen? a := by unfold set9; simp
theorem Box9.set {W : World} {b : Nat} {u0 u1 u2 u3 u4 u5 u6 u7 u8 : Value} (h : Box9 W b u0 u1 u2 u3 u4 u5 u6 u7 u8) (v0 v1 v2 v3 v4 v5 v6 v7 v8 : Value) : Box9 (set9 W b v0 v1 v2 v3 v4 v5 v6 v7 v8) b v0 v1 v2 v3 v4 v5 v6 v7 v8 := by
  obtain ⟨c0, c1, c2, c3, c4, c5, c6, c7, c8, fz, lt⟩ := h
  refine ⟨?_, ?_, ?_, ?_, ?_, ?_, ?_, ?_, ?_, fun j => by rw [set9_frozen]; exact fz j, by rw [set9_size]; exact lt⟩ <;> unfold set9 <;> simp [go_sem, c0, c1, c2, c3, c4, c5, c6, c7, c8]
theorem Box9.far {W : World} {b X : Nat} {u0 u1 u2 u3 u4 u5 u6 u7 u8 : Value} (h : Box9 W b u0 u1 u2 u3 u4 u5 u6 u7 u8) (hb : b ≠ X) (v0 v1 v2 v3 v4 v5 v6 v7 v8 : Value) : Box9 (set9 W X v0 v1 v2 v3 v4 v5 v6 v7 v8) b u0 u1 u2 u3 u4 u5 u6 u7 u8 := by
  obtain ⟨c0, c1, c2, c3, c4, c5, c6, c7, c8, fz, lt⟩ := h
  have e := fun j => set9_far (W := W) (b := X) (k := b) (j := j) (v0 := v0) (v1 := v1) (v2 := v2) (v3 := v3) (v4 := v4) (v5 := v5) (v6 := v6) (v7 := v7) (v8 := v8) hb
  exact ⟨by rw [e]; exact c0, by rw [e]; exact c1, by rw [e]; exact c2, by rw [e]; exact c3, by rw [e]; exact c4, by rw [e]; exact c5, by rw [e]; exact c6, by rw [e]; exact c7, by rw [e]; exact c8, fun j => by rw [set9_frozen]; exact fz j, by rw [set9_size]; exact lt⟩
theorem set9_below {B : Nat} {w W : World} {X : Nat} {v0 v1 v2 v3 v4 v5 v6 v7 v8 : Value} (hb : Below B w W) (hx : B ≤ X) : Below B w (set9 W X v0 v1 v2 v3 v4 v5 v6 v7 v8) := by
  unfold set9
  iterate 9 (refine Below.setCell ?_ hx _)
  exact hb
end Go.Proofs.Ytnhndieoaceofaa
