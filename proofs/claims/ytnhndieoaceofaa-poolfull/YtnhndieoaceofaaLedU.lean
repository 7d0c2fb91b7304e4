/- The walk of the law LedgerTells, out of what the package's functions come to. -/
import Derived.Test.YtnhndieoaceofaaLedT
namespace Go.Proofs.Ytnhndieoaceofaa
open Go.RowKit

theorem five_keep {W1 W w' : World} {h : Nat} {x0 x1 x2 x3 x4 : Value} (hb : Below W.heap.size W w')
    (hs : W.cell? ⟨h, 0, none⟩ = some x0 ∧ W.cell? ⟨h, 1, none⟩ = some x1 ∧ W.cell? ⟨h, 2, none⟩ = some x2 ∧ W.cell? ⟨h, 3, none⟩ = some x3 ∧ W.cell? ⟨h, 4, none⟩ = some x4 ∧ Below W1.heap.size W1 W ∧ h < W1.heap.size) :
    w'.cell? ⟨h, 0, none⟩ = some x0 ∧ w'.cell? ⟨h, 1, none⟩ = some x1 ∧ w'.cell? ⟨h, 2, none⟩ = some x2 ∧ w'.cell? ⟨h, 3, none⟩ = some x3 ∧ w'.cell? ⟨h, 4, none⟩ = some x4 ∧ Below W1.heap.size W1 w' ∧ h < W1.heap.size := by
  obtain ⟨a0, a1, a2, a3, a4, bl, hl⟩ := hs
  have hz := bl.size
  have c := fun j => hb.cell (p := ⟨h, j, none⟩) (by show h < _; omega)
  exact ⟨by rw [c]; exact a0, by rw [c]; exact a1, by rw [c]; exact a2, by rw [c]; exact a3, by rw [c]; exact a4, bl.trans (hb.mono hz), hl⟩
theorem five_lg {W1 W : World} {h : Nat} {x0 x1 x2 x3 x4 : Value} {v : Value} {l : Lg} (hl : LgAt W1 v l)
    (hs : W.cell? ⟨h, 0, none⟩ = some x0 ∧ W.cell? ⟨h, 1, none⟩ = some x1 ∧ W.cell? ⟨h, 2, none⟩ = some x2 ∧ W.cell? ⟨h, 3, none⟩ = some x3 ∧ W.cell? ⟨h, 4, none⟩ = some x4 ∧ Below W1.heap.size W1 W ∧ h < W1.heap.size) : LgAt W v l := hl.below (Nat.le_refl _) hs.2.2.2.2.2.1
theorem five_bel {W1 W : World} {h : Nat} {x0 x1 x2 x3 x4 : Value}
    (hs : W.cell? ⟨h, 0, none⟩ = some x0 ∧ W.cell? ⟨h, 1, none⟩ = some x1 ∧ W.cell? ⟨h, 2, none⟩ = some x2 ∧ W.cell? ⟨h, 3, none⟩ = some x3 ∧ W.cell? ⟨h, 4, none⟩ = some x4 ∧ Below W1.heap.size W1 W ∧ h < W1.heap.size) : Below W1.heap.size W1 W := hs.2.2.2.2.2.1
theorem litAt (a b c : Int) (w : World) : LgAt w (.agg #[.slice none 0 0, .int .i64 0, .int .i64 a, .int .i64 b, .int .i64 c]) ⟨[], 0, a, b, c⟩ :=
  ⟨none, 0, rfl, ⟨fun i h => absurd h (by simp), by simp⟩, fun _ => rfl, by simp, by unfold maxLen; omega⟩
theorem same_self (l : Lg) (va vb : Value) (w : World) (ha : LgAt w va l) (hb : LgAt w vb l) :
    Calls Try.prog 14 #[va, vb] w fun e w' => e = .returned (.bool true) ∧ Below w.heap.size w w' := by
  have h := sameLedger_any l l va vb w ha hb
  rw [lgB_self] at h
  exact h

theorem LBoxAt.far {W : World} {b X : Nat} {l N : Lg} {ao aN : Option Addr} {c cN : Nat} (h : LBoxAt W b l ao c) (hb : b ≠ X) (hn : ∀ k off, l.holds ≠ [] → ao = some ⟨k, off, none⟩ → k ≠ X) : LBoxAt (set5 W X N aN cN) b l ao c := by
  have hc : ∀ k j, k ≠ X → (set5 W X N aN cN).cell? ⟨k, j, none⟩ = W.cell? ⟨k, j, none⟩ := fun k j hk => set5_far hk
  have hz : W.heap.size ≤ (set5 W X N aN cN).heap.size := by rw [set5_size]; exact Nat.le_refl _
  obtain ⟨m1, m2, m3, m4⟩ := h.lg.holds
  exact ⟨by rw [hc _ _ hb]; exact h.c0, by rw [hc _ _ hb]; exact h.c1, by rw [hc _ _ hb]; exact h.c2, by rw [hc _ _ hb]; exact h.c3, by rw [hc _ _ hb]; exact h.c4, by rw [set5_size]; exact h.lt, ⟨ao, c, rfl, m1.far hz hc hn, m2, m3, m4⟩⟩
theorem LBoxAt.set {W : World} {X : Nat} {L N : Lg} {aL aN : Option Addr} {cL cN : Nat} (h : LBoxAt W X L aL cL) (hN : LgAt W (lgV N aN cN) N) (hf : ∀ k off, N.holds ≠ [] → aN = some ⟨k, off, none⟩ → k ≠ X) : LBoxAt (set5 W X N aN cN) X N aN cN := by
  have hc : ∀ k j, k ≠ X → (set5 W X N aN cN).cell? ⟨k, j, none⟩ = W.cell? ⟨k, j, none⟩ := fun k j hk => set5_far hk
  have hz : W.heap.size ≤ (set5 W X N aN cN).heap.size := by rw [set5_size]; exact Nat.le_refl _
  obtain ⟨d0, d1, d2, d3, d4⟩ := set5_box (l := N) (ao := aN) (c := cN) h
  obtain ⟨n1, n2, n3, n4⟩ := hN.holds
  exact ⟨d0, d1, d2, d3, d4, by rw [set5_size]; exact h.lt, ⟨aN, cN, rfl, n1.far hz hc hf, n2, n3, n4⟩⟩
theorem set5_below {w W : World} {X : Nat} {N : Lg} {aN : Option Addr} {cN : Nat} (hb : Below w.heap.size w W) (hx : w.heap.size ≤ X) : Below w.heap.size w (set5 W X N aN cN) := by
  unfold set5
  iterate 5 (refine Below.setCell ?_ (by show w.heap.size ≤ X; exact hx) _)
  exact hb
/-- A box with a ledger that may be written. -/
structure SBox (W : World) (X : Nat) (L : Lg) (a : Option Addr) (c : Nat) : Prop where
  bx : LBoxAt W X L a c
  fz : ∀ j, W.frozen? ⟨X, j, none⟩ = false
theorem SBox.keep {W W' : World} {X : Nat} {L : Lg} {a : Option Addr} {c : Nat} (h : SBox W X L a c) (hb : Below W.heap.size W W') : SBox W' X L a c :=
  ⟨h.bx.keep hb, fun j => by rw [hb.frozen (p := ⟨X, j, none⟩) h.bx.lt]; exact h.fz j⟩
theorem SBox.made {W : World} {l : Lg} {ao : Option Addr} {c : Nat} (h : LgAt W (lgV l ao c) l) : SBox (W.alloc (.cells #[.slice ao l.holds.length c, .int .i64 l.m0, .int .i64 l.m1, .int .i64 l.m2, .int .i64 l.m3] 25)) W.heap.size l ao c :=
  ⟨LBoxAt.made h, fun j => by simp⟩
theorem SBox.far {W : World} {b X : Nat} {l N : Lg} {ao aN : Option Addr} {c cN : Nat} (h : SBox W b l ao c) (hb : b ≠ X) (hn : ∀ k off, l.holds ≠ [] → ao = some ⟨k, off, none⟩ → k ≠ X) : SBox (set5 W X N aN cN) b l ao c :=
  ⟨h.bx.far hb hn, fun j => by rw [set5_frozen]; exact h.fz j⟩
theorem SBox.set {W : World} {X : Nat} {L N : Lg} {aL aN : Option Addr} {cL cN : Nat} (h : SBox W X L aL cL) (hN : LgAt W (lgV N aN cN) N) (hf : ∀ k off, N.holds ≠ [] → aN = some ⟨k, off, none⟩ → k ≠ X) : SBox (set5 W X N aN cN) X N aN cN :=
  ⟨h.bx.set hN hf, fun j => by rw [set5_frozen]; exact h.fz j⟩
end Go.Proofs.Ytnhndieoaceofaa
