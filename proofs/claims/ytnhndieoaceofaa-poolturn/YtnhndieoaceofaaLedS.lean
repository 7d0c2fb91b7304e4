/- The law LedgerAll, out of what the package's functions come to. -/
import Derived.Test.YtnhndieoaceofaaLedR
namespace Go.Proofs.Ytnhndieoaceofaa
open Go.RowKit

/-- A ledger laid into a box that is there. -/
def set5 (W : World) (b : Nat) (l : Lg) (ao : Option Addr) (c : Nat) : World := ((((W.setCell ⟨b, 0, none⟩ (.slice ao l.holds.length c)).setCell ⟨b, 1, none⟩ (.int .i64 l.m0)).setCell ⟨b, 2, none⟩ (.int .i64 l.m1)).setCell ⟨b, 3, none⟩ (.int .i64 l.m2)).setCell ⟨b, 4, none⟩ (.int .i64 l.m3)
theorem set5_far {W : World} {b k j : Nat} {l : Lg} {ao : Option Addr} {c : Nat} (h : k ≠ b) : (set5 W b l ao c).cell? ⟨k, j, none⟩ = W.cell? ⟨k, j, none⟩ := by
  unfold set5
  repeat rw [World.cell?_of_block (w := _) (w' := World.setCell _ _ _) (a := ⟨k, j, none⟩) (Below.heap_setCell _ _ _ _ h)]
theorem set5_size (W : World) (b : Nat) (l : Lg) (ao : Option Addr) (c : Nat) : (set5 W b l ao c).heap.size = W.heap.size := by unfold set5; simp
theorem set5_frozen (W : World) (b : Nat) (l : Lg) (ao : Option Addr) (c : Nat) (a : Addr) : (set5 W b l ao c).frozen? a = W.frozen? a := by unfold set5; simp
theorem set5_box {W : World} {b : Nat} {l L : Lg} {ao aL : Option Addr} {c cL : Nat} (h : LBoxAt W b L aL cL) : (set5 W b l ao c).cell? ⟨b, 0, none⟩ = some (.slice ao l.holds.length c) ∧ (set5 W b l ao c).cell? ⟨b, 1, none⟩ = some (.int .i64 l.m0) ∧ (set5 W b l ao c).cell? ⟨b, 2, none⟩ = some (.int .i64 l.m1) ∧ (set5 W b l ao c).cell? ⟨b, 3, none⟩ = some (.int .i64 l.m2) ∧ (set5 W b l ao c).cell? ⟨b, 4, none⟩ = some (.int .i64 l.m3) := by
  obtain ⟨c0, c1, c2, c3, c4, _, _⟩ := h
  unfold set5
  refine ⟨?_, ?_, ?_, ?_, ?_⟩ <;> simp [go_sem, c0, c1, c2, c3, c4]
theorem HoldsAt.far {W W' : World} {ao : Option Addr} {hs : List Ho} {b : Nat} (h : HoldsAt W ao hs) (hz : W.heap.size ≤ W'.heap.size) (hc : ∀ k j, k ≠ b → W'.cell? ⟨k, j, none⟩ = W.cell? ⟨k, j, none⟩) (hn : ∀ k off, hs ≠ [] → ao = some ⟨k, off, none⟩ → k ≠ b) : HoldsAt W' ao hs where
  lies i hi := by
    obtain ⟨k, off, h1, h2, h3, h4, h5⟩ := h.lies i hi
    have hk := hn k off (fun e => by rw [e] at hi; simp at hi) h1
    exact ⟨k, off, h1, by omega, by rw [hc _ _ hk]; exact h3, by rw [hc _ _ hk]; exact h4, by rw [hc _ _ hk]; exact h5⟩
  small := h.small
theorem LgAt.holds {W : World} {l : Lg} {ao : Option Addr} {c : Nat} (h : LgAt W (lgV l ao c) l) : HoldsAt W ao l.holds ∧ (ao = none → c = 0) ∧ l.holds.length ≤ c ∧ c ≤ maxLen := by
  obtain ⟨ao', c', e, h1, h2, h3, h4⟩ := h
  unfold lgV at e
  simp at e
  obtain ⟨rfl, rfl⟩ := e
  exact ⟨h1, h2, h3, h4⟩

/-- Where the law stands between two holds. -/
structure AllAt (w wr : World) (X : Nat) (l L : Lg) (ao aL ho : Option Addr) (c cL : Nat) (mine : List Ho) : Prop where
  bx : LBoxAt wr w.heap.size l ao c
  bn : ∀ b off, l.holds ≠ [] → ao = some ⟨b, off, none⟩ → b ≠ X
  xx : LBoxAt wr X L aL cL
  xn : ∀ b off, L.holds ≠ [] → aL = some ⟨b, off, none⟩ → b ≠ X
  xf : ∀ j, wr.frozen? ⟨X, j, none⟩ = false
  al : HoldsAt wr ho mine
  an : ∀ b off, mine ≠ [] → ho = some ⟨b, off, none⟩ → b ≠ X
  bl : Below w.heap.size w wr
  hx : w.heap.size < X
theorem AllAt.keep {w wr W : World} {X : Nat} {l L : Lg} {ao aL ho : Option Addr} {c cL : Nat} {mine : List Ho} (h : AllAt w wr X l L ao aL ho c cL mine) (hb : Below wr.heap.size wr W) : AllAt w W X l L ao aL ho c cL mine :=
  ⟨h.bx.keep hb, h.bn, h.xx.keep hb, h.xn, fun j => by rw [hb.frozen (p := ⟨X, j, none⟩) h.xx.lt]; exact h.xf j, h.al.below (Nat.le_refl _) hb, h.an, h.bl.trans (hb.mono h.bl.size), h.hx⟩
theorem AllAt.store {w W : World} {X : Nat} {l L N : Lg} {ao aL ho aN : Option Addr} {c cL cN : Nat} {mine : List Ho} (h : AllAt w W X l L ao aL ho c cL mine) (hN : LgAt W (lgV N aN cN) N) (hf : ∀ b off, N.holds ≠ [] → aN = some ⟨b, off, none⟩ → b ≠ X) :
    AllAt w (set5 W X N aN cN) X l N ao aN ho c cN mine := by
  have hc : ∀ k j, k ≠ X → (set5 W X N aN cN).cell? ⟨k, j, none⟩ = W.cell? ⟨k, j, none⟩ := fun k j hk => set5_far hk
  have hz : W.heap.size ≤ (set5 W X N aN cN).heap.size := by rw [set5_size]; exact Nat.le_refl _
  have hw : w.heap.size ≠ X := by have := h.hx; omega
  obtain ⟨d0, d1, d2, d3, d4⟩ := set5_box (l := N) (ao := aN) (c := cN) h.xx
  obtain ⟨n1, n2, n3, n4⟩ := hN.holds
  obtain ⟨m1, m2, m3, m4⟩ := h.bx.lg.holds
  refine ⟨⟨by rw [hc _ _ hw]; exact h.bx.c0, by rw [hc _ _ hw]; exact h.bx.c1, by rw [hc _ _ hw]; exact h.bx.c2, by rw [hc _ _ hw]; exact h.bx.c3, by rw [hc _ _ hw]; exact h.bx.c4, by rw [set5_size]; exact h.bx.lt, ⟨ao, c, rfl, m1.far hz hc h.bn, m2, m3, m4⟩⟩, h.bn, ⟨d0, d1, d2, d3, d4, by rw [set5_size]; exact h.xx.lt, ⟨aN, cN, rfl, n1.far hz hc hf, n2, n3, n4⟩⟩, hf, fun j => by rw [set5_frozen]; exact h.xf j, h.al.far hz hc h.an, h.an, ?_, h.hx⟩
  unfold set5
  iterate 5 (refine Below.setCell ?_ (by show w.heap.size ≤ X; have := h.hx; omega) _)
  exact h.bl
end Go.Proofs.Ytnhndieoaceofaa
