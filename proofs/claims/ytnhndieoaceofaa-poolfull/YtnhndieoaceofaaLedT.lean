/- The walk of the law LedgerAll, out of what the package's functions come to. -/
import Derived.Test.YtnhndieoaceofaaLedS
namespace Go.Proofs.Ytnhndieoaceofaa
open Go.RowKit

theorem old_ne {w : World} {l : Lg} {ao : Option Addr} {c X : Nat} (h : LgAt w (lgV l ao c) l) (hX : w.heap.size ≤ X) : ∀ b off, l.holds ≠ [] → ao = some ⟨b, off, none⟩ → b ≠ X := by
  intro b off hne e
  obtain ⟨b', off', e', hlt, _⟩ := h.holds.1.lies 0 (List.length_pos_iff.2 hne)
  rw [e] at e'
  simp at e'
  obtain ⟨rfl, rfl⟩ := e'
  omega

theorem ten_keep {W0 W w' : World} {x h : Nat} {x0 x1 x2 x3 x4 y0 y1 y2 y3 y4 : Value} (hx : x < W0.heap.size) (hh : h < W0.heap.size) (hb : Below W.heap.size W w')
    (hs : W.cell? ⟨x, 0, none⟩ = some x0 ∧ W.cell? ⟨x, 1, none⟩ = some x1 ∧ W.cell? ⟨x, 2, none⟩ = some x2 ∧ W.cell? ⟨x, 3, none⟩ = some x3 ∧ W.cell? ⟨x, 4, none⟩ = some x4 ∧ W.cell? ⟨h, 0, none⟩ = some y0 ∧ W.cell? ⟨h, 1, none⟩ = some y1 ∧ W.cell? ⟨h, 2, none⟩ = some y2 ∧ W.cell? ⟨h, 3, none⟩ = some y3 ∧ W.cell? ⟨h, 4, none⟩ = some y4 ∧ Below W0.heap.size W0 W) :
    w'.cell? ⟨x, 0, none⟩ = some x0 ∧ w'.cell? ⟨x, 1, none⟩ = some x1 ∧ w'.cell? ⟨x, 2, none⟩ = some x2 ∧ w'.cell? ⟨x, 3, none⟩ = some x3 ∧ w'.cell? ⟨x, 4, none⟩ = some x4 ∧ w'.cell? ⟨h, 0, none⟩ = some y0 ∧ w'.cell? ⟨h, 1, none⟩ = some y1 ∧ w'.cell? ⟨h, 2, none⟩ = some y2 ∧ w'.cell? ⟨h, 3, none⟩ = some y3 ∧ w'.cell? ⟨h, 4, none⟩ = some y4 ∧ Below W0.heap.size W0 w' := by
  obtain ⟨a0, a1, a2, a3, a4, b0, b1, b2, b3, b4, bl⟩ := hs
  have hz := bl.size
  have c := fun k j (hk : k < W.heap.size) => hb.cell (p := ⟨k, j, none⟩) hk
  exact ⟨by rw [c _ _ (by omega)]; exact a0, by rw [c _ _ (by omega)]; exact a1, by rw [c _ _ (by omega)]; exact a2, by rw [c _ _ (by omega)]; exact a3, by rw [c _ _ (by omega)]; exact a4, by rw [c _ _ (by omega)]; exact b0, by rw [c _ _ (by omega)]; exact b1, by rw [c _ _ (by omega)]; exact b2, by rw [c _ _ (by omega)]; exact b3, by rw [c _ _ (by omega)]; exact b4, bl.trans (hb.mono hz)⟩
theorem ten_lg {W0 W : World} {x h : Nat} {x0 x1 x2 x3 x4 y0 y1 y2 y3 y4 : Value} {v : Value} {l : Lg} (hl : LgAt W0 v l)
    (hs : W.cell? ⟨x, 0, none⟩ = some x0 ∧ W.cell? ⟨x, 1, none⟩ = some x1 ∧ W.cell? ⟨x, 2, none⟩ = some x2 ∧ W.cell? ⟨x, 3, none⟩ = some x3 ∧ W.cell? ⟨x, 4, none⟩ = some x4 ∧ W.cell? ⟨h, 0, none⟩ = some y0 ∧ W.cell? ⟨h, 1, none⟩ = some y1 ∧ W.cell? ⟨h, 2, none⟩ = some y2 ∧ W.cell? ⟨h, 3, none⟩ = some y3 ∧ W.cell? ⟨h, 4, none⟩ = some y4 ∧ Below W0.heap.size W0 W) : LgAt W v l := by
  obtain ⟨_, _, _, _, _, _, _, _, _, _, bl⟩ := hs
  exact hl.below (Nat.le_refl _) bl
theorem ten_bel {w W0 W : World} {x h : Nat} {x0 x1 x2 x3 x4 y0 y1 y2 y3 y4 : Value} (hl : Below w.heap.size w W0)
    (hs : W.cell? ⟨x, 0, none⟩ = some x0 ∧ W.cell? ⟨x, 1, none⟩ = some x1 ∧ W.cell? ⟨x, 2, none⟩ = some x2 ∧ W.cell? ⟨x, 3, none⟩ = some x3 ∧ W.cell? ⟨x, 4, none⟩ = some x4 ∧ W.cell? ⟨h, 0, none⟩ = some y0 ∧ W.cell? ⟨h, 1, none⟩ = some y1 ∧ W.cell? ⟨h, 2, none⟩ = some y2 ∧ W.cell? ⟨h, 3, none⟩ = some y3 ∧ W.cell? ⟨h, 4, none⟩ = some y4 ∧ Below W0.heap.size W0 W) : Below w.heap.size w W := by
  obtain ⟨_, _, _, _, _, _, _, _, _, _, bl⟩ := hs
  exact hl.trans (bl.mono hl.size)
theorem sameHolds_bel {x y : List Ho} (hxy : x = y) (ao bo : Option Addr) (c d : Nat) (w : World) (hx : HoldsAt w ao x) (hy : HoldsAt w bo y) :
    Calls Try.prog 24 #[.slice ao x.length c, .slice bo y.length d] w fun e w' => e = .returned (.bool true) ∧ Below w.heap.size w w' := by
  refine (sameHolds_any x y ao bo c d w hx hy).mono ?_
  rintro e w' ⟨rfl, n, rfl⟩
  exact ⟨by rw [(hsB_true x y).2 hxy], belDrewN (Below.refl _ _) n⟩
end Go.Proofs.Ytnhndieoaceofaa
