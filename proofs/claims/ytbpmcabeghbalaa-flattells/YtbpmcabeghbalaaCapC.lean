/- Package caps: the first one that is wrong, of filters, ups and bads; limits; Wrong. -/
import Derived.Test.YtbpmcabeghbalaaCapB
namespace Go.Proofs.Ytbpmcabeghbalaa
open Go.RowKit

/-- A slice of structs, as it lies in a world: c are one's cells, k how many. -/
structure RowsAt {α : Type} (c : α → List Value) (k : Nat) (w : World) (ao : Option Addr) (l : List α) : Prop where
  lies : ∀ i (h : i < l.length), ∃ b off, ao = some ⟨b, off, none⟩ ∧ b < w.heap.size ∧ ∀ j v, (c l[i])[j]? = some v → w.cell? ⟨b, off + i * k + j, none⟩ = some v
  small : l.length ≤ maxLen
theorem RowsAt.below {α : Type} {c : α → List Value} {k : Nat} {w w' : World} {B : Nat} {ao : Option Addr} {l : List α} (h : RowsAt c k w ao l) (hB : w.heap.size ≤ B) (hb : Below B w w') : RowsAt c k w' ao l where
  lies i hi := by
    obtain ⟨b, off, h1, h2, h3⟩ := h.lies i hi
    have hsz := hb.size
    exact ⟨b, off, h1, by omega, fun j v hj => by rw [hb.cell (p := ⟨b, off + i * k + j, none⟩) (by show b < B; omega)]; exact h3 j v hj⟩
  small := h.small

/-- What the first one is that is wrong, and its number; 0 and -1 if none is. -/
def firstF {α : Type} (f : α → Int) : List α → Nat → Int × Int
  | [], _ => (0, -1)
  | x :: t, j => if f x = 0 then firstF f t (j + 1) else (f x, j)
theorem firstF_end {α : Type} (f : α → Int) (l : List α) (i : Nat) (h : l.length ≤ i) : firstF f (l.drop i) i = (0, -1) := by
  rw [List.drop_eq_nil_of_le h]; rfl
theorem firstF_go {α : Type} (f : α → Int) (l : List α) (i : Nat) (h : i < l.length) (h0 : f l[i] = 0) : firstF f (l.drop i) i = firstF f (l.drop (i + 1)) (i + 1) := by
  rw [List.drop_eq_getElem_cons h, firstF, if_pos h0]
theorem firstF_stop {α : Type} (f : α → Int) (l : List α) (i : Nat) (h : i < l.length) (h0 : f l[i] ≠ 0) : firstF f (l.drop i) i = (f l[i], (i : Int)) := by
  rw [List.drop_eq_getElem_cons h, firstF, if_neg h0]

def svOk (l : List Sv) : Prop := ∀ s ∈ l, s.key.size ≤ maxLen ∧ s.text.size ≤ maxLen
def upOk (l : List Up) : Prop := ∀ s ∈ l, s.text.size ≤ maxLen ∧ s.path.size ≤ maxLen
def bdOk (l : List Bd) : Prop := ∀ s ∈ l, s.text.size ≤ maxLen

end Go.Proofs.Ytbpmcabeghbalaa
