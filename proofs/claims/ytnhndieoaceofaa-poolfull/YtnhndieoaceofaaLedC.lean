/- What one holds, the last one first: the document's own answer. -/
import Derived.Test.YtnhndieoaceofaaLedB
import Derived.Laws.AppendOwnNone
import Derived.Deep.AppendLies
import Derived.Deep.Onto
namespace Go.Proofs.Ytnhndieoaceofaa
open Go.RowKit

theorem Try.info27 : (Try.prog.info? 52).map (fun i => (i.zero, i.size, i.bytes)) = some (some (.agg #[.int .i64 0, .int .i64 0, .int .i64 0]), 3, 24) := by kernel_rfl

/-- The cells of holds. -/
def hocells : List Ho → List Value
  | [] => []
  | h :: t => .int .i64 h.id :: .int .i64 h.kind :: .int .i64 h.filter :: hocells t
theorem hocells_length : ∀ hs : List Ho, (hocells hs).length = hs.length * 3
  | [] => rfl
  | h :: t => by simp [hocells, hocells_length t]; omega
theorem hocells_append : ∀ a b : List Ho, hocells (a ++ b) = hocells a ++ hocells b
  | [], _ => rfl
  | h :: t, b => by simp [hocells, hocells_append t b]
theorem hocells_at : ∀ (hs : List Ho) (i : Nat) (h : i < hs.length), (hocells hs)[i * 3]? = some (.int .i64 hs[i].id) ∧ (hocells hs)[i * 3 + 1]? = some (.int .i64 hs[i].kind) ∧ (hocells hs)[i * 3 + 2]? = some (.int .i64 hs[i].filter)
  | [], _, h => absurd h (by simp)
  | x :: t, 0, _ => by simp [hocells]
  | x :: t, i + 1, h => by
    have := hocells_at t i (by simpa using h)
    rw [show (i + 1) * 3 = i * 3 + 1 + 1 + 1 by omega]
    simpa [hocells] using this
theorem hocells_one : ∀ (hs : List Ho), ∀ u ∈ hocells hs, u.oneCell' = true
  | [], _, h => absurd h (by simp [hocells])
  | x :: t, u, h => by
    simp [hocells] at h
    rcases h with rfl | rfl | rfl | h
    · rfl
    · rfl
    · rfl
    · exact hocells_one t u h
theorem add_none (b off j : Nat) : (⟨b, off, none⟩ : Addr).add j = ⟨b, off + j, none⟩ := by unfold Addr.add; split <;> simp_all

theorem HoldsAt.news {w : World} {ao : Option Addr} {hs : List Ho} (h : HoldsAt w ao hs) : ∀ ad, ao = some ad → ∀ j u, (hocells hs)[j]? = some u → w.cell? (ad.add j) = some u := by
  intro ad e j u hu
  have hj : j < (hocells hs).length := by
    rcases Nat.lt_or_ge j (hocells hs).length with hl | hl
    · exact hl
    · rw [List.getElem?_eq_none hl] at hu; cases hu
  rw [hocells_length] at hj
  obtain ⟨b, off, e', _, c0, c1, c2⟩ := h.lies (j / 3) (by omega)
  rw [e] at e'
  obtain rfl : ad = ⟨b, off, none⟩ := Option.some.inj e'
  have hh := hocells_at hs (j / 3) (by omega)
  rw [add_none]
  have hm : j % 3 = 0 ∨ j % 3 = 1 ∨ j % 3 = 2 := by omega
  rcases hm with hm | hm | hm
  · have hj2 : j / 3 * 3 = j := by omega
    rw [hj2] at hh c0
    rw [hu] at hh; rw [c0]; exact hh.1.symm
  · have hj2 : j / 3 * 3 + 1 = j := by omega
    have ho2 : off + j / 3 * 3 + 1 = off + j := by omega
    rw [hj2] at hh; rw [ho2] at c1
    rw [hu] at hh; rw [c1]; exact hh.2.1.symm
  · have hj2 : j / 3 * 3 + 2 = j := by omega
    have ho2 : off + j / 3 * 3 + 2 = off + j := by omega
    rw [hj2] at hh; rw [ho2] at c2
    rw [hu] at hh; rw [c2]; exact hh.2.2.symm

/-- Out of an owned row of holds. -/
theorem holdsAt_of_owns {w : World} {base c n : Nat} {ao : Option Addr} {hs : List Ho} (h : w.ownsRow base 52 3 (.slice ao n c) n (hocells hs)) (hn : hs.length = n) (hsm : hs.length ≤ maxLen) : HoldsAt w ao hs where
  lies i hi := by
    rcases h.2 with ⟨_, h0⟩ | ⟨g, cap, cur, hv, hb, hg, hrest⟩
    · omega
    · have hv' : ao = some ⟨g, 0, none⟩ := by simp at hv; exact hv.1
      subst hv'
      have hlt : g < w.heap.size := by
        rcases Nat.lt_or_ge g w.heap.size with hl | hl
        · exact hl
        · rw [Array.getElem?_eq_none hl] at hg; cases hg
      have hc := h.cells (g := g) rfl
      have hh := hocells_at hs i hi
      refine ⟨g, 0, rfl, hlt, ?_, ?_, ?_⟩
      · rw [← add_none]; exact hc _ _ hh.1
      · rw [Nat.add_assoc, ← add_none]; exact hc _ _ hh.2.1
      · rw [Nat.add_assoc, ← add_none]; exact hc _ _ hh.2.2
  small := hsm
theorem owns_cap {w : World} {base n c : Nat} {ao : Option Addr} {xs : List Value} (h : w.ownsRow base 52 3 (.slice ao n c) n xs) : (ao = none → c = 0) ∧ n ≤ c ∧ c ≤ maxLen := by
  rcases h.2 with ⟨hv, h0⟩ | ⟨g, cap, cur, hv, _, _, h5, h6, _⟩
  · simp only [Value.slice.injEq] at hv; rw [h0, hv.2.2]; exact ⟨fun _ => rfl, Nat.le_refl _, by unfold maxLen; omega⟩
  · simp only [Value.slice.injEq, true_and] at hv; rw [hv.1, hv.2]; exact ⟨fun e => (by cases e), h5, h6⟩

/-- What is handed out is new memory, where there is any. -/
def Fresh (base : Nat) (ao : Option Addr) (hs : List Ho) : Prop := ∀ b off, hs ≠ [] → ao = some ⟨b, off, none⟩ → base ≤ b
def LgNew (base : Nat) (w : World) (v : Value) (l : Lg) : Prop := ∃ ao c, v = lgV l ao c ∧ HoldsAt w ao l.holds ∧ (ao = none → c = 0) ∧ l.holds.length ≤ c ∧ c ≤ maxLen ∧ Fresh base ao l.holds
theorem LgNew.at {base : Nat} {w : World} {v : Value} {l : Lg} (h : LgNew base w v l) : LgAt w v l := by
  obtain ⟨ao, c, e, h1, h2, h3, h4, _⟩ := h
  exact ⟨ao, c, e, h1, h2, h3, h4⟩

theorem fresh_of_owns {w : World} {base base' c n : Nat} {ao : Option Addr} {xs : List Value} (h : w.ownsRow base 52 3 (.slice ao n c) n xs) (hb : base' ≤ base) (hs : List Ho) : Fresh base' ao hs := by
  intro b off _ e
  subst e
  have := (h.lt b rfl).1
  omega
/-- What one holds, the last one first. -/
def mineL (id : Int) (hs : List Ho) : List Ho := (hs.filter fun h => h.id == id).reverse
theorem mineL_snoc (id : Int) (hs : List Ho) (x : Ho) : mineL id (hs ++ [x]) = if (x.id == id) = true then x :: mineL id hs else mineL id hs := by
  unfold mineL
  rw [List.filter_append]
  by_cases h : (x.id == id) = true
  · rw [if_pos h]; simp [List.filter, h]
  · rw [if_neg h]; simp [List.filter, h]
theorem mineL_len (id : Int) (hs : List Ho) : (mineL id hs).length ≤ hs.length := by unfold mineL; rw [List.length_reverse]; exact List.length_filter_le _ _

theorem lit_owns (wr : World) (b : Nat) (hb : b ≤ wr.heap.size) (o : Obj) (x : Ho) : ((wr.alloc o).alloc (.cells #[.int .i64 x.id, .int .i64 x.kind, .int .i64 x.filter] 52)).ownsRow b 52 3 (.slice (some ⟨wr.heap.size + 1, 0, none⟩) 1 1) 1 [.int .i64 x.id, .int .i64 x.kind, .int .i64 x.filter] := by
  have h := World.ownsRow_lit (base := b) (e := 52) (size := 3) (wr.alloc o) #[.int .i64 x.id, .int .i64 x.kind, .int .i64 x.filter] 1 (by simp; omega) (by unfold maxLen; omega) rfl
  simpa using h
end Go.Proofs.Ytnhndieoaceofaa
