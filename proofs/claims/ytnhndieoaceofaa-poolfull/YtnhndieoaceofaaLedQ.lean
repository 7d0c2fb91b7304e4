/- What package ledger's functions must come to, and the closed fact that the laws ask first. -/
import Derived.Test.YtnhndieoaceofaaLedP
namespace Go.Proofs.Ytnhndieoaceofaa
open Go.RowKit

/-- The last hold of somebody; none: the zero one. -/
def lastH (id : Int) (hs : List Ho) : Ho := (mineL id hs).headD ⟨0, 0, 0⟩
def hasB (id : Int) (hs : List Ho) : Bool := !(mineL id hs).isEmpty
def hoV (h : Ho) : Value := .agg #[.int .i64 h.id, .int .i64 h.kind, .int .i64 h.filter]

/-- A ledger in a box, as it lies. -/
structure LBoxAt (W : World) (b : Nat) (l : Lg) (ao : Option Addr) (c : Nat) : Prop where
  c0 : W.cell? ⟨b, 0, none⟩ = some (.slice ao l.holds.length c)
  c1 : W.cell? ⟨b, 1, none⟩ = some (.int .i64 l.m0)
  c2 : W.cell? ⟨b, 2, none⟩ = some (.int .i64 l.m1)
  c3 : W.cell? ⟨b, 3, none⟩ = some (.int .i64 l.m2)
  c4 : W.cell? ⟨b, 4, none⟩ = some (.int .i64 l.m3)
  lt : b < W.heap.size
  lg : LgAt W (lgV l ao c) l
theorem LBoxAt.keep {W W' : World} {b : Nat} {l : Lg} {ao : Option Addr} {c : Nat} (h : LBoxAt W b l ao c) (hb : Below W.heap.size W W') : LBoxAt W' b l ao c := by
  have e := fun j => hb.cell (p := ⟨b, j, none⟩) h.lt
  exact ⟨by rw [e]; exact h.c0, by rw [e]; exact h.c1, by rw [e]; exact h.c2, by rw [e]; exact h.c3, by rw [e]; exact h.c4, Nat.lt_of_lt_of_le h.lt hb.size, h.lg.below (Nat.le_refl _) hb⟩
theorem LBoxAt.made {W : World} {l : Lg} {ao : Option Addr} {c : Nat} (h : LgAt W (lgV l ao c) l) : LBoxAt (W.alloc (.cells #[.slice ao l.holds.length c, .int .i64 l.m0, .int .i64 l.m1, .int .i64 l.m2, .int .i64 l.m3] 25)) W.heap.size l ao c :=
  ⟨by simp, by simp, by simp, by simp, by simp, by simp, h.below (Nat.le_refl _) ((Below.refl _ _).alloc (Nat.le_refl _) _)⟩
/-- A hold in a box. -/
structure OBoxAt (W : World) (b : Nat) (h : Ho) : Prop where
  c0 : W.cell? ⟨b, 0, none⟩ = some (.int .i64 h.id)
  c1 : W.cell? ⟨b, 1, none⟩ = some (.int .i64 h.kind)
  c2 : W.cell? ⟨b, 2, none⟩ = some (.int .i64 h.filter)
  lt : b < W.heap.size
theorem OBoxAt.keep {W W' : World} {b : Nat} {h : Ho} (x : OBoxAt W b h) (hb : Below W.heap.size W W') : OBoxAt W' b h := by
  have e := fun j => hb.cell (p := ⟨b, j, none⟩) x.lt
  exact ⟨by rw [e]; exact x.c0, by rw [e]; exact x.c1, by rw [e]; exact x.c2, Nat.lt_of_lt_of_le x.lt hb.size⟩
theorem OBoxAt.made (W : World) (h : Ho) : OBoxAt (W.alloc (.cells #[.int .i64 h.id, .int .i64 h.kind, .int .i64 h.filter] 52)) W.heap.size h := ⟨by simp, by simp, by simp, by simp⟩
theorem bel_alloc (w : World) (o : Obj) : Below w.heap.size w (w.alloc o) := (Below.refl _ _).alloc (Nat.le_refl _) _
theorem lgAt_form {W : World} {v : Value} {l : Lg} (h : LgAt W v l) : ∃ ao c, v = lgV l ao c := by obtain ⟨ao, c, e, _⟩ := h; exact ⟨ao, c, e⟩

theorem field25_0 (ao : Option Addr) (n c : Nat) (a b d e : Value) (w : World) : (Instr.field 25 (.agg #[.slice ao n c, a, b, d, e]) 0).run Try.prog w = .ok (.slice ao n c) w := by kernel_rfl
end Go.Proofs.Ytnhndieoaceofaa
