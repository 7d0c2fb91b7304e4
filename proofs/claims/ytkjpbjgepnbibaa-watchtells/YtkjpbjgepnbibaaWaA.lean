/- A server as data, and as it lies in memory. -/
import Derived.Test.YtkjpbjgepnbibaaEvW
import Derived.Test.YtkjpbjgepnbibaaChecked
namespace Go.Proofs.Ytkjpbjgepnbibaa
open Go.RowKit
open Ev (SV vi Bx Sg Kg)
set_option maxRecDepth 100000

theorem hMz : Try.prog.follows .mixedOrders = true := by kernel_rfl
/-- Three numbers: a hold (whose, which kind, which filter), a mark (whose, which filter, which call). -/
structure T3 where
  a : Int
  b : Int
  c : Int
def T3.l (x : T3) : List Value := [.int .i64 x.a, .int .i64 x.b, .int .i64 x.c]
/-- A list of no account. -/
structure Sl where
  o : Option Addr
  n : Nat
  c : Nat
def Sl.v (s : Sl) : Value := .slice s.o s.n s.c
/-- An ask's cells. -/
structure Fx where
  id : Int
  ph : Int
  po : Int
  a0 : Int
  a1 : ByteArray
  a2 : Sl
  a3 : Sl
  st : Int
  b1 : ByteArray
  b2 : Sl
  b3 : Sl
  p0 : Sl
  p1 : Sl
  p2 : Sl
  wt : Bool
  fa : Bool
def Fx.l (f : Fx) : List Value := [.int .i64 f.id, .int .i64 f.ph, .int .i64 f.po, .int .i64 f.a0, .string f.a1, f.a2.v, f.a3.v, .int .i64 f.st, .string f.b1, f.b2.v, f.b3.v, f.p0.v, f.p1.v, f.p2.v, .bool f.wt, .bool f.fa]
def inl1 (x : Int) : List Value := [.int .i64 x]
/-- A list that lies in memory. -/
structure Ls (α : Type) where
  l : List α
  o : Option Addr
  c : Nat
def Ls.v {α : Type} (s : Ls α) : Value := .slice s.o s.l.length s.c
/-- A server. -/
structure Srv where
  s0 : Sl
  s1 : Sl
  s2 : Sl
  c0 : Int
  co : Int
  c2 : Int
  c3 : Int
  hs : Ls T3
  m0 : Int
  m1 : Int
  m2 : Int
  m3 : Int
  g : Sl
  f : Sl
  q : Ls Int
  ms : Ls T3
  fs : Ls Fx
def lgL (s : Srv) : List Value := [s.hs.v, .int .i64 s.m0, .int .i64 s.m1, .int .i64 s.m2, .int .i64 s.m3]
def srL (s : Srv) : List Value := [s.s0.v, s.s1.v, s.s2.v, .int .i64 s.c0, .int .i64 s.co, .int .i64 s.c2, .int .i64 s.c3, s.hs.v, .int .i64 s.m0, .int .i64 s.m1, .int .i64 s.m2, .int .i64 s.m3, s.g.v, s.f.v, s.q.v, s.ms.v, s.fs.v]

/-- A slice of structs, as it lies in a world: c are one's cells, k how many. -/
structure RowsAt {α : Type} (c : α → List Value) (k : Nat) (w : World) (ao : Option Addr) (l : List α) : Prop where
  lies : ∀ i (h : i < l.length), ∃ b off, ao = some ⟨b, off, none⟩ ∧ b < w.heap.size ∧ ∀ j v, (c l[i])[j]? = some v → w.cell? ⟨b, off + i * k + j, none⟩ = some v
theorem RowsAt.on {α : Type} {c : α → List Value} {n : Nat} {bs : List Nat} {w w' : World} {ao : Option Addr} {l : List α} (h : RowsAt c n w ao l) (hz : w.heap.size ≤ w'.heap.size) (hk : ∀ k, k < w.heap.size → k ∉ bs → w'.heap[k]? = w.heap[k]?) (ho : ∀ b ∈ bs, ∀ k off, l ≠ [] → ao = some ⟨k, off, none⟩ → k ≠ b) : RowsAt c n w' ao l where
  lies i hi := by
    obtain ⟨b, off, e, hb, hc⟩ := h.lies i hi
    have h1 := hk b hb (fun hm => ho b hm b off (fun e => by rw [e] at hi; simp at hi) e rfl)
    exact ⟨b, off, e, by omega, fun j v hv => by rw [World.cell?_of_block (w := w) h1]; exact hc j v hv⟩
theorem RowsAt.offX {α : Type} {c : α → List Value} {n : Nat} {w : World} {ao : Option Addr} {l : List α} (h : RowsAt c n w ao l) {X : Nat} (hX : w.heap.size ≤ X) : ∀ k off, l ≠ [] → ao = some ⟨k, off, none⟩ → k ≠ X := by
  intro k off hl e
  obtain ⟨b, off', e', hb, _⟩ := h.lies 0 (by cases l with | nil => exact absurd rfl hl | cons x r => simp)
  rw [e] at e'
  cases e'
  omega
def mfL {α : Type} (c : α → List Value) (n : Nat) (s : Ls α) : Ev.Mf := ⟨fun w => RowsAt c n w s.o s.l, fun X => ∀ k off, s.l ≠ [] → s.o = some ⟨k, off, none⟩ → k ≠ X, fun _ _ _ hz hk h ho => ⟨h.on hz hk ho, fun _ hb => h.offX hb⟩⟩
def mfH (s : Srv) : Ev.Mf := mfL T3.l 3 s.hs
def mfQ (s : Srv) : Ev.Mf := mfL inl1 1 s.q
def mfM (s : Srv) : Ev.Mf := mfL T3.l 3 s.ms
def mfF (s : Srv) : Ev.Mf := mfL Fx.l 16 s.fs
theorem rows_o {α : Type} {c : α → List Value} {n : Nat} {w : World} {ao : Option Addr} {l : List α} (h : RowsAt c n w ao l) {i : Nat} (hi : i < l.length) : ∃ b off, ao = some ⟨b, off, none⟩ := by
  obtain ⟨b, off, e, _, _⟩ := h.lies i hi
  exact ⟨b, off, e⟩
theorem rows_at {α : Type} {c : α → List Value} {n : Nat} {w : World} {ao : Option Addr} {l : List α} (h : RowsAt c n w ao l) {i b off : Nat} (hi : i < l.length) (e : ao = some ⟨b, off, none⟩) : w.rangeAt b (off + i * n) (c l[i]) := by
  obtain ⟨b', off', e', _, hc⟩ := h.lies i hi
  rw [e] at e'
  cases e'
  exact fun j v hv => hc j v hv
theorem take_at {α : Type} {l : List α} {i : Nat} (hi : i < l.length) : l.take (i + 1) = l.take i ++ [l[i]] := by rw [List.take_add_one, List.getElem?_eq_getElem hi]; rfl

/-- How many of a kind; how many of a kind one holds. -/
def cntK (k : Int) (l : List T3) : Nat := l.countP fun h => decide (h.b = k)
def cntH (id k : Int) (l : List T3) : Nat := l.countP fun h => decide (h.a = id) && decide (h.b = k)
theorem cntK_take {l : List T3} {i : Nat} (hi : i < l.length) (k : Int) : cntK k (l.take (i + 1)) = cntK k (l.take i) + if l[i].b = k then 1 else 0 := by
  unfold cntK
  rw [take_at hi, List.countP_append]
  simp [List.countP_cons]
theorem cntH_take {l : List T3} {i : Nat} (hi : i < l.length) (id k : Int) : cntH id k (l.take (i + 1)) = cntH id k (l.take i) + if l[i].a = id ∧ l[i].b = k then 1 else 0 := by
  unfold cntH
  rw [take_at hi, List.countP_append]
  simp [List.countP_cons]
theorem cntK_le (k : Int) (l : List T3) : cntK k l ≤ l.length := List.countP_le_length
theorem cntH_le (id k : Int) (l : List T3) : cntH id k l ≤ l.length := List.countP_le_length
/-- The sizes of what came in. -/
structure Fit (s : Srv) : Prop where
  h : s.hs.l.length ≤ 8796093022208
  q : s.q.l.length ≤ 17592186044416
  m : s.ms.l.length ≤ 5864062014634
  f : s.fs.l.length ≤ 1099511627776
end Go.Proofs.Ytkjpbjgepnbibaa
