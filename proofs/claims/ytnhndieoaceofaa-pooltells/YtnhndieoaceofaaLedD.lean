/- Taking: the document's own answer. -/
import Derived.Test.YtnhndieoaceofaaLedC
namespace Go.Proofs.Ytnhndieoaceofaa
open Go.RowKit

def countL (kind : Int) (hs : List Ho) : Nat := (hs.filter fun h => h.kind == kind).length
theorem countL_snoc (kind : Int) (hs : List Ho) (x : Ho) : countL kind (hs ++ [x]) = countL kind hs + if (x.kind == kind) = true then 1 else 0 := by
  unfold countL
  rw [List.filter_append]
  by_cases h : (x.kind == kind) = true
  · rw [if_pos h]; simp [List.filter, h]
  · rw [if_neg h]; simp [List.filter, h]
theorem countL_le (kind : Int) (hs : List Ho) : countL kind hs ≤ hs.length := by unfold countL; exact List.length_filter_le _ _
def mostOf (l : Lg) (kind : Int) : Int := if kind = 1 then l.m1 else if kind = 2 then l.m2 else l.m3
def zeroLg : Lg := ⟨[], 0, 0, 0, 0⟩
def takeE (l : Lg) (kind : Int) : Int := if kind < 1 ∨ 3 < kind then 1 else if mostOf l kind ≤ (countL kind l.holds : Int) then 8 else 0
def takeR (l : Lg) (id kind filter : Int) : Lg := if takeE l kind = 0 then { l with holds := l.holds ++ [⟨id, kind, filter⟩] } else zeroLg
theorem zeroAt (base : Nat) (w : World) : LgNew base w (.agg #[.slice none 0 0, .int .i64 0, .int .i64 0, .int .i64 0, .int .i64 0]) zeroLg :=
  ⟨none, 0, rfl, ⟨fun i h => absurd h (by simp [zeroLg]), by simp [zeroLg]⟩, fun _ => rfl, by simp [zeroLg], by unfold maxLen; omega, fun _ _ _ e => by cases e⟩

/-- Two boxes of five cells each, seen behind what keeps them. -/
theorem boxes {H : Nat} {W w1 : World} (b : Below (H + 2) W w1) : (∀ j, w1.cell? ⟨H, j, none⟩ = W.cell? ⟨H, j, none⟩) ∧ (∀ j, w1.frozen? ⟨H, j, none⟩ = W.frozen? ⟨H, j, none⟩) ∧
    (∀ j, w1.cell? ⟨H + 1, j, none⟩ = W.cell? ⟨H + 1, j, none⟩) ∧ (∀ j, w1.frozen? ⟨H + 1, j, none⟩ = W.frozen? ⟨H + 1, j, none⟩) :=
  ⟨fun j => b.cell (p := ⟨H, j, none⟩) (by show H < H + 2; omega), fun j => b.frozen (p := ⟨H, j, none⟩) (by show H < H + 2; omega),
   fun j => b.cell (p := ⟨H + 1, j, none⟩) (by show H + 1 < H + 2; omega), fun j => b.frozen (p := ⟨H + 1, j, none⟩) (by show H + 1 < H + 2; omega)⟩

theorem holds_zero {w : World} {ao : Option Addr} {hs : List Ho} (h : HoldsAt w ao hs) (he : ao = none) : hs.length = 0 := by
  rcases Nat.eq_zero_or_pos hs.length with h0 | h0
  · exact h0
  · obtain ⟨_, _, e, _⟩ := h.lies 0 h0; rw [he] at e; cases e

/-- 'append([]T{}, xs...)', whatever xs: a row of the call's own. -/
theorem wpList_app_empty {P : Program} {w : World} {ops : Array Oper} {rest : List Oper} {o : Oper} {a : Act} {Q : Exit → Act → World → Prop} (hgd : o.guard = none) (s x : Operand) (t : TypeId)
    (ho : o.op = .call { callee := .builtin .append, args := #[s, x], argTypes := #[t, t] })
    (base : Nat) (e : TypeId) (i : TypeInfo) (z : Value) (size bytes : Nat) (ht : P.underlying t = some (.slice e)) (hi : P.info? e = some i) (hz : i.zero = some z)
    (hsize : i.size = size) (hby : i.bytes = bytes) (hzs : z.cells.size = size) (hsz : 0 < size) {B : Nat} (v : Value) (hs : a.eval s = v) (hown : w.ownsRow base e size (.slice (some ⟨B, 0, none⟩) 0 0) 0 [])
    (ao : Option Addr) (m c : Nat) (news : List Value) (hx : a.eval x = .slice ao m c) (hno : ao = none → m = 0 ∧ c = 0) (hl : news.length = m * size) (hnews : ∀ ad, ao = some ad → ∀ j u, news[j]? = some u → w.cell? (ad.add j) = some u) (h1 : ∀ u ∈ news, u.oneCell' = true)
    (h63 : m ≤ maxLen) (hbytes : m * bytes ≤ 140737488355328) (hbase : base ≤ w.heap.size)
    (h : ∀ ao' c' w', w'.ownsRow base e size (.slice ao' m c') m news → w.grownBy w' (some B) → wpList P ops Q rest (a.put o.dst (.slice ao' m c')) w') (hv : v = .slice (some ⟨B, 0, none⟩) 0 0) : wpList P ops Q (o :: rest) a w := by
  subst hv
  cases ao with
  | none =>
    obtain ⟨rfl, rfl⟩ := hno rfl
    obtain rfl : news = [] := List.eq_nil_of_length_eq_zero (by simpa using hl)
    exact wpList_append_own_none hgd s x t ho base e i size ht hi _ 0 [] hs hown hx (h _ 0 w hown ⟨rfl, rfl, rfl, Nat.le_refl _, fun _ _ _ => rfl⟩)
  | some ad =>
    refine wpList_append_own w hgd s x t ho base e i z size bytes ht hi hz hsize hby hzs hsz _ 0 [] hs hown ad m c news hx hl (hnews ad rfl) h1 (by simpa using h63) (by simpa using hbytes) hbase ?_
    intro v' w' ho' hg _
    have ho2 : w'.ownsRow base e size v' m news := by simpa using ho'
    rcases ho2.2 with ⟨rfl, h0⟩ | ⟨g, cap, cur, hv, _⟩
    · subst h0; exact h none 0 w' ho2 hg
    · subst hv; exact h _ _ w' ho2 hg
end Go.Proofs.Ytnhndieoaceofaa
