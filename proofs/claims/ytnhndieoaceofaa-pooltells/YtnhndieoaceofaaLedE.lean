/- Giving back: the document's own answer. -/
import Derived.Test.YtnhndieoaceofaaLedD
import Derived.Deep.RegionHeld3
import Derived.Deep.RegionLaw
namespace Go.Proofs.Ytnhndieoaceofaa
open Go.RowKit

/-- 'append(s, xs...)', s the call's own, xs whatever, as a step of a region that draws its order. -/
theorem step_app {P : Program} {w : World} {ops : Array Oper} {o : Oper} {a : Act} {K : Act → World → Prop} {Q : Exit → Act → World → Prop} {E : Prop} (hgd : o.guard = none) (s x : Operand) (t : TypeId)
    (ho : o.op = .call { callee := .builtin .append, args := #[s, x], argTypes := #[t, t] })
    (base : Nat) (e : TypeId) (i : TypeInfo) (z : Value) (size bytes : Nat) (ht : P.underlying t = some (.slice e)) (hi : P.info? e = some i) (hz : i.zero = some z)
    (hsize : i.size = size) (hby : i.bytes = bytes) (hzs : z.cells.size = size) (hsz : 0 < size) (so : Option Addr) (n sc : Nat) (xs : List Value) (hs : a.eval s = .slice so n sc) (hown : w.ownsRow base e size (.slice so n sc) n xs)
    (ao : Option Addr) (m c : Nat) (news : List Value) (hx : a.eval x = .slice ao m c) (hno : ao = none → m = 0 ∧ c = 0) (hl : news.length = m * size) (hnews : ∀ ad, ao = some ad → ∀ j u, news[j]? = some u → w.cell? (ad.add j) = some u) (h1 : ∀ u ∈ news, u.oneCell' = true)
    (N : Nat) (hN : n + m = N) (h63 : N ≤ maxLen) (hbytes : N * bytes ≤ 140737488355328) (hbase : base ≤ w.heap.size)
    (h : ∀ ao' c' w', w'.ownsRow base e size (.slice ao' N c') N (xs ++ news) → w.grownBy w' (Value.slice so n sc).ownBlock → K (a.put o.dst (.slice ao' N c')) w') :
    if Region.wanted o (yielded ops a.tmps) = true then Oper.wp P o a w K Q else E := by
  have hw : Region.wanted o (yielded ops a.tmps) = true := by simp [Region.wanted, hgd]
  rw [if_pos hw]
  subst hN
  cases ao with
  | none =>
    obtain ⟨rfl, rfl⟩ := hno rfl
    obtain rfl : news = [] := List.eq_nil_of_length_eq_zero (by simpa using hl)
    have hrun := run_append_owned_none (P := P) (w := w) base t o.type e i size ht hi _ n xs hown
    unfold Oper.wp
    simp [execOp, ho, resolve, invoke, builtin, hs, hx, hrun, Result.andThen]
    exact h so sc w (by simpa using hown) ⟨rfl, rfl, rfl, Nat.le_refl _, fun _ _ _ => rfl⟩
  | some ad =>
    refine wp_append_own w s x t ho base e i z size bytes ht hi hz hsize hby hzs hsz _ n xs hs hown ad m c news hx hl (hnews ad rfl) h1 h63 hbytes hbase ?_
    intro v' w' ho' hg _
    rcases ho'.2 with ⟨rfl, h0⟩ | ⟨g, cap, cur, hv, _⟩
    · rw [h0] at ho' h; exact h none 0 w' ho' hg
    · subst hv; exact h _ _ w' ho' hg

theorem wrap_id {n : Int} (h0 : 0 ≤ n) (h1 : n ≤ 9223372036854775807) : IntKind.i64.wrap n = n := by
  simp [IntKind.wrap, IntKind.bits, IntKind.signed]
  omega
def lastR (p : Ho → Bool) : List Ho → Int
  | [] => -1
  | x :: t => if p x = true then (t.length : Int) else lastR p t
def lastI (p : Ho → Bool) (hs : List Ho) : Int := lastR p hs.reverse
theorem lastI_snoc (p : Ho → Bool) (hs : List Ho) (x : Ho) : lastI p (hs ++ [x]) = if p x = true then (hs.length : Int) else lastI p hs := by
  unfold lastI
  rw [List.reverse_append]
  simp [lastR]
theorem lastR_lt (p : Ho → Bool) : ∀ hs : List Ho, lastR p hs = -1 ∨ 0 ≤ lastR p hs ∧ lastR p hs < hs.length
  | [] => .inl rfl
  | x :: t => by
    by_cases h : p x = true
    · right; simp [lastR, h]; omega
    · rcases lastR_lt p t with h1 | h1
      · left; simpa [lastR, h] using h1
      · right; simp [lastR, h]; omega
theorem lastI_lt (p : Ho → Bool) (hs : List Ho) : lastI p hs = -1 ∨ 0 ≤ lastI p hs ∧ lastI p hs < hs.length := by
  have := lastR_lt p hs.reverse
  rw [List.length_reverse] at this
  exact this
def isOf (id kind : Int) (h : Ho) : Bool := (h.id == id) && (h.kind == kind)
def giveE (l : Lg) (id kind : Int) : Int := if lastI (isOf id kind) l.holds < 0 then 6 else 0
def giveR (l : Lg) (id kind : Int) : Lg := if lastI (isOf id kind) l.holds < 0 then zeroLg else { l with holds := l.holds.take (lastI (isOf id kind) l.holds).toNat ++ l.holds.drop ((lastI (isOf id kind) l.holds).toNat + 1) }

theorem HoldsAt.take {w : World} {ao : Option Addr} {hs : List Ho} (h : HoldsAt w ao hs) (k : Nat) : HoldsAt w ao (hs.take k) where
  lies i hi := by
    have hi' : i < hs.length := by simp at hi; omega
    obtain ⟨b, off, h1, h2, h3, h4, h5⟩ := h.lies i hi'
    exact ⟨b, off, h1, h2, by simpa using h3, by simpa using h4, by simpa using h5⟩
  small := by have := h.small; simp; omega
theorem HoldsAt.drop {w : World} {b off : Nat} {hs : List Ho} (h : HoldsAt w (some ⟨b, off, none⟩) hs) (k : Nat) : HoldsAt w (some ⟨b, off + k * 3, none⟩) (hs.drop k) where
  lies i hi := by
    have hi' : k + i < hs.length := by simp at hi; omega
    obtain ⟨b', off', h1, h2, h3, h4, h5⟩ := h.lies (k + i) hi'
    simp at h1
    obtain ⟨rfl, rfl⟩ := h1
    have e : off + (k + i) * 3 = off + k * 3 + i * 3 := by omega
    rw [e] at h3 h4 h5
    exact ⟨b, off + k * 3, rfl, h2, by simpa using h3, by simpa using h4, by simpa using h5⟩
  small := by have := h.small; simp; omega

theorem tailAt {w : World} {b off c t : Nat} {hs : List Ho} (h : HoldsAt w (some ⟨b, off, none⟩) hs) (hc : hs.length ≤ c) (ht : t < hs.length) : HoldsAt w (if c = t + 1 then some ⟨b, off, none⟩ else some ⟨b, off + (t + 1) * 3, none⟩) (hs.drop (t + 1)) := by
  split
  · have e : hs.drop (t + 1) = [] := List.drop_eq_nil_of_le (by omega)
    rw [e]
    exact ⟨fun i h => absurd h (by simp), by simp⟩
  · exact h.drop (t + 1)
end Go.Proofs.Ytnhndieoaceofaa
