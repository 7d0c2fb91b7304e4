/- The law LedgerMost, out of what the package's functions come to. -/
import Derived.Test.YtaolojgofehcjabLedU
namespace Go.Proofs.Ytaolojgofehcjab
open Go.RowKit

/-- A slice of whole numbers, as it lies. -/
structure IntsAt (w : World) (ao : Option Addr) (xs : List Int) : Prop where
  lies : ∀ i (h : i < xs.length), ∃ b off, ao = some ⟨b, off, none⟩ ∧ b < w.heap.size ∧ w.cell? ⟨b, off + i, none⟩ = some (.int .i64 xs[i])
  small : xs.length ≤ maxLen
theorem IntsAt.below {w w' : World} {ao : Option Addr} {xs : List Int} (h : IntsAt w ao xs) (hb : Below w.heap.size w w') : IntsAt w' ao xs where
  lies i hi := by
    obtain ⟨b, off, h1, h2, h3⟩ := h.lies i hi
    have hsz := hb.size
    exact ⟨b, off, h1, by omega, by rw [hb.cell (p := ⟨b, off + i, none⟩) h2]; exact h3⟩
  small := h.small

/-- No more of a kind is held than there is. -/
structure Good (a b c : Int) (l : Lg) : Prop where
  m1 : l.m1 = a
  m2 : l.m2 = b
  m3 : l.m3 = c
  k1 : (countL 1 l.holds : Int) ≤ a
  k2 : (countL 2 l.holds : Int) ≤ b
  k3 : (countL 3 l.holds : Int) ≤ c
  le : l.holds.length ≤ countL 1 l.holds + countL 2 l.holds + countL 3 l.holds
theorem Good.new {a b c : Int} (ha : 0 ≤ a) (hb : 0 ≤ b) (hc : 0 ≤ c) : Good a b c ⟨[], 0, a, b, c⟩ := ⟨rfl, rfl, rfl, ha, hb, hc, Nat.le_refl _⟩
theorem countL_one (k : Int) (x : Ho) : countL k [x] = if x.kind = k then 1 else 0 := by
  unfold countL
  by_cases h : x.kind = k <;> simp [h]
theorem Good.take {a b c : Int} {l : Lg} (g : Good a b c l) (id kind filter : Int) (h : takeE l kind = 0) : Good a b c (takeR l id kind filter) := by
  have t1 := count_take l id kind filter 1 h
  have t2 := count_take l id kind filter 2 h
  have t3 := count_take l id kind filter 3 h
  have hk : 1 ≤ kind ∧ kind ≤ 3 := by
    unfold takeE at h
    by_cases hk : kind < 1 ∨ 3 < kind
    · rw [if_pos hk] at h; omega
    · omega
  have e : takeR l id kind filter = { l with holds := l.holds ++ [⟨id, kind, filter⟩] } := by unfold takeR; rw [if_pos h]
  rw [e] at t1 t2 t3 ⊢
  obtain ⟨m1, m2, m3, k1, k2, k3, le⟩ := g
  have q : kind = 1 ∨ kind = 2 ∨ kind = 3 := by omega
  refine ⟨m1, m2, m3, ?_, ?_, ?_, ?_⟩
  · rcases q with rfl | rfl | rfl <;> simp [mostOf] at t1 ⊢ <;> omega
  · rcases q with rfl | rfl | rfl <;> simp [mostOf] at t2 ⊢ <;> omega
  · rcases q with rfl | rfl | rfl <;> simp [mostOf] at t3 ⊢ <;> omega
  · show (l.holds ++ [_]).length ≤ countL 1 (l.holds ++ [_]) + countL 2 (l.holds ++ [_]) + countL 3 (l.holds ++ [_])
    simp only [countL_append, countL_one, List.length_append, List.length_singleton]
    rcases q with rfl | rfl | rfl <;> simp <;> omega
theorem Good.give {a b c : Int} {l : Lg} (g : Good a b c l) (id kind : Int) (h : giveE l id kind = 0) : Good a b c (giveR l id kind) := by
  obtain ⟨m1, m2, m3, k1, k2, k3, le⟩ := g
  rcases lastI_cases (isOf id kind) l.holds with ⟨h1, _⟩ | ⟨pre, x, post, e, h2, h3, _⟩
  · unfold giveE at h
    rw [h1] at h
    simp at h
  · rw [(giveR_at l id kind pre post x e h3 h2).2]
    have e' : l.holds = pre ++ ([x] ++ post) := e
    rw [e'] at k1 k2 k3 le
    simp only [countL_append, countL_one, List.length_append, List.length_singleton] at k1 k2 k3 le
    refine ⟨m1, m2, m3, ?_, ?_, ?_, ?_⟩
    · show (countL 1 (pre ++ post) : Int) ≤ a; rw [countL_append]; omega
    · show (countL 2 (pre ++ post) : Int) ≤ b; rw [countL_append]; omega
    · show (countL 3 (pre ++ post) : Int) ≤ c; rw [countL_append]; omega
    · show (pre ++ post).length ≤ countL 1 (pre ++ post) + countL 2 (pre ++ post) + countL 3 (pre ++ post)
      simp only [countL_append, List.length_append]
      by_cases x1 : x.kind = 1
      · simp [x1] at le; omega
      · by_cases x2 : x.kind = 2
        · simp [x2] at le; omega
        · by_cases x3 : x.kind = 3
          · simp [x3] at le; omega
          · simp [x1, x2, x3] at le; omega
theorem Good.few {a b c : Int} {l : Lg} (g : Good a b c l) (ha : a ≤ 10) (hb : b ≤ 10) (hc : c ≤ 10) : (l.holds.length + 1) * 24 ≤ 140737488355328 := by
  obtain ⟨_, _, _, k1, k2, k3, le⟩ := g
  omega
theorem give_good (I : Impl) {a b c : Int} (l : Lg) (v : Value) (id kind : Int) (w : World) (hl : LgAt w v l) (hr : (l.holds.length + 1) * 24 ≤ 140737488355328) (g : Good a b c l) :
    Calls Try.prog 9 #[v, .int .i64 id, .int .i64 kind] w fun e w' => ∃ v' E R, e = .returned (.tuple #[v', .int .i64 E]) ∧ LgNew w.heap.size w' v' R ∧ Below w.heap.size w w' ∧ Hid (E = 0 → Good a b c R) := by
  refine (I.give l v id kind w hl (by omega)).mono ?_
  rintro e w' ⟨v', rfl, n, b⟩
  exact ⟨v', _, _, rfl, n, b, fun h => g.give id kind h⟩
theorem take_good (I : Impl) {a b c : Int} (l : Lg) (v : Value) (id kind filter : Int) (w : World) (hl : LgAt w v l) (hr : (l.holds.length + 1) * 24 ≤ 140737488355328) (g : Good a b c l) :
    Calls Try.prog 7 #[v, .int .i64 id, .int .i64 kind, .int .i64 filter] w fun e w' => ∃ v' E R, e = .returned (.tuple #[v', .int .i64 E]) ∧ LgNew w.heap.size w' v' R ∧ Below w.heap.size w w' ∧ Hid (E = 0 → Good a b c R) := by
  refine (I.take l v id kind filter w hl hr).mono ?_
  rintro e w' ⟨v', rfl, n, b⟩
  exact ⟨v', _, _, rfl, n, b, fun h => g.take id kind filter h⟩
theorem zeroBox (W : World) : SBox (W.alloc (.cells #[.slice none 0 0, .int .i64 0, .int .i64 0, .int .i64 0, .int .i64 0] 25)) W.heap.size zeroLg none 0 :=
  SBox.made (l := zeroLg) (ao := none) (c := 0) (zeroAt 0 W).at

/-- Where the law stands between two numbers. -/
structure MostAt (w wr : World) (X : Nat) (a b c : Int) (L : Lg) (aL : Option Addr) (cL : Nat) : Prop where
  sb : SBox wr X L aL cL
  xn : ∀ k off, L.holds ≠ [] → aL = some ⟨k, off, none⟩ → k ≠ X
  bl : Below w.heap.size w wr
  hx : w.heap.size ≤ X
  gd : Good a b c L
theorem MostAt.keep {w wr W : World} {X : Nat} {a b c : Int} {L : Lg} {aL : Option Addr} {cL : Nat} (h : MostAt w wr X a b c L aL cL) (hb : Below wr.heap.size wr W) : MostAt w W X a b c L aL cL :=
  ⟨h.sb.keep hb, h.xn, h.bl.trans (hb.mono h.bl.size), h.hx, h.gd⟩
/-- Another box is written. -/
theorem MostAt.other {w W : World} {X Y : Nat} {a b c : Int} {L N : Lg} {aL aN : Option Addr} {cL cN : Nat} (h : MostAt w W X a b c L aL cL) (hy : X < Y) (hn : ∀ k off, L.holds ≠ [] → aL = some ⟨k, off, none⟩ → k ≠ Y) : MostAt w (set5 W Y N aN cN) X a b c L aL cL :=
  ⟨h.sb.far (by omega) hn, h.xn, set5_below h.bl (by have := h.hx; omega), h.hx, h.gd⟩
/-- The box itself is written. -/
theorem MostAt.store {w W : World} {X : Nat} {a b c : Int} {L N : Lg} {aL aN : Option Addr} {cL cN : Nat} (h : MostAt w W X a b c L aL cL) (hN : LgAt W (lgV N aN cN) N) (hf : ∀ k off, N.holds ≠ [] → aN = some ⟨k, off, none⟩ → k ≠ X) (g : Good a b c N) : MostAt w (set5 W X N aN cN) X a b c N aN cN :=
  ⟨h.sb.set hN hf, hf, set5_below h.bl h.hx, h.hx, g⟩
end Go.Proofs.Ytaolojgofehcjab
