/- What holds of ledgers as data, whatever code there is. -/
import Derived.Test.YtnhndieoaceofaaLedE
namespace Go.Proofs.Ytnhndieoaceofaa
open Go.RowKit

theorem lastR_cases (p : Ho → Bool) : ∀ r : List Ho, (lastR p r = -1 ∧ ∀ h ∈ r, p h = false) ∨ ∃ a x b, r = a ++ x :: b ∧ (∀ h ∈ a, p h = false) ∧ p x = true ∧ lastR p r = (b.length : Int)
  | [] => .inl ⟨rfl, fun h hh => absurd hh (by simp)⟩
  | x :: t => by
    by_cases h : p x = true
    · exact .inr ⟨[], x, t, rfl, fun h hh => absurd hh (by simp), h, by simp [lastR, h]⟩
    · have hf : p x = false := by simpa using h
      rcases lastR_cases p t with ⟨h1, h2⟩ | ⟨a, y, b, h1, h2, h3, h4⟩
      · refine .inl ⟨by simpa [lastR, hf] using h1, fun z hz => ?_⟩
        rcases List.mem_cons.1 hz with rfl | hz
        · exact hf
        · exact h2 z hz
      · refine .inr ⟨x :: a, y, b, by rw [h1]; rfl, fun z hz => ?_, h3, by simpa [lastR, hf] using h4⟩
        rcases List.mem_cons.1 hz with rfl | hz
        · exact hf
        · exact h2 z hz
theorem lastI_cases (p : Ho → Bool) (hs : List Ho) : (lastI p hs = -1 ∧ ∀ h ∈ hs, p h = false) ∨ ∃ pre x post, hs = pre ++ x :: post ∧ (∀ h ∈ post, p h = false) ∧ p x = true ∧ lastI p hs = (pre.length : Int) := by
  rcases lastR_cases p hs.reverse with ⟨h1, h2⟩ | ⟨a, x, b, h1, h2, h3, h4⟩
  · exact .inl ⟨h1, fun h hh => h2 h (List.mem_reverse.2 hh)⟩
  · refine .inr ⟨b.reverse, x, a.reverse, ?_, fun h hh => h2 h (List.mem_reverse.1 hh), h3, by rw [List.length_reverse]; exact h4⟩
    have := congrArg List.reverse h1
    rw [List.reverse_reverse] at this
    rw [this]
    simp
theorem lastR_at (p : Ho → Bool) (b : List Ho) (x : Ho) (hx : p x = true) : ∀ a : List Ho, (∀ h ∈ a, p h = false) → lastR p (a ++ x :: b) = (b.length : Int)
  | [], _ => by simp [lastR, hx]
  | y :: t, h => by
    have hy := h y (by simp)
    have := lastR_at p b x hx t (fun z hz => h z (by simp [hz]))
    simpa [lastR, hy] using this
/-- Where the last one is. -/
theorem lastI_at (p : Ho → Bool) (pre post : List Ho) (x : Ho) (hx : p x = true) (hp : ∀ h ∈ post, p h = false) : lastI p (pre ++ x :: post) = (pre.length : Int) := by
  have h := lastR_at p pre.reverse x hx post.reverse (fun h hh => hp h (List.mem_reverse.1 hh))
  rw [List.length_reverse] at h
  unfold lastI
  rw [← h]
  simp
theorem take_at (pre post : List Ho) (x : Ho) : (pre ++ x :: post).take pre.length ++ (pre ++ x :: post).drop (pre.length + 1) = pre ++ post := by
  rw [List.take_left']
  · rw [List.drop_append]
    simp
  · rfl
theorem giveR_at (l : Lg) (id kind : Int) (pre post : List Ho) (x : Ho) (e : l.holds = pre ++ x :: post) (hx : isOf id kind x = true) (hp : ∀ h ∈ post, isOf id kind h = false) : giveE l id kind = 0 ∧ giveR l id kind = { l with holds := pre ++ post } := by
  have h := lastI_at (isOf id kind) pre post x hx hp
  rw [← e] at h
  refine ⟨by unfold giveE; rw [h, if_neg (by omega)], ?_⟩
  unfold giveR
  rw [h, if_neg (by omega), Int.toNat_natCast, e, take_at]

/-- Taken, and given back. -/
theorem give_take (l : Lg) (id kind filter : Int) : giveE { l with holds := l.holds ++ [⟨id, kind, filter⟩] } id kind = 0 ∧ giveR { l with holds := l.holds ++ [⟨id, kind, filter⟩] } id kind = l := by
  obtain ⟨h1, h2⟩ := giveR_at { l with holds := l.holds ++ [⟨id, kind, filter⟩] } id kind l.holds [] ⟨id, kind, filter⟩ rfl (by simp [isOf]) (fun h hh => absurd hh (by simp))
  exact ⟨h1, by rw [h2]; simp⟩
theorem mineL_append (id : Int) (a b : List Ho) : mineL id (a ++ b) = mineL id b ++ mineL id a := by unfold mineL; rw [List.filter_append, List.reverse_append]
theorem mineL_none (id : Int) (hs : List Ho) (h : ∀ x ∈ hs, x.id ≠ id) : mineL id hs = [] := by
  unfold mineL
  rw [List.filter_eq_nil_iff.2 (fun x hx => by simp [h x hx])]
  rfl
theorem mineL_take (l : List Ho) (id kind filter : Int) : mineL id (l ++ [⟨id, kind, filter⟩]) = ⟨id, kind, filter⟩ :: mineL id l := by rw [mineL_snoc]; simp
/-- The last one that somebody holds. -/
theorem mineL_cons (id : Int) (hs : List Ho) (y : Ho) (rest : List Ho) (h : mineL id hs = y :: rest) : ∃ pre post, hs = pre ++ y :: post ∧ y.id = id ∧ (∀ x ∈ post, x.id ≠ id) ∧ rest = mineL id pre := by
  rcases lastI_cases (fun x => x.id == id) hs with ⟨_, h2⟩ | ⟨pre, x, post, h1, h2, h3, _⟩
  · rw [mineL_none id hs (fun x hx => by simpa using h2 x hx)] at h; cases h
  · have e : mineL id hs = x :: mineL id pre := by
      rw [h1, mineL_append]
      have : x :: post = [x] ++ post := rfl
      rw [this, mineL_append, mineL_none id post (fun z hz => by simpa using h2 z hz)]
      have : mineL id [x] = [x] := by unfold mineL; simp only [List.filter, h3]; rfl
      rw [this]
      rfl
    rw [e] at h
    injection h with e1 e2
    subst e1
    exact ⟨pre, post, h1, by simpa using h3, fun z hz => by simpa using h2 z hz, e2.symm⟩
/-- The last one first: what is given back is what was taken last; others hold what they did. -/
theorem give_last (l : Lg) (id : Int) (y : Ho) (rest : List Ho) (h : mineL id l.holds = y :: rest) :
    giveE l id y.kind = 0 ∧ mineL id (giveR l id y.kind).holds = rest ∧ (∀ other, other ≠ id → mineL other (giveR l id y.kind).holds = mineL other l.holds) ∧ (giveR l id y.kind).holds.length + 1 = l.holds.length ∧ (giveR l id y.kind).m0 = l.m0 ∧ (giveR l id y.kind).m1 = l.m1 ∧ (giveR l id y.kind).m2 = l.m2 ∧ (giveR l id y.kind).m3 = l.m3 := by
  obtain ⟨pre, post, e, hy, hp, hr⟩ := mineL_cons id l.holds y rest h
  obtain ⟨h1, h2⟩ := giveR_at l id y.kind pre post y e (by simp [isOf, hy]) (fun z hz => by simp [isOf, hp z hz])
  rw [h2]
  refine ⟨h1, ?_, fun other ho => ?_, by rw [e]; simp; omega, rfl, rfl, rfl, rfl⟩
  · show mineL id (pre ++ post) = rest
    rw [mineL_append, mineL_none id post hp, hr]
    rfl
  · show mineL other (pre ++ post) = mineL other l.holds
    rw [e, mineL_append, mineL_append]
    have : y :: post = [y] ++ post := rfl
    rw [this, mineL_append, mineL_none other [y] (fun z hz => by simp at hz; rw [hz, hy]; exact Ne.symm ho)]
    simp

theorem countL_append (kind : Int) (a b : List Ho) : countL kind (a ++ b) = countL kind a + countL kind b := by unfold countL; rw [List.filter_append, List.length_append]
/-- No more of any kind is held when something is given back. -/
theorem count_give (l : Lg) (id kind k : Int) : countL k (giveR l id kind).holds ≤ countL k l.holds := by
  rcases lastI_cases (isOf id kind) l.holds with ⟨h1, _⟩ | ⟨pre, x, post, e, h2, h3, _⟩
  · unfold giveR
    rw [h1]
    show countL k [] ≤ _
    exact Nat.zero_le _
  · rw [(giveR_at l id kind pre post x e h3 h2).2]
    show countL k (pre ++ post) ≤ countL k l.holds
    rw [e, countL_append, countL_append]
    have : x :: post = [x] ++ post := rfl
    rw [this, countL_append]
    omega
/-- What is taken is one more of its kind, and no more than there is. -/
theorem count_take (l : Lg) (id kind filter k : Int) (h : takeE l kind = 0) : (countL k (takeR l id kind filter).holds : Int) ≤ if k = kind then mostOf l kind else countL k l.holds := by
  unfold takeR
  rw [if_pos h]
  show (countL k (l.holds ++ [⟨id, kind, filter⟩]) : Int) ≤ _
  rw [countL_append]
  unfold takeE at h
  by_cases hk : kind < 1 ∨ 3 < kind
  · rw [if_pos hk] at h; omega
  · rw [if_neg hk] at h
    by_cases hm : mostOf l kind ≤ (countL kind l.holds : Int)
    · rw [if_pos hm] at h; omega
    · by_cases e : k = kind
      · subst e
        rw [if_pos rfl]
        have : countL k [⟨id, k, filter⟩] = 1 := by simp [countL]
        omega
      · rw [if_neg e]
        have : countL k [⟨id, kind, filter⟩] = 0 := by simp [countL, Ne.symm e]
        omega
end Go.Proofs.Ytnhndieoaceofaa
