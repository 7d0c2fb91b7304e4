/- Leases and those that wait, as data: what holds of them whatever code there is. -/
import Derived.Test.YtnhndieoaceofaaPoolI
namespace Go.Proofs.Ytnhndieoaceofaa
open Go.RowKit

def leaseH (i : Int) : Ho := ⟨i, 2, -1⟩
/-- Those hold a lease, in this order, and those wait. -/
def stW (m : Int) (ids qs : List Int) : Wd := ⟨⟨ids.map leaseH, 0, 9, m, 9⟩, [], [], qs, []⟩
theorem stW_new (m : Int) : newWd m = stW m [] [] := rfl
theorem inB_iff (v : Int) (xs : List Int) : inB v xs = true ↔ v ∈ xs := by
  unfold inB
  rw [List.any_eq_true]
  constructor
  · rintro ⟨x, hx, e⟩
    have : v = x := by simpa using e
    rw [this]; exact hx
  · intro h
    exact ⟨v, h, by simp⟩
theorem leaseB_iff (v : Int) (ids : List Int) : leaseB v (ids.map leaseH) = true ↔ v ∈ ids := by
  unfold leaseB anyB
  rw [List.any_eq_true]
  constructor
  · rintro ⟨x, hx, e⟩
    obtain ⟨i, hi, rfl⟩ := List.mem_map.1 hx
    have : i = v := by simpa [isOf, leaseH] using e
    rw [← this]; exact hi
  · intro h
    exact ⟨leaseH v, List.mem_map.2 ⟨v, h, rfl⟩, by simp [isOf, leaseH]⟩
theorem countL_leases (ids : List Int) : countL 2 (ids.map leaseH) = ids.length := by
  unfold countL
  rw [List.filter_eq_self.2, List.length_map]
  intro a ha
  obtain ⟨i, _, rfl⟩ := List.mem_map.1 ha
  rfl
theorem doneB_st (m : Int) (ids qs : List Int) (id : Int) : doneB (stW m ids qs) id = true ↔ id ∈ qs ∨ id ∈ ids := by
  unfold doneB
  show (inB id qs || leaseB id (ids.map leaseH)) = true ↔ _
  rw [Bool.or_eq_true, inB_iff, leaseB_iff]
theorem takeE_st (m : Int) (ids qs : List Int) : takeE (stW m ids qs).lg 2 = if m ≤ (ids.length : Int) then 8 else 0 := by
  unfold takeE
  rw [if_neg (by omega)]
  show (if m ≤ (countL 2 (ids.map leaseH) : Int) then (8 : Int) else 0) = _
  rw [countL_leases]
theorem takeR_st (m : Int) (ids qs : List Int) (id : Int) (h : ¬ m ≤ (ids.length : Int)) : takeR (stW m ids qs).lg id 2 (-1) = (stW m (ids ++ [id]) qs).lg := by
  unfold takeR
  rw [takeE_st, if_neg h, if_pos rfl]
  show (⟨ids.map leaseH ++ [⟨id, 2, -1⟩], 0, 9, m, 9⟩ : Lg) = ⟨(ids ++ [id]).map leaseH, 0, 9, m, 9⟩
  rw [List.map_append]
  rfl
/-- Who holds one, or waits, is told so. -/
theorem ask_st_done (m : Int) (ids qs : List Int) (id waits : Int) (h : id ∈ qs ∨ id ∈ ids) : askE (stW m ids qs) id waits = 9 ∧ askR (stW m ids qs) id waits = zeroWd := by
  unfold askE askR
  have hd := (doneB_st m ids qs id).2 h
  rw [if_pos hd, if_pos hd]
  exact ⟨rfl, rfl⟩
/-- Nobody waits, and there is one: it is taken. -/
theorem ask_st_takes (m : Int) (ids : List Int) (id waits : Int) (h : id ∉ ids) (hm : (ids.length : Int) < m) : askE (stW m ids []) id waits = 0 ∧ askR (stW m ids []) id waits = stW m (ids ++ [id]) [] := by
  unfold askE askR
  have hd : ¬ doneB (stW m ids []) id = true := fun e => by
    rcases (doneB_st m ids [] id).1 e with h1 | h1
    · simp at h1
    · exact h h1
  have ht : (stW m ids []).queue.length = 0 ∧ takeE (stW m ids []).lg 2 = 0 := ⟨rfl, by rw [takeE_st, if_neg (by omega)]⟩
  rw [if_neg hd, if_neg hd, if_pos ht, if_pos ht]
  refine ⟨rfl, ?_⟩
  rw [takeR_st m ids [] id (by omega)]
  rfl
theorem not_free {m : Int} {ids qs : List Int} (hn : qs ≠ [] ∨ m ≤ (ids.length : Int)) : ¬ ((stW m ids qs).queue.length = 0 ∧ takeE (stW m ids qs).lg 2 = 0) := by
  rintro ⟨h1, h2⟩
  rcases hn with h | h
  · exact h (List.eq_nil_of_length_eq_zero h1)
  · rw [takeE_st, if_pos h] at h2
    omega
/-- There is none, and there is room to wait. -/
theorem ask_st_waits (m : Int) (ids qs : List Int) (id waits : Int) (h : id ∉ qs) (h' : id ∉ ids) (hn : qs ≠ [] ∨ m ≤ (ids.length : Int)) (hw : (qs.length : Int) < waits) : askE (stW m ids qs) id waits = 10 ∧ askR (stW m ids qs) id waits = stW m ids (qs ++ [id]) := by
  unfold askE askR
  have hd : ¬ doneB (stW m ids qs) id = true := fun e => by
    rcases (doneB_st m ids qs id).1 e with h1 | h1
    · exact h h1
    · exact h' h1
  have ht := not_free hn
  have hw' : ¬ waits ≤ ((stW m ids qs).queue.length : Int) := by show ¬ waits ≤ (qs.length : Int); omega
  rw [if_neg hd, if_neg hd, if_neg ht, if_neg ht, if_neg hw', if_neg hw']
  exact ⟨rfl, rfl⟩
/-- There is none, and no room. -/
theorem ask_st_full (m : Int) (ids qs : List Int) (id waits : Int) (h : id ∉ qs) (h' : id ∉ ids) (hn : qs ≠ [] ∨ m ≤ (ids.length : Int)) (hw : waits ≤ (qs.length : Int)) : askE (stW m ids qs) id waits = 8 ∧ askR (stW m ids qs) id waits = zeroWd := by
  unfold askE askR
  have hd : ¬ doneB (stW m ids qs) id = true := fun e => by
    rcases (doneB_st m ids qs id).1 e with h1 | h1
    · exact h h1
    · exact h' h1
  have ht := not_free hn
  have hw' : waits ≤ ((stW m ids qs).queue.length : Int) := hw
  rw [if_neg hd, if_neg hd, if_neg ht, if_neg ht, if_pos hw', if_pos hw']
  exact ⟨rfl, rfl⟩

/-- The numbers from a on, below b. -/
def upto (a b : Nat) : List Int := (List.range' a (b - a)).map fun (n : Nat) => (n : Int)
theorem upto_length (a b : Nat) : (upto a b).length = b - a := by simp [upto]
theorem upto_mem (a b : Nat) (x : Int) : x ∈ upto a b ↔ ∃ n : Nat, a ≤ n ∧ n < b ∧ x = n := by
  unfold upto
  rw [List.mem_map]
  constructor
  · rintro ⟨n, hn, rfl⟩
    rw [List.mem_range'_1] at hn
    exact ⟨n, hn.1, by omega, rfl⟩
  · rintro ⟨n, h1, h2, rfl⟩
    exact ⟨n, by rw [List.mem_range'_1]; omega, rfl⟩
theorem upto_none {a b : Nat} (h : b ≤ a) : upto a b = [] := by
  have : b - a = 0 := by omega
  simp [upto, this]
theorem upto_snoc {a b : Nat} (h : a ≤ b) : upto a (b + 1) = upto a b ++ [(b : Int)] := by
  unfold upto
  rw [show b + 1 - a = (b - a) + 1 by omega, List.range'_concat, List.map_append]
  simp
  omega
theorem upto_cons {a b : Nat} (h : a < b) : upto a b = (a : Int) :: upto (a + 1) b := by
  unfold upto
  rw [show b - a = (b - (a + 1)) + 1 by omega, List.range'_succ]
  rfl
/-- What so many asks come to, one behind the other. -/
def asked (m k : Nat) : Wd := stW m (upto 0 (min k m)) (upto m k)
theorem asked_new (m : Nat) : asked m 0 = newWd m := by
  unfold asked
  rw [Nat.zero_min, upto_none (Nat.le_refl _), upto_none (Nat.zero_le _)]
  rfl
theorem asked_step (m k : Nat) (waits : Int) (hw : (k : Int) - m < waits) : askE (asked m k) k waits = (if k < m then 0 else 10) ∧ askR (asked m k) k waits = asked m (k + 1) := by
  unfold asked
  by_cases h : k < m
  · rw [if_pos h, upto_none (a := m) (b := k) (by omega), upto_none (a := m) (b := k + 1) (by omega), Nat.min_eq_left (by omega), Nat.min_eq_left (by omega), upto_snoc (Nat.zero_le _)]
    refine ask_st_takes _ _ _ _ ?_ ?_
    · rw [upto_mem]
      rintro ⟨n, h1, h2, h3⟩
      omega
    · rw [upto_length]; omega
  · rw [if_neg h, Nat.min_eq_right (by omega), Nat.min_eq_right (by omega), upto_snoc (a := m) (b := k) (by omega)]
    refine ask_st_waits _ _ _ _ _ ?_ ?_ (.inr ?_) ?_
    · rw [upto_mem]
      rintro ⟨n, h1, h2, h3⟩
      omega
    · rw [upto_mem]
      rintro ⟨n, h1, h2, h3⟩
      omega
    · rw [upto_length]; omega
    · rw [upto_length]; omega
end Go.Proofs.Ytnhndieoaceofaa
