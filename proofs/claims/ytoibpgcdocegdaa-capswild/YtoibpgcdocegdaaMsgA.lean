/- Walks of the small byte tests of package msg. -/
import Derived.Test.YtoibpgcdocegdaaRows
import Derived.WalkKit
import Derived.WalkSpells
import Derived.WalkLawsBesides
import Derived.Lib.Strings
namespace Go.Proofs.Ytoibpgcdocegdaa
open Go.RowKit

def smallB (c : Int) : Bool := decide (97 ≤ c) && decide (c ≤ 122)
def lineB (c : Int) : Bool := decide (32 ≤ c) && decide (c ≤ 126)
def pathB (c : Int) : Bool := smallB c || (decide (48 ≤ c) && decide (c ≤ 57)) || c == 47
def allB (p : Int → Bool) (s : ByteArray) : Bool := s.data.toList.all fun b => p (b.toNat : Int)

theorem allB_true {p : Int → Bool} {s : ByteArray} (h : ∀ j (hj : j < s.size), p (s[j].toNat : Int) = true) : allB p s = true := by
  unfold allB
  rw [List.all_eq_true]
  intro b hb
  obtain ⟨j, hj, rfl⟩ := List.mem_iff_getElem.1 hb
  exact h j (by simpa using hj)
theorem allB_false {p : Int → Bool} {s : ByteArray} (j : Nat) (hj : j < s.size) (h : p (s[j].toNat : Int) = false) : allB p s = false := by
  unfold allB
  rw [List.all_eq_false]
  exact ⟨s[j], by rw [List.mem_iff_getElem]; exact ⟨j, by simpa using hj, rfl⟩, by rw [h]; simp⟩

theorem ret_bool {a b : Bool} (h : a = b) : Ending.returned (.bool a) = .returned (.bool b) := by rw [h]

set_option maxHeartbeats 400000 in
theorem small_any (c : Int) (w : World) :
    Calls Try.prog 47 #[.int .u8 c] w fun e w' => e = .returned (.bool (smallB c)) ∧ w' = w := by
  unfold smallB
  by_cases h1 : 97 ≤ c
  all_goals
    go_enter Try.func47, Try.ntmps47
    go_wp2
    go_ret
    refine ⟨ret_bool ?_, rfl⟩
    first | simp [h1]; done | (rw [decide_eq_false (by omega)]; rfl)

set_option maxHeartbeats 400000 in
theorem line1_any (c : Int) (w : World) :
    Calls Try.prog 48 #[.int .u8 c] w fun e w' => e = .returned (.bool (lineB c)) ∧ w' = w := by
  unfold lineB
  by_cases h1 : 32 ≤ c
  all_goals
    go_enter Try.func48, Try.ntmps48
    go_wp2
    go_ret
    refine ⟨ret_bool ?_, rfl⟩
    first | simp [h1]; done | (rw [decide_eq_false (by omega)]; rfl)

set_option maxHeartbeats 400000 in
theorem consists31 (s : ByteArray) (most : Int) (w : World) (hs : s.size ≤ maxLen) :
    Calls Try.prog 46 #[.string s, .int .i64 most, .func (.func 47) #[] #[]] w fun e w' => e = .returned (.bool (decide ((s.size : Int) ≤ most) && allB smallB s)) ∧ w' = w := by
  unfold maxLen at hs
  by_cases hm : most < (s.size : Int)
  · go_enter Try.func46, Try.ntmps46
    go_wp2
    go_ret
    exact ⟨ret_bool (by simp; omega), rfl⟩
  · go_enter Try.func46, Try.ntmps46
    go_wp2
    go_loop [14] (fun i => ∃ k : Nat, k ≤ s.size ∧ i = .int .i64 k ∧ ∀ j (hj : j < s.size), j < k → smallB (s[j].toNat : Int) = true) (fun i => s.size - (intOf i).toNat)
    case atStart => exact ⟨0, Nat.zero_le _, rfl, fun j _ h => absurd h (by omega)⟩
    case round =>
      obtain ⟨k, hk, rfl, hall⟩ := hrel
      have HA : Hid _ := hall
      clear hall
      by_cases hlt : k < s.size
      · by_cases hc : smallB (s[k].toNat : Int) = true
        · go_wp2_with (go_at_call 47; refine (small_any _ _).mono ?_; rintro e w' ⟨rfl, rfl⟩)
          go_round
          case rel => exact ⟨k + 1, by omega, by go_num, fun j hj h => by
            by_cases e : j = k
            · subst e; exact hc
            · exact HA.out j hj (by omega)⟩
          case measure => simp [intOf]; omega
        · have hc' : smallB (s[k].toNat : Int) = false := by simpa using hc
          clear hc
          go_wp2_with (go_at_call 47; refine (small_any _ _).mono ?_; rintro e w' ⟨rfl, rfl⟩)
          go_ret
          exact ⟨ret_bool (by rw [allB_false k hlt hc']; simp), rfl⟩
      · go_wp2
        go_ret
        refine ⟨ret_bool ?_, rfl⟩
        rw [allB_true (fun j hj => HA.out j hj (by omega))]

set_option maxHeartbeats 400000 in
theorem consists44 (s : ByteArray) (most : Int) (w : World) (hs : s.size ≤ maxLen) :
    Calls Try.prog 46 #[.string s, .int .i64 most, .func (.func 48) #[] #[]] w fun e w' => e = .returned (.bool (decide ((s.size : Int) ≤ most) && allB lineB s)) ∧ w' = w := by
  unfold maxLen at hs
  by_cases hm : most < (s.size : Int)
  · go_enter Try.func46, Try.ntmps46
    go_wp2
    go_ret
    exact ⟨ret_bool (by simp; omega), rfl⟩
  · go_enter Try.func46, Try.ntmps46
    go_wp2
    go_loop [14] (fun i => ∃ k : Nat, k ≤ s.size ∧ i = .int .i64 k ∧ ∀ j (hj : j < s.size), j < k → lineB (s[j].toNat : Int) = true) (fun i => s.size - (intOf i).toNat)
    case atStart => exact ⟨0, Nat.zero_le _, rfl, fun j _ h => absurd h (by omega)⟩
    case round =>
      obtain ⟨k, hk, rfl, hall⟩ := hrel
      have HA : Hid _ := hall
      clear hall
      by_cases hlt : k < s.size
      · by_cases hc : lineB (s[k].toNat : Int) = true
        · go_wp2_with (go_at_call 48; refine (line1_any _ _).mono ?_; rintro e w' ⟨rfl, rfl⟩)
          go_round
          case rel => exact ⟨k + 1, by omega, by go_num, fun j hj h => by
            by_cases e : j = k
            · subst e; exact hc
            · exact HA.out j hj (by omega)⟩
          case measure => simp [intOf]; omega
        · have hc' : lineB (s[k].toNat : Int) = false := by simpa using hc
          clear hc
          go_wp2_with (go_at_call 48; refine (line1_any _ _).mono ?_; rintro e w' ⟨rfl, rfl⟩)
          go_ret
          exact ⟨ret_bool (by rw [allB_false k hlt hc']; simp), rfl⟩
      · go_wp2
        go_ret
        refine ⟨ret_bool ?_, rfl⟩
        rw [allB_true (fun j hj => HA.out j hj (by omega))]

theorem toList_eq (s : ByteArray) : s.toList = s.data.toList := by
  exact Lib.toList_data s

def keyB (s : ByteArray) : Bool := decide (s.toList ≠ []) && (decide ((s.size : Int) ≤ 8) && allB smallB s)
def linB (s : ByteArray) : Bool := decide ((s.size : Int) ≤ 20) && allB lineB s
def pthB (s : ByteArray) : Bool := decide (s.toList ≠ []) && ((if h : 0 < s.size then (s[0].toNat : Int) == 47 else false) && (decide ((s.size : Int) ≤ 24) && allB pathB s))

set_option maxHeartbeats 400000 in
theorem line_any (s : ByteArray) (w : World) (hs : s.size ≤ maxLen) :
    Calls Try.prog 45 #[.string s] w fun e w' => e = .returned (.bool (linB s)) ∧ w' = w := by
  unfold linB
  go_enter Try.func45, Try.ntmps45
  go_wp2_with (go_at_call 46; refine (consists44 _ _ _ hs).mono ?_; rintro e w' ⟨rfl, rfl⟩)
  go_ret
  exact ⟨rfl, rfl⟩

set_option maxHeartbeats 400000 in
theorem key_any (s : ByteArray) (w : World) (hs : s.size ≤ maxLen) :
    Calls Try.prog 44 #[.string s] w fun e w' => e = .returned (.bool (keyB s)) ∧ w' = w := by
  generalize hr : keyB s = r
  have HR : Hid (keyB s = r) := hr
  clear hr
  by_cases h : s.toList = []
  all_goals
    go_enter Try.func44, Try.ntmps44
    go_wp2_with (go_at_call 46; refine (consists31 _ _ _ hs).mono ?_; rintro e w' ⟨rfl, rfl⟩)
    go_ret
    exact ⟨ret_bool (by rw [← HR.out]; simp [keyB, h]), rfl⟩

end Go.Proofs.Ytoibpgcdocegdaa
