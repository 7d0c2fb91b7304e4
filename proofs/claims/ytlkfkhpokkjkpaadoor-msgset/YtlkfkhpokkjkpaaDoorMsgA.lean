/- Walks of the small byte tests of package msg. -/
import Derived.Test.YtlkfkhpokkjkpaaDoorRows
import Derived.WalkKit
import Derived.WalkSpells
import Derived.WalkLawsBesides
import Derived.Lib.Strings
namespace Go.Proofs.YtlkfkhpokkjkpaaDoor
open Go.RowKit

def smallB (c : Int) : Bool := decide (97 ≤ c) && decide (c ≤ 122)
def lineB (c : Int) : Bool := decide (32 ≤ c) && decide (c ≤ 126)
def pathB (c : Int) : Bool := smallB c || (decide (48 ≤ c) && decide (c ≤ 57)) || c == 47
def allB (p : Int → Bool) (s : ByteArray) : Bool := s.data.toList.all fun b => p (b.toNat : Int)

theorem allB_true {p : Int → Bool} {s : ByteArray} (h : ∀ j (hj : j < s.size), p (s[j].toNat : Int) = true) : allB p s = true := by
  unfold allB
  rw [List.all_eq_true]
  intro b hb
  obtain ⟨j, hj, rfl⟩ := List.mem_iff_getElem.1 hb
  exact h j (by simpa using hj)
theorem allB_false {p : Int → Bool} {s : ByteArray} (j : Nat) (hj : j < s.size) (h : p (s[j].toNat : Int) = false) : allB p s = false := by
  unfold allB
  rw [List.all_eq_false]
  exact ⟨s[j], by rw [List.mem_iff_getElem]; exact ⟨j, by simpa using hj, rfl⟩, by rw [h]; simp⟩

theorem ret_bool {a b : Bool} (h : a = b) : Ending.returned (.bool a) = .returned (.bool b) := by rw [h]

set_option maxHeartbeats 400000 in
theorem small_any (c : Int) (w : World) :
    Calls Tryd.prog 43 #[.int .u8 c] w fun e w' => e = .returned (.bool (smallB c)) ∧ w' = w := by
  unfold smallB
  by_cases h1 : 97 ≤ c
  all_goals
    go_enter Tryd.func43, Tryd.ntmps43
    go_wp2
    go_ret
    refine ⟨ret_bool ?_, rfl⟩
    first | simp [h1]; done | (rw [decide_eq_false (by omega)]; rfl)

set_option maxHeartbeats 400000 in
theorem line1_any (c : Int) (w : World) :
    Calls Tryd.prog 59 #[.int .u8 c] w fun e w' => e = .returned (.bool (lineB c)) ∧ w' = w := by
  unfold lineB
  by_cases h1 : 32 ≤ c
  all_goals
    go_enter Tryd.func59, Tryd.ntmps59
    go_wp2
    go_ret
    refine ⟨ret_bool ?_, rfl⟩
    first | simp [h1]; done | (rw [decide_eq_false (by omega)]; rfl)

set_option maxHeartbeats 400000 in
theorem path1_any (c : Int) (w : World) :
    Calls Tryd.prog 46 #[.int .u8 c] w fun e w' => e = .returned (.bool (pathB c)) ∧ w' = w := by
  unfold pathB
  by_cases h0 : smallB c = true
  · go_enter Tryd.func46, Tryd.ntmps46
    go_wp2_with (go_at_call 43; refine (small_any _ _).mono ?_; rintro e w' ⟨rfl, rfl⟩)
    go_ret
    exact ⟨ret_bool (by simp [h0]), rfl⟩
  · have h0' : smallB c = false := by simpa using h0
    clear h0
    by_cases h1 : 48 ≤ c
    · by_cases h2 : c ≤ 57
      · have hd : (c == 47) = false := by simp; omega
        go_enter Tryd.func46, Tryd.ntmps46
        go_wp2_with (go_at_call 43; refine (small_any _ _).mono ?_; rintro e w' ⟨rfl, rfl⟩)
        go_ret
        exact ⟨ret_bool (by simp [h1, h2]), rfl⟩
      · have hd : (c == 47) = false := by simp; omega
        go_enter Tryd.func46, Tryd.ntmps46
        go_wp2_with (go_at_call 43; refine (small_any _ _).mono ?_; rintro e w' ⟨rfl, rfl⟩)
        go_ret
        exact ⟨ret_bool (by rw [decide_eq_false (by omega : ¬ c ≤ 57), h0', hd]; simp), rfl⟩
    · by_cases h3 : c = 47
      · subst h3
        go_enter Tryd.func46, Tryd.ntmps46
        go_wp2_with (go_at_call 43; refine (small_any _ _).mono ?_; rintro e w' ⟨rfl, rfl⟩)
        go_ret
        exact ⟨ret_bool (by decide), rfl⟩
      · have hd : (c == 47) = false := by simp [h3]
        go_enter Tryd.func46, Tryd.ntmps46
        go_wp2_with (go_at_call 43; refine (small_any _ _).mono ?_; rintro e w' ⟨rfl, rfl⟩)
        go_ret
        exact ⟨ret_bool (by rw [decide_eq_false (by omega : ¬ 48 ≤ c)]; first | simp; done | (rw [h0', hd]; simp; done)), rfl⟩

set_option maxHeartbeats 400000 in
theorem consists31 (s : ByteArray) (most : Int) (w : World) (hs : s.size ≤ maxLen) :
    Calls Tryd.prog 42 #[.string s, .int .i64 most, .func (.func 43) #[] #[]] w fun e w' => e = .returned (.bool (decide ((s.size : Int) ≤ most) && allB smallB s)) ∧ w' = w := by
  unfold maxLen at hs
  by_cases hm : most < (s.size : Int)
  · go_enter Tryd.func42, Tryd.ntmps42
    go_wp2
    go_ret
    exact ⟨ret_bool (by simp; omega), rfl⟩
  · go_enter Tryd.func42, Tryd.ntmps42
    go_wp2
    go_loop [14] (fun i => ∃ k : Nat, k ≤ s.size ∧ i = .int .i64 k ∧ ∀ j (hj : j < s.size), j < k → smallB (s[j].toNat : Int) = true) (fun i => s.size - (intOf i).toNat)
    case atStart => exact ⟨0, Nat.zero_le _, rfl, fun j _ h => absurd h (by omega)⟩
    case round =>
      obtain ⟨k, hk, rfl, hall⟩ := hrel
      have HA : Hid _ := hall
      clear hall
      by_cases hlt : k < s.size
      · by_cases hc : smallB (s[k].toNat : Int) = true
        · go_wp2_with (go_at_call 43; refine (small_any _ _).mono ?_; rintro e w' ⟨rfl, rfl⟩)
          go_round
          case rel => exact ⟨k + 1, by omega, by go_num, fun j hj h => by
            by_cases e : j = k
            · subst e; exact hc
            · exact HA.out j hj (by omega)⟩
          case measure => simp [intOf]; omega
        · have hc' : smallB (s[k].toNat : Int) = false := by simpa using hc
          clear hc
          go_wp2_with (go_at_call 43; refine (small_any _ _).mono ?_; rintro e w' ⟨rfl, rfl⟩)
          go_ret
          exact ⟨ret_bool (by rw [allB_false k hlt hc']; simp), rfl⟩
      · go_wp2
        go_ret
        refine ⟨ret_bool ?_, rfl⟩
        rw [allB_true (fun j hj => HA.out j hj (by omega))]

set_option maxHeartbeats 400000 in
theorem consists44 (s : ByteArray) (most : Int) (w : World) (hs : s.size ≤ maxLen) :
    Calls Tryd.prog 42 #[.string s, .int .i64 most, .func (.func 59) #[] #[]] w fun e w' => e = .returned (.bool (decide ((s.size : Int) ≤ most) && allB lineB s)) ∧ w' = w := by
  unfold maxLen at hs
  by_cases hm : most < (s.size : Int)
  · go_enter Tryd.func42, Tryd.ntmps42
    go_wp2
    go_ret
    exact ⟨ret_bool (by simp; omega), rfl⟩
  · go_enter Tryd.func42, Tryd.ntmps42
    go_wp2
    go_loop [14] (fun i => ∃ k : Nat, k ≤ s.size ∧ i = .int .i64 k ∧ ∀ j (hj : j < s.size), j < k → lineB (s[j].toNat : Int) = true) (fun i => s.size - (intOf i).toNat)
    case atStart => exact ⟨0, Nat.zero_le _, rfl, fun j _ h => absurd h (by omega)⟩
    case round =>
      obtain ⟨k, hk, rfl, hall⟩ := hrel
      have HA : Hid _ := hall
      clear hall
      by_cases hlt : k < s.size
      · by_cases hc : lineB (s[k].toNat : Int) = true
        · go_wp2_with (go_at_call 59; refine (line1_any _ _).mono ?_; rintro e w' ⟨rfl, rfl⟩)
          go_round
          case rel => exact ⟨k + 1, by omega, by go_num, fun j hj h => by
            by_cases e : j = k
            · subst e; exact hc
            · exact HA.out j hj (by omega)⟩
          case measure => simp [intOf]; omega
        · have hc' : lineB (s[k].toNat : Int) = false := by simpa using hc
          clear hc
          go_wp2_with (go_at_call 59; refine (line1_any _ _).mono ?_; rintro e w' ⟨rfl, rfl⟩)
          go_ret
          exact ⟨ret_bool (by rw [allB_false k hlt hc']; simp), rfl⟩
      · go_wp2
        go_ret
        refine ⟨ret_bool ?_, rfl⟩
        rw [allB_true (fun j hj => HA.out j hj (by omega))]

set_option maxHeartbeats 400000 in
theorem consists34 (s : ByteArray) (most : Int) (w : World) (hs : s.size ≤ maxLen) :
    Calls Tryd.prog 42 #[.string s, .int .i64 most, .func (.func 46) #[] #[]] w fun e w' => e = .returned (.bool (decide ((s.size : Int) ≤ most) && allB pathB s)) ∧ w' = w := by
  unfold maxLen at hs
  by_cases hm : most < (s.size : Int)
  · go_enter Tryd.func42, Tryd.ntmps42
    go_wp2
    go_ret
    exact ⟨ret_bool (by simp; omega), rfl⟩
  · go_enter Tryd.func42, Tryd.ntmps42
    go_wp2
    go_loop [14] (fun i => ∃ k : Nat, k ≤ s.size ∧ i = .int .i64 k ∧ ∀ j (hj : j < s.size), j < k → pathB (s[j].toNat : Int) = true) (fun i => s.size - (intOf i).toNat)
    case atStart => exact ⟨0, Nat.zero_le _, rfl, fun j _ h => absurd h (by omega)⟩
    case round =>
      obtain ⟨k, hk, rfl, hall⟩ := hrel
      have HA : Hid _ := hall
      clear hall
      by_cases hlt : k < s.size
      · by_cases hc : pathB (s[k].toNat : Int) = true
        · go_wp2_with (go_at_call 46; refine (path1_any _ _).mono ?_; rintro e w' ⟨rfl, rfl⟩)
          go_round
          case rel => exact ⟨k + 1, by omega, by go_num, fun j hj h => by
            by_cases e : j = k
            · subst e; exact hc
            · exact HA.out j hj (by omega)⟩
          case measure => simp [intOf]; omega
        · have hc' : pathB (s[k].toNat : Int) = false := by simpa using hc
          clear hc
          go_wp2_with (go_at_call 46; refine (path1_any _ _).mono ?_; rintro e w' ⟨rfl, rfl⟩)
          go_ret
          exact ⟨ret_bool (by rw [allB_false k hlt hc']; simp), rfl⟩
      · go_wp2
        go_ret
        refine ⟨ret_bool ?_, rfl⟩
        rw [allB_true (fun j hj => HA.out j hj (by omega))]


theorem toList_eq (s : ByteArray) : s.toList = s.data.toList := by
  exact Lib.toList_data s

def keyB (s : ByteArray) : Bool := decide (s.toList ≠ []) && (decide ((s.size : Int) ≤ 8) && allB smallB s)
def linB (s : ByteArray) : Bool := decide ((s.size : Int) ≤ 20) && allB lineB s
def pthB (s : ByteArray) : Bool := decide (s.toList ≠ []) && ((if h : 0 < s.size then (s[0].toNat : Int) == 47 else false) && (decide ((s.size : Int) ≤ 24) && allB pathB s))

set_option maxHeartbeats 400000 in
theorem line_any (s : ByteArray) (w : World) (hs : s.size ≤ maxLen) :
    Calls Tryd.prog 40 #[.string s] w fun e w' => e = .returned (.bool (linB s)) ∧ w' = w := by
  unfold linB
  go_enter Tryd.func40, Tryd.ntmps40
  go_wp2_with (go_at_call 42; refine (consists44 _ _ _ hs).mono ?_; rintro e w' ⟨rfl, rfl⟩)
  go_ret
  exact ⟨rfl, rfl⟩

set_option maxHeartbeats 400000 in
theorem key_any (s : ByteArray) (w : World) (hs : s.size ≤ maxLen) :
    Calls Tryd.prog 12 #[.string s] w fun e w' => e = .returned (.bool (keyB s)) ∧ w' = w := by
  generalize hr : keyB s = r
  have HR : Hid (keyB s = r) := hr
  clear hr
  by_cases h : s.toList = []
  all_goals
    go_enter Tryd.func12, Tryd.ntmps12
    go_wp2_with (go_at_call 42; refine (consists31 _ _ _ hs).mono ?_; rintro e w' ⟨rfl, rfl⟩)
    go_ret
    exact ⟨ret_bool (by rw [← HR.out]; simp [keyB, h]), rfl⟩

set_option maxHeartbeats 400000 in
theorem path_any (s : ByteArray) (w : World) (hs : s.size ≤ maxLen) :
    Calls Tryd.prog 14 #[.string s] w fun e w' => e = .returned (.bool (pthB s)) ∧ w' = w := by
  generalize hr : pthB s = r
  have HR : Hid (pthB s = r) := hr
  clear hr
  by_cases h : s.toList = []
  · go_enter Tryd.func14, Tryd.ntmps14
    go_wp2_with (go_at_call 42; refine (consists34 _ _ _ hs).mono ?_; rintro e w' ⟨rfl, rfl⟩)
    go_ret
    exact ⟨ret_bool (by rw [← HR.out]; simp [pthB, h]), rfl⟩
  · have hp : 0 < s.size := by
      rcases Nat.eq_zero_or_pos s.size with h0 | h0
      · exact absurd (by rw [toList_eq]; exact List.eq_nil_of_length_eq_zero (by simpa using h0)) h
      · exact h0
    by_cases hc : (s[0].toNat : Int) = 47
    · have hc' : ((s[0].toNat : Int) == 47) = true := by simp [hc]
      have H1 : Hid (((s[0].toNat : Int) == 47) = true) := hc'
      clear hc'
      go_enter Tryd.func14, Tryd.ntmps14
      go_wp2_with (go_at_call 42; refine (consists34 _ _ _ hs).mono ?_; rintro e w' ⟨rfl, rfl⟩)
      go_ret
      exact ⟨ret_bool (by rw [← HR.out]; unfold pthB; rw [dif_pos hp, H1.out]; simp [h]), rfl⟩
    · have hc' : ((s[0].toNat : Int) == 47) = false := by simp [hc]
      have H1 : Hid (((s[0].toNat : Int) == 47) = false) := hc'
      clear hc'
      go_enter Tryd.func14, Tryd.ntmps14
      go_wp2_with (go_at_call 42; refine (consists34 _ _ _ hs).mono ?_; rintro e w' ⟨rfl, rfl⟩)
      go_ret
      exact ⟨ret_bool (by rw [← HR.out]; unfold pthB; rw [dif_pos hp, H1.out]; simp [h]), rfl⟩
end Go.Proofs.YtlkfkhpokkjkpaaDoor
