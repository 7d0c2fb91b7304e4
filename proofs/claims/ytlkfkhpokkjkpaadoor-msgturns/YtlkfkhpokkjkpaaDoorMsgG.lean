/- Walks of Wrong: all cases. -/
import Derived.Test.YtlkfkhpokkjkpaaDoorMsgF
namespace Go.Proofs.YtlkfkhpokkjkpaaDoor
open Go.RowKit

set_option maxRecDepth 100000 in
set_option maxHeartbeats 1000000 in
theorem wrong_range1 (m : Ms) (v : Value) (w : World) (hm : MsAt w v m) (h1 : (m.st == 0) = false) (h2 : decide (m.st < 100) = true) :
    Calls Tryd.prog 10 #[v] w fun e w' => e = .returned (.int .i64 3) ∧ Below w.heap.size w w' := by
  obtain ⟨⟨ao, c, bo, d, rfl, a1, a2, _, _, n3, n4⟩, hp, R⟩ := hm
  clear R a1 a2 n3 n4
  go_enter Tryd.func10, Tryd.ntmps10
  go_wp2_with (first | (go_at_call 14; refine (path_any _ _ hp).mono ?_; rintro e w' ⟨rfl, rfl⟩))
  all_goals go_ret
  all_goals exact ⟨rfl, (Below.refl _ _).alloc (Nat.le_refl _) _⟩

set_option maxRecDepth 100000 in
set_option maxHeartbeats 1000000 in
theorem wrong_range2 (m : Ms) (v : Value) (w : World) (hm : MsAt w v m) (h1 : (m.st == 0) = false) (h2 : decide (m.st < 100) = false) (h3 : decide (599 < m.st) = true) :
    Calls Tryd.prog 10 #[v] w fun e w' => e = .returned (.int .i64 3) ∧ Below w.heap.size w w' := by
  obtain ⟨⟨ao, c, bo, d, rfl, a1, a2, _, _, n3, n4⟩, hp, R⟩ := hm
  clear R a1 a2 n3 n4
  go_enter Tryd.func10, Tryd.ntmps10
  go_wp2_with (first | (go_at_call 14; refine (path_any _ _ hp).mono ?_; rintro e w' ⟨rfl, rfl⟩))
  all_goals go_ret
  all_goals exact ⟨rfl, (Below.refl _ _).alloc (Nat.le_refl _) _⟩

set_option maxRecDepth 100000 in
set_option maxHeartbeats 1000000 in
theorem wrong_form1 (m : Ms) (v : Value) (w : World) (hm : MsAt w v m) (h1 : (m.st == 0) = true) (h2 : pthB m.path = false) :
    Calls Tryd.prog 10 #[v] w fun e w' => e = .returned (.int .i64 2) ∧ Below w.heap.size w w' := by
  obtain ⟨⟨ao, c, bo, d, rfl, a1, a2, _, _, n3, n4⟩, hp, R⟩ := hm
  clear R a1 a2 n3 n4
  go_enter Tryd.func10, Tryd.ntmps10
  go_wp2_with (first | (go_at_call 14; refine (path_any _ _ hp).mono ?_; rintro e w' ⟨rfl, rfl⟩))
  all_goals go_ret
  all_goals exact ⟨rfl, (Below.refl _ _).alloc (Nat.le_refl _) _⟩

set_option maxRecDepth 100000 in
set_option maxHeartbeats 1000000 in
theorem wrong_form2 (m : Ms) (v : Value) (w : World) (hm : MsAt w v m) (h1 : (m.st == 0) = false) (h2 : decide (m.st < 100) = false) (h3 : decide (599 < m.st) = false) (h4 : m.path.toList.isEmpty = false) :
    Calls Tryd.prog 10 #[v] w fun e w' => e = .returned (.int .i64 2) ∧ Below w.heap.size w w' := by
  obtain ⟨⟨ao, c, bo, d, rfl, a1, a2, _, _, n3, n4⟩, hp, R⟩ := hm
  clear R a1 a2 n3 n4
  go_enter Tryd.func10, Tryd.ntmps10
  go_wp2_with (first | (go_at_call 14; refine (path_any _ _ hp).mono ?_; rintro e w' ⟨rfl, rfl⟩))
  all_goals go_ret
  all_goals exact ⟨rfl, (Below.refl _ _).alloc (Nat.le_refl _) _⟩

set_option maxRecDepth 100000 in
set_option maxHeartbeats 1000000 in
theorem wrong_many1 (m : Ms) (v : Value) (w : World) (hm : MsAt w v m) (h1 : (m.st == 0) = true) (h2 : pthB m.path = true) (h6 : 6 < m.heads.length) :
    Calls Tryd.prog 10 #[v] w fun e w' => e = .returned (.int .i64 5) ∧ Below w.heap.size w w' := by
  obtain ⟨⟨ao, c, bo, d, rfl, a1, a2, _, _, n3, n4⟩, hp, R⟩ := hm
  clear R a1 a2 n3 n4
  have q3 : decide ((6 : Int) < (m.heads.length : Int)) = true := by simp; omega
  go_enter Tryd.func10, Tryd.ntmps10
  go_wp2_with (first | (go_at_call 14; refine (path_any _ _ hp).mono ?_; rintro e w' ⟨rfl, rfl⟩))
  all_goals go_ret
  all_goals exact ⟨rfl, (Below.refl _ _).alloc (Nat.le_refl _) _⟩

set_option maxRecDepth 100000 in
set_option maxHeartbeats 1000000 in
theorem wrong_many2 (m : Ms) (v : Value) (w : World) (hm : MsAt w v m) (h1 : (m.st == 0) = false) (h2 : decide (m.st < 100) = false) (h3 : decide (599 < m.st) = false) (h4 : m.path.toList = []) (h6 : 6 < m.heads.length) :
    Calls Tryd.prog 10 #[v] w fun e w' => e = .returned (.int .i64 5) ∧ Below w.heap.size w w' := by
  obtain ⟨⟨ao, c, bo, d, rfl, a1, a2, _, _, n3, n4⟩, hp, R⟩ := hm
  clear R a1 a2 n3 n4
  have q3 : decide ((6 : Int) < (m.heads.length : Int)) = true := by simp; omega
  go_enter Tryd.func10, Tryd.ntmps10
  go_wp2_with (first | (go_at_call 14; refine (path_any _ _ hp).mono ?_; rintro e w' ⟨rfl, rfl⟩))
  all_goals go_ret
  all_goals exact ⟨rfl, (Below.refl _ _).alloc (Nat.le_refl _) _⟩

set_option maxRecDepth 100000 in
set_option maxHeartbeats 1000000 in
theorem wrong_much1 (m : Ms) (v : Value) (w : World) (hm : MsAt w v m) (h1 : (m.st == 0) = true) (h2 : pthB m.path = true) (h6 : m.heads.length ≤ 6) (h7 : 40 < m.body.size) :
    Calls Tryd.prog 10 #[v] w fun e w' => e = .returned (.int .i64 4) ∧ Below w.heap.size w w' := by
  obtain ⟨⟨ao, c, bo, d, rfl, a1, a2, _, _, n3, n4⟩, hp, R⟩ := hm
  clear R a1 a2 n3 n4
  have q3 : decide ((6 : Int) < (m.heads.length : Int)) = false := by simp; omega
  have q4 : decide ((40 : Int) < (m.body.size : Int)) = true := by simp; omega
  go_enter Tryd.func10, Tryd.ntmps10
  go_wp2_with (first | (go_at_call 14; refine (path_any _ _ hp).mono ?_; rintro e w' ⟨rfl, rfl⟩))
  all_goals go_ret
  all_goals exact ⟨rfl, (Below.refl _ _).alloc (Nat.le_refl _) _⟩

set_option maxRecDepth 100000 in
set_option maxHeartbeats 1000000 in
theorem wrong_much2 (m : Ms) (v : Value) (w : World) (hm : MsAt w v m) (h1 : (m.st == 0) = false) (h2 : decide (m.st < 100) = false) (h3 : decide (599 < m.st) = false) (h4 : m.path.toList = []) (h6 : m.heads.length ≤ 6) (h7 : 40 < m.body.size) :
    Calls Tryd.prog 10 #[v] w fun e w' => e = .returned (.int .i64 4) ∧ Below w.heap.size w w' := by
  obtain ⟨⟨ao, c, bo, d, rfl, a1, a2, _, _, n3, n4⟩, hp, R⟩ := hm
  clear R a1 a2 n3 n4
  have q3 : decide ((6 : Int) < (m.heads.length : Int)) = false := by simp; omega
  have q4 : decide ((40 : Int) < (m.body.size : Int)) = true := by simp; omega
  go_enter Tryd.func10, Tryd.ntmps10
  go_wp2_with (first | (go_at_call 14; refine (path_any _ _ hp).mono ?_; rintro e w' ⟨rfl, rfl⟩))
  all_goals go_ret
  all_goals exact ⟨rfl, (Below.refl _ _).alloc (Nat.le_refl _) _⟩

theorem wrong_any (m : Ms) (v : Value) (w : World) (hm : MsAt w v m) :
    Calls Tryd.prog 10 #[v] w fun e w' => e = .returned (.int .i64 (wrongE m)) ∧ Below w.heap.size w w' := by
  by_cases h0 : m.st = 0
  · have h0' : (m.st == 0) = true := by simp [h0]
    cases hp : pthB m.path with
    | false =>
      have e : wrongE m = 2 := by simp [wrongE, h0, hp]
      rw [e]; exact wrong_form1 m v w hm h0' hp
    | true =>
      by_cases h6 : 6 < m.heads.length
      · have e : wrongE m = 5 := by simp [wrongE, h0, hp, h6]
        rw [e]; exact wrong_many1 m v w hm h0' hp h6
      · by_cases h40 : 40 < m.body.size
        · have e : wrongE m = 4 := by simp [wrongE, h0, hp, h6, h40]
          rw [e]; exact wrong_much1 m v w hm h0' hp (by omega) h40
        · have e : wrongE m = if okHs m.heads then 0 else 7 := by simp [wrongE, h0, hp, h6, h40]
          rw [e]; exact wrong_heads m v w hm (.inl ⟨h0', hp⟩) (by omega) (by omega)
  · have h0' : (m.st == 0) = false := by simp [h0]
    by_cases h100 : m.st < 100
    · have e : wrongE m = 3 := by simp [wrongE, h0, h100]
      rw [e]; exact wrong_range1 m v w hm h0' (by simp [h100])
    · have q100 : decide (m.st < 100) = false := by simp; omega
      by_cases h599 : 599 < m.st
      · have e : wrongE m = 3 := by simp [wrongE, h0, h599]
        rw [e]; exact wrong_range2 m v w hm h0' q100 (by simp [h599])
      · have q599 : decide (599 < m.st) = false := by simp; omega
        by_cases hp : m.path.toList = []
        · by_cases h6 : 6 < m.heads.length
          · have e : wrongE m = 5 := by simp [wrongE, h0, h100, h599, hp, h6]
            rw [e]; exact wrong_many2 m v w hm h0' q100 q599 hp h6
          · by_cases h40 : 40 < m.body.size
            · have e : wrongE m = 4 := by simp [wrongE, h0, h100, h599, hp, h6, h40]
              rw [e]; exact wrong_much2 m v w hm h0' q100 q599 hp (by omega) h40
            · have e : wrongE m = if okHs m.heads then 0 else 7 := by simp [wrongE, h0, h100, h599, hp, h6, h40]
              rw [e]; exact wrong_heads m v w hm (.inr ⟨h0', q100, q599, hp⟩) (by omega) (by omega)
        · have e : wrongE m = 2 := by simp [wrongE, h0, h100, h599, hp]
          rw [e]; exact wrong_form2 m v w hm h0' q100 q599 (by simpa using hp)
end Go.Proofs.YtlkfkhpokkjkpaaDoor
