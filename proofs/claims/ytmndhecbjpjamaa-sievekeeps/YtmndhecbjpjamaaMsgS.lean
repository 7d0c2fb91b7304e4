/- Walks of the document's own Wrong: all cases. -/
import Derived.Test.YtmndhecbjpjamaaMsgR
namespace Go.Proofs.Ytmndhecbjpjamaa
open Go.RowKit

theorem length_toList (s : ByteArray) : s.toList.length = s.size := by rw [ByteArray.toList_eq]; simp

set_option maxRecDepth 100000 in
set_option maxHeartbeats 1000000 in
theorem rwrong_range1 (m : Ms) (v : Value) (w : World) (hm : MsAt w v m) (_h1 : (m.st == 0) = false) (h1' : (m.st != 0) = true) (h2 : decide (m.st < 100) = true) :
    Calls Try.prog 14 #[v] w fun e w' => e = .returned (.int .i64 3) ∧ Below w.heap.size w w' := by
  obtain ⟨⟨ao, c, bo, d, rfl, a1, a2, _, _, n3, n4⟩, hp, R⟩ := hm
  clear R a1 a2 n3 n4
  go_enter Try.func14, Try.ntmps14
  go_wp2_with (first | (go_at_call 23; refine (rpath_any _ _ hp).mono ?_; rintro e w' ⟨rfl, nn, rfl⟩))
  all_goals go_ret
  all_goals first | exact ⟨rfl, (Below.refl _ _).alloc (Nat.le_refl _) _⟩ | exact ⟨rfl, belDrewN ((Below.refl _ _).alloc (Nat.le_refl _) _) _⟩

set_option maxRecDepth 100000 in
set_option maxHeartbeats 1000000 in
theorem rwrong_range2 (m : Ms) (v : Value) (w : World) (hm : MsAt w v m) (_h1 : (m.st == 0) = false) (h1' : (m.st != 0) = true) (h2 : decide (m.st < 100) = false) (h3 : decide (599 < m.st) = true) :
    Calls Try.prog 14 #[v] w fun e w' => e = .returned (.int .i64 3) ∧ Below w.heap.size w w' := by
  obtain ⟨⟨ao, c, bo, d, rfl, a1, a2, _, _, n3, n4⟩, hp, R⟩ := hm
  clear R a1 a2 n3 n4
  go_enter Try.func14, Try.ntmps14
  go_wp2_with (first | (go_at_call 23; refine (rpath_any _ _ hp).mono ?_; rintro e w' ⟨rfl, nn, rfl⟩))
  all_goals go_ret
  all_goals first | exact ⟨rfl, (Below.refl _ _).alloc (Nat.le_refl _) _⟩ | exact ⟨rfl, belDrewN ((Below.refl _ _).alloc (Nat.le_refl _) _) _⟩

set_option maxRecDepth 100000 in
set_option maxHeartbeats 1000000 in
theorem rwrong_form1 (m : Ms) (v : Value) (w : World) (hm : MsAt w v m) (h1 : (m.st == 0) = true) (h1' : (m.st != 0) = false) (h2 : pthB m.path = false) :
    Calls Try.prog 14 #[v] w fun e w' => e = .returned (.int .i64 2) ∧ Below w.heap.size w w' := by
  obtain ⟨⟨ao, c, bo, d, rfl, a1, a2, _, _, n3, n4⟩, hp, R⟩ := hm
  clear R a1 a2 n3 n4
  go_enter Try.func14, Try.ntmps14
  go_wp2_with (first | (go_at_call 23; refine (rpath_any _ _ hp).mono ?_; rintro e w' ⟨rfl, nn, rfl⟩))
  all_goals go_ret
  all_goals first | exact ⟨rfl, (Below.refl _ _).alloc (Nat.le_refl _) _⟩ | exact ⟨rfl, belDrewN ((Below.refl _ _).alloc (Nat.le_refl _) _) _⟩

set_option maxRecDepth 100000 in
set_option maxHeartbeats 1000000 in
theorem rwrong_form2 (m : Ms) (v : Value) (w : World) (hm : MsAt w v m) (h1 : (m.st == 0) = false) (h1' : (m.st != 0) = true) (h2 : decide (m.st < 100) = false) (h3 : decide (599 < m.st) = false) (h4 : decide (0 < m.path.size) = true) :
    Calls Try.prog 14 #[v] w fun e w' => e = .returned (.int .i64 2) ∧ Below w.heap.size w w' := by
  obtain ⟨⟨ao, c, bo, d, rfl, a1, a2, _, _, n3, n4⟩, hp, R⟩ := hm
  clear R a1 a2 n3 n4
  go_enter Try.func14, Try.ntmps14
  go_wp2_with (first | (go_at_call 23; refine (rpath_any _ _ hp).mono ?_; rintro e w' ⟨rfl, nn, rfl⟩))
  all_goals go_ret
  all_goals first | exact ⟨rfl, (Below.refl _ _).alloc (Nat.le_refl _) _⟩ | exact ⟨rfl, belDrewN ((Below.refl _ _).alloc (Nat.le_refl _) _) _⟩

set_option maxRecDepth 100000 in
set_option maxHeartbeats 1000000 in
theorem rwrong_many1 (m : Ms) (v : Value) (w : World) (hm : MsAt w v m) (h1 : (m.st == 0) = true) (h1' : (m.st != 0) = false) (h2 : pthB m.path = true) (h6 : 6 < m.heads.length) :
    Calls Try.prog 14 #[v] w fun e w' => e = .returned (.int .i64 5) ∧ Below w.heap.size w w' := by
  obtain ⟨⟨ao, c, bo, d, rfl, a1, a2, _, _, n3, n4⟩, hp, R⟩ := hm
  clear R a1 a2 n3 n4
  have q3 : decide ((6 : Int) < (m.heads.length : Int)) = true := by simp; omega
  go_enter Try.func14, Try.ntmps14
  go_wp2_with (first | (go_at_call 23; refine (rpath_any _ _ hp).mono ?_; rintro e w' ⟨rfl, nn, rfl⟩))
  all_goals go_ret
  all_goals first | exact ⟨rfl, (Below.refl _ _).alloc (Nat.le_refl _) _⟩ | exact ⟨rfl, belDrewN ((Below.refl _ _).alloc (Nat.le_refl _) _) _⟩

set_option maxRecDepth 100000 in
set_option maxHeartbeats 1000000 in
theorem rwrong_many2 (m : Ms) (v : Value) (w : World) (hm : MsAt w v m) (h1 : (m.st == 0) = false) (h1' : (m.st != 0) = true) (h2 : decide (m.st < 100) = false) (h3 : decide (599 < m.st) = false) (h4 : decide (0 < m.path.size) = false) (h6 : 6 < m.heads.length) :
    Calls Try.prog 14 #[v] w fun e w' => e = .returned (.int .i64 5) ∧ Below w.heap.size w w' := by
  obtain ⟨⟨ao, c, bo, d, rfl, a1, a2, _, _, n3, n4⟩, hp, R⟩ := hm
  clear R a1 a2 n3 n4
  have q3 : decide ((6 : Int) < (m.heads.length : Int)) = true := by simp; omega
  go_enter Try.func14, Try.ntmps14
  go_wp2_with (first | (go_at_call 23; refine (rpath_any _ _ hp).mono ?_; rintro e w' ⟨rfl, nn, rfl⟩))
  all_goals go_ret
  all_goals first | exact ⟨rfl, (Below.refl _ _).alloc (Nat.le_refl _) _⟩ | exact ⟨rfl, belDrewN ((Below.refl _ _).alloc (Nat.le_refl _) _) _⟩

set_option maxRecDepth 100000 in
set_option maxHeartbeats 1000000 in
theorem rwrong_much1 (m : Ms) (v : Value) (w : World) (hm : MsAt w v m) (h1 : (m.st == 0) = true) (h1' : (m.st != 0) = false) (h2 : pthB m.path = true) (h6 : m.heads.length ≤ 6) (h7 : 40 < m.body.size) :
    Calls Try.prog 14 #[v] w fun e w' => e = .returned (.int .i64 4) ∧ Below w.heap.size w w' := by
  obtain ⟨⟨ao, c, bo, d, rfl, a1, a2, _, _, n3, n4⟩, hp, R⟩ := hm
  clear R a1 a2 n3 n4
  have q3 : decide ((6 : Int) < (m.heads.length : Int)) = false := by simp; omega
  have q4 : decide ((40 : Int) < (m.body.size : Int)) = true := by simp; omega
  go_enter Try.func14, Try.ntmps14
  go_wp2_with (first | (go_at_call 23; refine (rpath_any _ _ hp).mono ?_; rintro e w' ⟨rfl, nn, rfl⟩))
  all_goals go_ret
  all_goals first | exact ⟨rfl, (Below.refl _ _).alloc (Nat.le_refl _) _⟩ | exact ⟨rfl, belDrewN ((Below.refl _ _).alloc (Nat.le_refl _) _) _⟩

set_option maxRecDepth 100000 in
set_option maxHeartbeats 1000000 in
theorem rwrong_much2 (m : Ms) (v : Value) (w : World) (hm : MsAt w v m) (h1 : (m.st == 0) = false) (h1' : (m.st != 0) = true) (h2 : decide (m.st < 100) = false) (h3 : decide (599 < m.st) = false) (h4 : decide (0 < m.path.size) = false) (h6 : m.heads.length ≤ 6) (h7 : 40 < m.body.size) :
    Calls Try.prog 14 #[v] w fun e w' => e = .returned (.int .i64 4) ∧ Below w.heap.size w w' := by
  obtain ⟨⟨ao, c, bo, d, rfl, a1, a2, _, _, n3, n4⟩, hp, R⟩ := hm
  clear R a1 a2 n3 n4
  have q3 : decide ((6 : Int) < (m.heads.length : Int)) = false := by simp; omega
  have q4 : decide ((40 : Int) < (m.body.size : Int)) = true := by simp; omega
  go_enter Try.func14, Try.ntmps14
  go_wp2_with (first | (go_at_call 23; refine (rpath_any _ _ hp).mono ?_; rintro e w' ⟨rfl, nn, rfl⟩))
  all_goals go_ret
  all_goals first | exact ⟨rfl, (Below.refl _ _).alloc (Nat.le_refl _) _⟩ | exact ⟨rfl, belDrewN ((Below.refl _ _).alloc (Nat.le_refl _) _) _⟩

theorem rwrong_any (m : Ms) (v : Value) (w : World) (hm : MsAt w v m) :
    Calls Try.prog 14 #[v] w fun e w' => e = .returned (.int .i64 (wrongE m)) ∧ Below w.heap.size w w' := by
  by_cases h0 : m.st = 0
  · have h0' : (m.st == 0) = true := by simp [h0]
    have h0n : (m.st != 0) = false := by simp [h0]
    cases hp : pthB m.path with
    | false =>
      have e : wrongE m = 2 := by simp [wrongE, h0, hp]
      rw [e]; exact rwrong_form1 m v w hm h0' h0n hp
    | true =>
      by_cases h6 : 6 < m.heads.length
      · have e : wrongE m = 5 := by simp [wrongE, h0, hp, h6]
        rw [e]; exact rwrong_many1 m v w hm h0' h0n hp h6
      · by_cases h40 : 40 < m.body.size
        · have e : wrongE m = 4 := by simp [wrongE, h0, hp, h6, h40]
          rw [e]; exact rwrong_much1 m v w hm h0' h0n hp (by omega) h40
        · have e : wrongE m = if okHs m.heads then 0 else 7 := by simp [wrongE, h0, hp, h6, h40]
          rw [e]; exact rwrong_heads m v w hm (.inl ⟨h0', h0n, hp⟩) (by omega) (by omega)
  · have h0' : (m.st == 0) = false := by simp [h0]
    have h0n : (m.st != 0) = true := by simp [h0]
    by_cases h100 : m.st < 100
    · have e : wrongE m = 3 := by simp [wrongE, h0, h100]
      rw [e]; exact rwrong_range1 m v w hm h0' h0n (by simp [h100])
    · have q100 : decide (m.st < 100) = false := by simp; omega
      by_cases h599 : 599 < m.st
      · have e : wrongE m = 3 := by simp [wrongE, h0, h599]
        rw [e]; exact rwrong_range2 m v w hm h0' h0n q100 (by simp [h599])
      · have q599 : decide (599 < m.st) = false := by simp; omega
        by_cases hp : m.path.toList = []
        · have hpn : decide (0 < m.path.size) = false := decide_eq_false (by have := length_toList m.path; rw [hp, List.length_nil] at this; omega)
          by_cases h6 : 6 < m.heads.length
          · have e : wrongE m = 5 := by simp [wrongE, h0, h100, h599, hp, h6]
            rw [e]; exact rwrong_many2 m v w hm h0' h0n q100 q599 hpn h6
          · by_cases h40 : 40 < m.body.size
            · have e : wrongE m = 4 := by simp [wrongE, h0, h100, h599, hp, h6, h40]
              rw [e]; exact rwrong_much2 m v w hm h0' h0n q100 q599 hpn (by omega) h40
            · have e : wrongE m = if okHs m.heads then 0 else 7 := by simp [wrongE, h0, h100, h599, hp, h6, h40]
              rw [e]; exact rwrong_heads m v w hm (.inr ⟨h0', h0n, q100, q599, hpn⟩) (by omega) (by omega)
        · have e : wrongE m = 2 := by simp [wrongE, h0, h100, h599, hp]
          rw [e]; exact rwrong_form2 m v w hm h0' h0n q100 q599 (by have := length_toList m.path; have h5 : m.path.toList.length ≠ 0 := fun e => hp (List.length_eq_zero_iff.1 e); simp; omega)
end Go.Proofs.Ytmndhecbjpjamaa
