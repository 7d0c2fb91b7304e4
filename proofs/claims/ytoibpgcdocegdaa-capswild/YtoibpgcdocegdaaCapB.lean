/- Package caps: bits of calls, Can, limits; what is wrong with an up and a bad. -/
import Derived.Test.YtoibpgcdocegdaaCapA
import Derived.Laws.BitsLemmas
namespace Go.Proofs.Ytoibpgcdocegdaa
open Go.RowKit

theorem and7 (n : Int) : 0 ≤ bits .and .i64 n 7 ∧ bits .and .i64 n 7 ≤ 7 := by
  have h : bits .and .i64 n 7 = IntKind.i64.wrap (((BitVec.ofInt 64 n &&& BitVec.ofInt 64 7).toNat : Nat) : Int) := rfl
  have h7 : (BitVec.ofInt 64 7).toNat = 7 := by decide
  have h2 : (BitVec.ofInt 64 n &&& BitVec.ofInt 64 7).toNat ≤ 7 := by
    rw [BitVec.toNat_and, h7]
    exact Nat.and_le_right
  rw [h, IntKind.wrap_i64]
  omega

theorem canI_bd (k n : Int) : 0 ≤ canI k n ∧ canI k n ≤ 7 := by
  have := and7 n
  unfold canI
  repeat' split
  all_goals omega

def bitI (call : Int) : Int := if call = 1 then 1 else if call = 2 then 2 else if call = 3 then 4 else 0
theorem call_cases (c : Int) : c = 1 ∨ c = 2 ∨ c = 3 ∨ (c ≠ 1 ∧ c ≠ 2 ∧ c ≠ 3) := by omega

theorem bit_any (call : Int) (w : World) : Calls Try.prog 21 #[.int .i64 call] w fun e w' => e = .returned (.int .i64 (bitI call)) ∧ w' = w := by
  rcases call_cases call with rfl | rfl | rfl | ⟨h1, h2, h3⟩
  · go_enter Try.func21, Try.ntmps21
    go_wp2
    go_ret
    exact ⟨rfl, rfl⟩
  · go_enter Try.func21, Try.ntmps21
    go_wp2
    go_ret
    exact ⟨rfl, rfl⟩
  · go_enter Try.func21, Try.ntmps21
    go_wp2
    go_ret
    exact ⟨rfl, rfl⟩
  · have e : bitI call = 0 := by simp [bitI, h1, h2, h3]
    have q1 : (call == 1) = false := by simpa using h1
    have q2 : (call == 2) = false := by simpa using h2
    have q3 : (call == 3) = false := by simpa using h3
    rw [e]
    clear e h1 h2 h3
    go_enter Try.func21, Try.ntmps21
    go_wp2
    go_ret
    exact ⟨rfl, rfl⟩

/-- Can a filter that call? -/
def canB (k n call : Int) : Bool := bits .and .i64 (canI k n) (bitI call) != 0

set_option maxHeartbeats 1000000 in
theorem can_any (k n : Int) (key text : ByteArray) (call : Int) (w : World) :
    Calls Try.prog 9 #[.agg #[.int .i64 k, .int .i64 n, .string key, .string text], .int .i64 call] w fun e w' => e = .returned (.bool (canB k n call)) ∧ Below w.heap.size w w' := by
  unfold canB
  go_enter Try.func9, Try.ntmps9
  go_wp2_with fail
  refine (capsOf_any k n key text _ (and7 n)).mono ?_
  rintro e w0 ⟨rfl, b0⟩
  have B0 : Hid (Below w.heap.size w w0) := ((Below.refl _ _).alloc (Nat.le_refl _) _).trans (b0.mono (by simp))
  clear b0
  go_wp2_with fail
  refine (bit_any call _).mono ?_
  rintro e w1 ⟨rfl, rfl⟩
  go_wp2
  go_ret
  exact ⟨rfl, B0.out⟩

def countB (n : Int) : Bool := decide (0 ≤ n) && decide (n ≤ 4)
theorem count_any (n : Int) (w : World) : Calls Try.prog 22 #[.int .i64 n] w fun e w' => e = .returned (.bool (countB n)) ∧ w' = w := by
  cases h1 : decide (0 ≤ n) with
  | true =>
    go_enter Try.func22, Try.ntmps22
    go_wp2
    go_ret
    exact ⟨ret_bool (by unfold countB; rw [h1]; rfl), rfl⟩
  | false =>
    go_enter Try.func22, Try.ntmps22
    go_wp2
    go_ret
    exact ⟨ret_bool (by unfold countB; rw [h1]; rfl), rfl⟩

/-- An up, a bad, a filter: as data. -/
structure Up where
  path : ByteArray
  st : Int
  text : ByteArray
  fails : Int
structure Bd where
  id : Int
  fi : Int
  call : Int
  act : Int
  text : ByteArray
structure Sv where
  k : Int
  n : Int
  key : ByteArray
  text : ByteArray
def upL (u : Up) : List Value := [.string u.path, .int .i64 u.st, .string u.text, .int .i64 u.fails]
def bdL (b : Bd) : List Value := [.int .i64 b.id, .int .i64 b.fi, .int .i64 b.call, .int .i64 b.act, .string b.text]
def svL (s : Sv) : List Value := [.int .i64 s.k, .int .i64 s.n, .string s.key, .string s.text]

def upE (u : Up) : Int := if decide (u.st < 100) || (decide (599 < u.st) || (!countB u.fails || (decide ((40 : Int) < (u.text.size : Int)) || decide ((24 : Int) < (u.path.size : Int))))) then 3 else 0
def bdE (b : Bd) : Int := if decide (b.call < 1) || (decide (4 < b.call) || (decide (b.act < 0) || decide (6 < b.act))) then 1 else if decide ((20 : Int) < (b.text.size : Int)) then 4 else 0
def svE (s : Sv) : Int := sieveE s.k s.n s.key s.text

set_option maxHeartbeats 1000000 in
theorem wrongUp_any (u : Up) (w : World) (_h1 : u.text.size ≤ maxLen) (_h2 : u.path.size ≤ maxLen) :
    Calls Try.prog 16 #[.agg #[.string u.path, .int .i64 u.st, .string u.text, .int .i64 u.fails]] w fun e w' => e = .returned (.int .i64 (upE u)) ∧ Below w.heap.size w w' := by
  have hbw : ∀ o : Obj, Below w.heap.size w (w.alloc o) := fun o => (Below.refl _ _).alloc (Nat.le_refl _) o
  unfold maxLen at _h1 _h2
  cases c1 : decide (u.st < 100) with
  | true =>
    have e : upE u = 3 := by unfold upE; rw [c1]; rfl
    rw [e]; clear e
    go_enter Try.func16, Try.ntmps16
    go_wp2
    go_ret
    exact ⟨rfl, hbw _⟩
  | false =>
    cases c2 : decide (599 < u.st) with
    | true =>
      have e : upE u = 3 := by unfold upE; rw [c1, c2]; rfl
      rw [e]; clear e
      go_enter Try.func16, Try.ntmps16
      go_wp2
      go_ret
      exact ⟨rfl, hbw _⟩
    | false =>
      have HC := count_any u.fails
      cases c3 : countB u.fails with
      | false =>
        have e : upE u = 3 := by unfold upE; rw [c1, c2, c3]; rfl
        rw [e]; clear e
        rw [c3] at HC
        go_enter Try.func16, Try.ntmps16
        go_wp2_with (go_at_call 22; refine (HC _).mono ?_; rintro e w1 ⟨rfl, rfl⟩)
        go_ret
        exact ⟨rfl, hbw _⟩
      | true =>
        rw [c3] at HC
        cases c4 : decide ((40 : Int) < (u.text.size : Int)) with
        | true =>
          have e : upE u = 3 := by unfold upE; rw [c1, c2, c3, c4]; rfl
          rw [e]; clear e
          go_enter Try.func16, Try.ntmps16
          go_wp2_with (go_at_call 22; refine (HC _).mono ?_; rintro e w1 ⟨rfl, rfl⟩)
          go_ret
          exact ⟨rfl, hbw _⟩
        | false =>
          cases c5 : decide ((24 : Int) < (u.path.size : Int)) with
          | true =>
            have e : upE u = 3 := by unfold upE; rw [c1, c2, c3, c4, c5]; rfl
            rw [e]; clear e
            go_enter Try.func16, Try.ntmps16
            go_wp2_with (go_at_call 22; refine (HC _).mono ?_; rintro e w1 ⟨rfl, rfl⟩)
            go_ret
            exact ⟨rfl, hbw _⟩
          | false =>
            have e : upE u = 0 := by unfold upE; rw [c1, c2, c3, c4, c5]; rfl
            rw [e]; clear e
            go_enter Try.func16, Try.ntmps16
            go_wp2_with (go_at_call 22; refine (HC _).mono ?_; rintro e w1 ⟨rfl, rfl⟩)
            go_ret
            exact ⟨rfl, hbw _⟩

set_option maxHeartbeats 1000000 in
theorem wrongBad_any (b : Bd) (w : World) (_h1 : b.text.size ≤ maxLen) :
    Calls Try.prog 18 #[.agg #[.int .i64 b.id, .int .i64 b.fi, .int .i64 b.call, .int .i64 b.act, .string b.text]] w fun e w' => e = .returned (.int .i64 (bdE b)) ∧ Below w.heap.size w w' := by
  have hbw : ∀ o : Obj, Below w.heap.size w (w.alloc o) := fun o => (Below.refl _ _).alloc (Nat.le_refl _) o
  unfold maxLen at _h1
  cases c1 : decide (b.call < 1) with
  | true =>
    have e : bdE b = 1 := by unfold bdE; rw [c1]; rfl
    rw [e]; clear e
    go_enter Try.func18, Try.ntmps18
    go_wp2
    go_ret
    exact ⟨rfl, hbw _⟩
  | false =>
    cases c2 : decide (4 < b.call) with
    | true =>
      have e : bdE b = 1 := by unfold bdE; rw [c1, c2]; rfl
      rw [e]; clear e
      go_enter Try.func18, Try.ntmps18
      go_wp2
      go_ret
      exact ⟨rfl, hbw _⟩
    | false =>
      cases c3 : decide (b.act < 0) with
      | true =>
        have e : bdE b = 1 := by unfold bdE; rw [c1, c2, c3]; rfl
        rw [e]; clear e
        go_enter Try.func18, Try.ntmps18
        go_wp2
        go_ret
        exact ⟨rfl, hbw _⟩
      | false =>
        cases c4 : decide (6 < b.act) with
        | true =>
          have e : bdE b = 1 := by unfold bdE; rw [c1, c2, c3, c4]; rfl
          rw [e]; clear e
          go_enter Try.func18, Try.ntmps18
          go_wp2
          go_ret
          exact ⟨rfl, hbw _⟩
        | false =>
          cases c5 : decide ((20 : Int) < (b.text.size : Int)) with
          | true =>
            have e : bdE b = 4 := by unfold bdE; rw [c1, c2, c3, c4, c5]; rfl
            rw [e]; clear e
            go_enter Try.func18, Try.ntmps18
            go_wp2
            go_ret
            exact ⟨rfl, hbw _⟩
          | false =>
            have e : bdE b = 0 := by unfold bdE; rw [c1, c2, c3, c4, c5]; rfl
            rw [e]; clear e
            go_enter Try.func18, Try.ntmps18
            go_wp2
            go_ret
            exact ⟨rfl, hbw _⟩
end Go.Proofs.Ytoibpgcdocegdaa
