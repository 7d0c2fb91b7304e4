/- Walks of package fault and of the document's own answer: a kind's name and status, Is and New. -/
import Derived.Test.YtlkfkhpokkjkpaaDoorFaultA
import Derived.Maps.Own
import Derived.Maps.OwnOps
import Derived.Maps.OwnSet
import Derived.Maps.StringElems
import Derived.Maps.Views
namespace Go.Proofs.YtlkfkhpokkjkpaaDoor
open Go.RowKit Go.Maps

def kindS (n : Int) : ByteArray :=
  if n = 1 then ⟨#[102, 97, 105, 108]⟩ else if n = 2 then ⟨#[112, 97, 110, 105, 99]⟩ else if n = 3 then ⟨#[102, 97, 116, 97, 108]⟩ else if n = 4 then ⟨#[117, 112, 115, 116, 114, 101, 97, 109]⟩
  else if n = 5 then ⟨#[111, 118, 101, 114, 108, 111, 97, 100]⟩ else if n = 6 then ⟨#[110, 111, 32, 117, 112, 115, 116, 114, 101, 97, 109]⟩ else if n = 7 then ⟨#[114, 101, 108, 101, 97, 115, 101]⟩ else ⟨#[63]⟩
def statusI (n : Int) : Int := if n = 1 then 400 else if n = 4 then 502 else if n = 5 then 503 else if n = 6 then 504 else 500

theorem kind_cases (n : Int) : n = 1 ∨ n = 2 ∨ n = 3 ∨ n = 4 ∨ n = 5 ∨ n = 6 ∨ n = 7 ∨ (n ≠ 1 ∧ n ≠ 2 ∧ n ≠ 3 ∧ n ≠ 4 ∧ n ≠ 5 ∧ n ≠ 6 ∧ n ≠ 7) := by omega
theorem neq_b {n k : Int} (h : n ≠ k) : (n == k) = false := by simp [h]

theorem kindName_any (n : Int) (w : World) : Calls Tryd.prog 54 #[.int .i64 n] w fun e w' => e = .returned (.string (kindS n)) ∧ w' = w := by
  rcases kind_cases n with rfl | rfl | rfl | rfl | rfl | rfl | rfl | ⟨h1, h2, h3, h4, h5, h6, h7⟩
  case inr.inr.inr.inr.inr.inr.inr =>
    have e : kindS n = ⟨#[63]⟩ := by simp [kindS, h1, h2, h3, h4, h5, h6, h7]
    have HE : Hid (kindS n = ⟨#[63]⟩) := e
    clear e
    have g1 := neq_b h1
    have g2 := neq_b h2
    have g3 := neq_b h3
    have g4 := neq_b h4
    have g5 := neq_b h5
    have g6 := neq_b h6
    have g7 := neq_b h7
    go_enter Tryd.func54, Tryd.ntmps54
    go_wp2
    go_ret
    exact ⟨by rw [HE.out]; rfl, rfl⟩
  all_goals
    go_enter Tryd.func54, Tryd.ntmps54
    go_wp2
    go_ret
    exact ⟨rfl, rfl⟩

theorem status_any (k fi ca inn : Int) (t : ByteArray) (w : World) : Calls Tryd.prog 33 #[fltV k fi ca inn t] w fun e w' => e = .returned (.int .i64 (statusI k)) ∧ Below w.heap.size w w' := by
  unfold fltV
  rcases kind_cases k with rfl | rfl | rfl | rfl | rfl | rfl | rfl | ⟨h1, h2, h3, h4, h5, h6, h7⟩
  case inr.inr.inr.inr.inr.inr.inr =>
    have e : statusI k = 500 := by simp [statusI, h1, h4, h5, h6]
    have HE : Hid (statusI k = 500) := e
    clear e
    have g1 := neq_b h1
    have g4 := neq_b h4
    have g5 := neq_b h5
    have g6 := neq_b h6
    go_enter Tryd.func33, Tryd.ntmps33
    go_wp2
    go_ret
    exact ⟨by rw [HE.out]; rfl, (Below.refl _ _).alloc (Nat.le_refl _) _⟩
  all_goals
    go_enter Tryd.func33, Tryd.ntmps33
    go_wp2
    go_ret
    exact ⟨rfl, (Below.refl _ _).alloc (Nat.le_refl _) _⟩

theorem new_any (n : Int) (w : World) : Calls Tryd.prog 32 #[.int .i64 n] w fun e w' => e = .returned (fltV n (-1) 0 0 ⟨#[]⟩) ∧ Below w.heap.size w w' := by
  go_enter Tryd.func32, Tryd.ntmps32
  go_wp2
  refine bodyPost_ret (v := fltV n (-1) 0 0 ⟨#[]⟩) (by simp [results, Tryd.results32, go_sem, fltV]) rfl ⟨rfl, ?_⟩
  exact (Below.refl _ _).alloc (Nat.le_refl _) _

theorem ris_any (k fi ca inn a : Int) (t : ByteArray) (w : World) : Calls Tryd.prog 29 #[fltV k fi ca inn t, .int .i64 a] w fun e w' => e = .returned (.bool (isB k inn a)) ∧ Below w.heap.size w w' := by
  unfold fltV
  cases h1 : (k == a) with
  | true =>
    have e : isB k inn a = true := by simp at h1; simp [isB, h1]
    have HE : Hid (isB k inn a = true) := e
    clear e
    go_enter Tryd.func29, Tryd.ntmps29
    go_wp2
    go_ret
    exact ⟨by rw [HE.out]; rfl, (Below.refl _ _).alloc (Nat.le_refl _) _⟩
  | false =>
    cases h2 : (inn != 0) with
    | false =>
      have e : isB k inn a = false := by simp at h1 h2; simp [isB, h1, h2]
      have HE : Hid (isB k inn a = false) := e
      clear e
      go_enter Tryd.func29, Tryd.ntmps29
      go_wp2
      go_ret
      exact ⟨by rw [HE.out]; rfl, (Below.refl _ _).alloc (Nat.le_refl _) _⟩
    | true =>
      cases h3 : (inn == a) with
      | false =>
        have e : isB k inn a = false := by simp at h1 h2 h3; simp [isB, h1, h3]
        have HE : Hid (isB k inn a = false) := e
        clear e
        go_enter Tryd.func29, Tryd.ntmps29
        go_wp2
        go_ret
        exact ⟨by rw [HE.out]; rfl, (Below.refl _ _).alloc (Nat.le_refl _) _⟩
      | true =>
        have e : isB k inn a = true := by simp at h2 h3; subst h3; simp [isB, h2]
        have HE : Hid (isB k inn a = true) := e
        clear e
        go_enter Tryd.func29, Tryd.ntmps29
        go_wp2
        go_ret
        exact ⟨by rw [HE.out]; rfl, (Below.refl _ _).alloc (Nat.le_refl _) _⟩
end Go.Proofs.YtlkfkhpokkjkpaaDoor
