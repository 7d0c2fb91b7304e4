/- Package flat: what By answers tells the table's entries. -/
import Derived.Test.YtbpmcabeghbalaaFlD
namespace Go.Proofs.Ytbpmcabeghbalaa
open Go.RowKit

set_option maxRecDepth 100000 in
set_option maxHeartbeats 1000000 in
theorem told_any (l : List Sv) (X f k : Nat) (G : Nat → Prop) (w : World) (h : ByAt X G w l) (hf : f < l.length) (hk : k < 3) (h6 : l.length ≤ 6) :
    Calls Try.prog 12 #[.int .i64 f, .int .i64 ((k : Int) + 1), .pointer (some ⟨X, 0, none⟩)] w fun e w' => e = .returned (.bool (canB l[f].k l[f].n ((k : Int) + 1))) ∧ w' = w := by
  obtain ⟨ao, cc, h1, h2, -⟩ := h.c k hk
  obtain ⟨b, off, rfl, -, h3⟩ := h2.lies f (by rw [rowL_len]; exact hf)
  have h4 : w.cell? ⟨b, off + f, none⟩ = some (.bool (canB l[f].k l[f].n ((k : Int) + 1))) := by
    have := h3 0 (.bool (canB l[f].k l[f].n ((k : Int) + 1))) (by simp [bL, rowL])
    simpa using this
  clear h2 h3
  generalize canB l[f].k l[f].n ((k : Int) + 1) = B at h4
  have q1 : (0 : Int) ≤ (f : Int) := by omega
  have q2 : (f : Int) < (l.length : Int) := by omega
  have q3 : decide ((0 : Int) ≤ (f : Int)) = true := by simp
  have q4 : decide ((f : Int) < (l.length : Int)) = true := by simp; exact hf
  have q5 : (f : Int) ≤ 6 := by omega
  rcases (by omega : k = 0 ∨ k = 1 ∨ k = 2) with rfl | rfl | rfl
  all_goals
    go_enter Try.func12, Try.ntmps12
    go_wp2
    go_ret
    exact ⟨rfl, rfl⟩
end Go.Proofs.Ytbpmcabeghbalaa
