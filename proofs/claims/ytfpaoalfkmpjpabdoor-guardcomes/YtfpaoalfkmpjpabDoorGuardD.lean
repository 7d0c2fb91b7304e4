/- Walks of package guard's act, place, broken and caught, and of the document's own Called. -/
import Derived.Test.YtfpaoalfkmpjpabDoorGuardC
import Derived.WalkLawsBesides
namespace Go.Proofs.YtfpaoalfkmpjpabDoor
open Go.RowKit

/-- What came of a call, as it lies in six cells. -/
def outV (d k fi ca inn : Int) (t : ByteArray) : Value := .agg #[.int .i64 d, .int .i64 k, .int .i64 fi, .int .i64 ca, .string t, .int .i64 inn]
/-- What comes of a call that does so. -/
def calledV (fi ca d : Int) (t : ByteArray) : Value :=
  if d = 0 ∨ d = 1 ∨ d = 6 then outV d 0 0 0 0 ⟨#[]⟩ else if d = 2 then outV 0 1 fi ca 0 t else if d = 3 then outV 0 2 fi ca 0 t
  else if d = 4 then outV 0 2 fi ca 1 t else if d = 5 then outV 0 3 fi ca 0 ⟨#[]⟩ else outV 0 1 (-1) 0 0 ⟨#[]⟩
theorem do_cases (n : Int) : n = 0 ∨ n = 1 ∨ n = 6 ∨ n = 2 ∨ n = 3 ∨ n = 4 ∨ n = 5 ∨ (n ≠ 0 ∧ n ≠ 1 ∧ n ≠ 6 ∧ n ≠ 2 ∧ n ≠ 3 ∧ n ≠ 4 ∧ n ≠ 5) := by omega
theorem neq_b {n k : Int} (h : n ≠ k) : (n == k) = false := by simp [h]

theorem new_any (n : Int) (w : World) : Calls Tryd.prog 15 #[.int .i64 n] w fun e w' => e = .returned (fltV n (-1) 0 0 ⟨#[]⟩) ∧ Below w.heap.size w w' := by
  go_enter Tryd.func15, Tryd.ntmps15
  go_wp2
  refine bodyPost_ret (v := fltV n (-1) 0 0 ⟨#[]⟩) (by simp [results, Tryd.results15, go_sem, fltV]) rfl ⟨rfl, ?_⟩
  exact (Below.refl _ _).alloc (Nat.le_refl _) _

theorem act_goes (d : Int) (t : ByteArray) (w : World) (h : d = 0 ∨ d = 1 ∨ d = 6) : Calls Tryd.prog 11 #[.int .i64 d, .string t] w fun e w' => e = .returned .nilIface ∧ w' = w := by
  rcases h with rfl | rfl | rfl
  all_goals
    go_enter Tryd.func11, Tryd.ntmps11
    go_wp2
    go_ret
    exact ⟨rfl, rfl⟩

theorem act_fail (t : ByteArray) (w : World) : Calls Tryd.prog 11 #[.int .i64 2, .string t] w fun e w' => e = .returned (.iface 56 (.pointer (some ⟨w.heap.size, 0, none⟩))) ∧ w' = w.alloc (.cells #[.string t] 58) := by
  go_enter Tryd.func11, Tryd.ntmps11
  go_wp2
  go_ret
  exact ⟨rfl, rfl⟩

theorem act_panic (t : ByteArray) (w : World) : Calls Tryd.prog 11 #[.int .i64 3, .string t] w fun e w' => e = .panicked [{ v := .iface 9 (.string t), recovered := false }] ∧ w' = w := by
  go_enter Tryd.func11, Tryd.ntmps11
  go_wp2
  exact ⟨rfl, rfl, rfl⟩

theorem act_wrap (t : ByteArray) (w : World) : Calls Tryd.prog 11 #[.int .i64 4, .string t] w fun e w' => e = .panicked [{ v := .iface 35 (fltV 1 (-1) 0 0 t), recovered := false }] ∧ Below w.heap.size w w' := by
  unfold fltV
  go_enter Tryd.func11, Tryd.ntmps11
  go_wp2_with fail
  refine (new_any 1 _).mono ?_
  rintro e w1 ⟨rfl, hb⟩
  unfold fltV
  go_wp2
  refine ⟨rfl, rfl, ?_⟩
  exact hb.alloc hb.size _

theorem act_fatal (t : ByteArray) (w : World) : Calls Tryd.prog 11 #[.int .i64 5, .string t] w fun e w' => e = .panicked [{ v := .iface 42 (.int .i64 3), recovered := false }] ∧ w' = w := by
  go_enter Tryd.func11, Tryd.ntmps11
  go_wp2
  exact ⟨rfl, rfl, rfl⟩

theorem act_other (d : Int) (t : ByteArray) (w : World) (h : d ≠ 0 ∧ d ≠ 1 ∧ d ≠ 6 ∧ d ≠ 2 ∧ d ≠ 3 ∧ d ≠ 4 ∧ d ≠ 5) : Calls Tryd.prog 11 #[.int .i64 d, .string t] w fun e w' => e = .returned (.iface 35 (fltV 1 (-1) 0 0 ⟨#[]⟩)) ∧ Below w.heap.size w w' := by
  unfold fltV
  obtain ⟨h0, h1, h6, h2, h3, h4, h5⟩ := h
  have g0 := neq_b h0
  have g1 := neq_b h1
  have g2 := neq_b h2
  have g3 := neq_b h3
  have g4 := neq_b h4
  have g5 := neq_b h5
  have g6 := neq_b h6
  go_enter Tryd.func11, Tryd.ntmps11
  go_wp2_with fail
  refine (new_any 1 _).mono ?_
  rintro e w1 ⟨rfl, hb⟩
  unfold fltV
  go_wp2
  go_ret
  exact ⟨rfl, hb⟩

theorem place_any (k fi0 ca0 inn fi ca : Int) (t : ByteArray) (w : World) : Calls Tryd.prog 9 #[fltV k fi0 ca0 inn t, .int .i64 fi, .int .i64 ca] w fun e w' => e = .returned (fltV k fi ca inn t) ∧ Below w.heap.size w w' := by
  unfold fltV
  go_enter Tryd.func9, Tryd.ntmps9
  go_wp2
  refine bodyPost_ret (v := .agg #[.int .i64 k, .int .i64 fi, .int .i64 ca, .string t, .int .i64 inn]) (by simp [results, Tryd.results9, go_sem]) rfl ⟨rfl, ?_⟩
  exact ((Below.refl _ _).alloc (Nat.le_refl _) _).alloc (by simp) _

set_option maxHeartbeats 1000000 in
/-- The document's own answer. -/
theorem called_any (fi ca d : Int) (t : ByteArray) (w : World) : Calls Tryd.prog 6 #[.int .i64 fi, .int .i64 ca, .int .i64 d, .string t] w fun e w' => e = .returned (calledV fi ca d t) ∧ Below w.heap.size w w' := by
  have hbw : ∀ o o', Below w.heap.size w ((w.alloc o).alloc o') := fun o o' => ((Below.refl _ _).alloc (Nat.le_refl _) o).alloc (by simp) o'
  rcases do_cases d with rfl | rfl | rfl | rfl | rfl | rfl | rfl | ⟨h0, h1, h6, h2, h3, h4, h5⟩
  case inr.inr.inr.inr.inr.inr.inr =>
    have e : calledV fi ca d t = outV 0 1 (-1) 0 0 ⟨#[]⟩ := by simp [calledV, h0, h1, h2, h3, h4, h5, h6]
    have HE : Hid (calledV fi ca d t = outV 0 1 (-1) 0 0 ⟨#[]⟩) := e
    clear e
    have g0 := neq_b h0
    have g1 := neq_b h1
    have g2 := neq_b h2
    have g3 := neq_b h3
    have g4 := neq_b h4
    have g5 := neq_b h5
    have g6 := neq_b h6
    go_enter Tryd.func6, Tryd.ntmps6
    go_wp2
    refine bodyPost_ret (v := outV 0 1 (-1) 0 0 ⟨#[]⟩) (by simp [results, Tryd.results6, go_sem, outV]) rfl ⟨by rw [HE.out], hbw _ _⟩
  all_goals
    go_enter Tryd.func6, Tryd.ntmps6
    go_wp2
    refine bodyPost_ret (v := calledV fi ca _ t) (by simp [results, Tryd.results6, go_sem, outV, calledV]) rfl ⟨rfl, hbw _ _⟩
end Go.Proofs.YtfpaoalfkmpjpabDoor
