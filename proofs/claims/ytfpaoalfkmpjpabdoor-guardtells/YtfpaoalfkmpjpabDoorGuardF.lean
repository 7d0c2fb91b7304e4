/- The deferred call of package guard's Call: nothing to catch; something caught. -/
import Derived.Test.YtfpaoalfkmpjpabDoorGuardE
import Derived.Defers
import Derived.Recover
import Derived.Deep.RegionWith
import Derived.Deep.DeepMust
namespace Go.Proofs.YtfpaoalfkmpjpabDoor
open Go.RowKit

theorem catch_idle (p q r : Addr) (w : World) :
    CallsD Tryd.prog 8 #[.pointer (some p), .pointer (some q), .pointer (some r)] .returning w fun e u' w' => e = .returned (.tuple #[]) ∧ u' = .returning ∧ w' = w := by
  refine callsD_of_wpS Tryd.func8 rfl fun c₀ cs hu => ?_
  apply wpS_seq
  apply wpS_region
  simp [wpOpsS, go_sem, recoverD, hu, Tryd.ntmps8, Exit.thenS]
  apply wpS_seq
  apply wpS_region
  simp [wpOpsS, go_sem, Exit.thenS]
  refine wpS_cond (t := false) (by simp [Act.eval, Array.replicate]) ?_
  simp only [Bool.false_eq_true, if_false]
  refine wpS_of_wp (wp_skip ?_)
  cases c₀
  simp_all [bodyPostS, results, Tryd.results8]

/-- What the deferred call leaves in the result's six cells. -/
structure OutAt (w : World) (b : Nat) (d k fi ca inn : Int) (s : ByteArray) : Prop where
  c0 : w.cell? ⟨b, 0, none⟩ = some (.int .i64 d)
  c1 : w.cell? ⟨b, 1, none⟩ = some (.int .i64 k)
  c2 : w.cell? ⟨b, 2, none⟩ = some (.int .i64 fi)
  c3 : w.cell? ⟨b, 3, none⟩ = some (.int .i64 ca)
  c4 : w.cell? ⟨b, 4, none⟩ = some (.string s)
  c5 : w.cell? ⟨b, 5, none⟩ = some (.int .i64 inn)

set_option maxHeartbeats 1000000 in
theorem catch_any (u : TypeId) (pv : Value) (k fi ca inn : Int) (s : ByteArray) (fb cb ob : Nat) (older : List PanicEntry) (w : World)
    (hcau : ∀ W, Glob W → Calls Tryd.prog 10 #[.iface u pv] W fun e w' => e = .returned (fltV k 0 0 inn s) ∧ Below W.heap.size W w') (hg : Glob w)
    (hp : w.cell? ⟨fb, 0, none⟩ = some (.int .i64 fi)) (hq : w.cell? ⟨cb, 0, none⟩ = some (.int .i64 ca)) (ho : OutAt w ob 0 0 0 0 0 ⟨#[]⟩) (hf : ∀ j, w.frozen? ⟨ob, j, none⟩ = false) :
    CallsD Tryd.prog 8 #[.pointer (some ⟨fb, 0, none⟩), .pointer (some ⟨cb, 0, none⟩), .pointer (some ⟨ob, 0, none⟩)] (.panicking ({ v := .iface u pv, recovered := false } :: older)) w fun e u' w' =>
      e = .returned (.tuple #[]) ∧ u' = .panicking ({ v := .iface u pv, recovered := true } :: older) ∧ OutAt w' ob 0 k fi ca inn s ∧ ∀ B, B ≤ ob → Below B w w' := by
  have lf : fb < w.heap.size := lt_of_cell hp
  have lc : cb < w.heap.size := lt_of_cell hq
  have lo : ob < w.heap.size := lt_of_cell ho.c0
  have HG : Hid (Glob w) := hg
  have HO : Hid (OutAt w ob 0 0 0 0 0 ⟨#[]⟩) := ho
  have HC : Hid (∀ W, Glob W → Calls Tryd.prog 10 #[.iface u pv] W fun e w' => e = .returned (fltV k 0 0 inn s) ∧ Below W.heap.size W w') := hcau
  clear hg ho hcau
  refine callsD_of_wpS Tryd.func8 rfl fun c₀ cs hu => ?_
  apply wpS_seq
  apply wpS_region
  simp [wpOpsS, go_sem, recoverD, hu, Tryd.ntmps8, Exit.thenS]
  apply wpS_seq
  apply wpS_region
  simp [wpOpsS, go_sem, Exit.thenS]
  refine wpS_cond (t := true) (by simp [Act.eval, Array.replicate]) ?_
  simp only [if_true]
  refine wpS_of_wp ?_
  refine (show Code.wp _ _ _ { tmps := #[.pointer (some ⟨fb, 0, none⟩), .pointer (some ⟨cb, 0, none⟩), .pointer (some ⟨ob, 0, none⟩), .iface u pv, .iface u pv, .iface u pv, .bool true, undef, undef, undef, undef, undef, undef], defers := [] } w from ?_)
  go_region_with (first
    | (go_at_call 10; refine (HC.out _ ?_).mono ?_; exact HG.out; rintro e w1 ⟨rfl, b1⟩; have hp1 := (b1.cell (p := ⟨fb, 0, none⟩) lf).trans hp; have hq1 := (b1.cell (p := ⟨cb, 0, none⟩) lc).trans hq; have lo1 : ob < w1.heap.size := Nat.lt_of_lt_of_le lo b1.size)
    | (go_at_call 9; refine (place_any _ _ _ _ _ _ _ _).mono ?_; rintro e w2 ⟨rfl, b2⟩; unfold fltV; have y0 := (b2.cell (p := ⟨ob, 0, none⟩) lo1).trans ((b1.cell (p := ⟨ob, 0, none⟩) lo).trans HO.out.c0); have y1 := (b2.cell (p := ⟨ob, 1, none⟩) lo1).trans ((b1.cell (p := ⟨ob, 1, none⟩) lo).trans HO.out.c1); have y2 := (b2.cell (p := ⟨ob, 2, none⟩) lo1).trans ((b1.cell (p := ⟨ob, 2, none⟩) lo).trans HO.out.c2); have y3 := (b2.cell (p := ⟨ob, 3, none⟩) lo1).trans ((b1.cell (p := ⟨ob, 3, none⟩) lo).trans HO.out.c3); have y4 := (b2.cell (p := ⟨ob, 4, none⟩) lo1).trans ((b1.cell (p := ⟨ob, 4, none⟩) lo).trans HO.out.c4); have y5 := (b2.cell (p := ⟨ob, 5, none⟩) lo1).trans ((b1.cell (p := ⟨ob, 5, none⟩) lo).trans HO.out.c5); have yf := fun j => (b2.frozen (p := ⟨ob, j, none⟩) lo1).trans ((b1.frozen (p := ⟨ob, j, none⟩) lo).trans (hf j))))
  all_goals
    refine ⟨rfl, _, rfl, _, by simp [results, Tryd.results8, go_sem], rfl, rfl, ?_, ?_⟩
    · refine ⟨?_, ?_, ?_, ?_, ?_, ?_⟩ <;> simp [go_sem, y0, y1, y2, y3, y4, y5]
    · intro B hB
      iterate 6 (refine Below.setCell ?_ hB _)
      exact ((Below.refl B w).drew.trans (b1.mono (Nat.le_of_lt (Nat.lt_of_le_of_lt hB lo)))).trans (b2.mono (Nat.le_of_lt (Nat.lt_of_le_of_lt hB lo1)))
end Go.Proofs.YtfpaoalfkmpjpabDoor
