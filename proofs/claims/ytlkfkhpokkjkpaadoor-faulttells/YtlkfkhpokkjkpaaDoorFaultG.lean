/- The walk of the document's own answer to a fault. -/
import Derived.Test.YtlkfkhpokkjkpaaDoorFaultF
namespace Go.Proofs.YtlkfkhpokkjkpaaDoor
open Go.RowKit

set_option maxRecDepth 100000 in
set_option maxHeartbeats 1000000 in
theorem told_any (k fi ca inn : Int) (t : ByteArray) (w : World) (hk : wfI k) :
    Calls Tryd.prog 36 #[fltV k fi ca inn t] w fun e w' => ∃ b d, e = .returned (tellV k b d) ∧ MsAt w' (tellV k b d) (tellM k) ∧ Below w.heap.size w w' := by
  unfold fltV
  have HK : Hid ((Lit.int .i64 k).wf = true) := wf_of hk
  clear hk
  have HZ : Hid ((kindS k).size ≤ 140737488351232) := by have := kindS_size k; show _ ≤ _; omega
  go_enter Tryd.func36, Tryd.ntmps36
  go_wp2_with fail
  go_region_with (first
    | (go_at_call 34; refine (rstatus_any k fi ca inn t HK.out _).mono ?_; rintro e w1 ⟨rfl, hb1⟩; have c0 := fun j => hb1.cell (p := ⟨w.heap.size, j, none⟩) (by first | (simp; done) | (simp; omega) | (show w.heap.size + 1 < _; omega)); have c1 := fun j => hb1.cell (p := ⟨w.heap.size + 1, j, none⟩) (by simp); have f1 := fun j => hb1.frozen (p := ⟨w.heap.size + 1, j, none⟩) (by simp); have s1 := hb1.size; simp at s1)
    | (go_at_call 55; refine (rkind_any k HK.out _).mono ?_; rintro e w2 ⟨rfl, hb2⟩; have c2 := fun j => hb2.cell (p := ⟨w.heap.size + 1, j, none⟩) (by first | (simp; done) | (simp; omega) | (show w.heap.size + 1 < _; omega)); have f2 := fun j => hb2.frozen (p := ⟨w.heap.size + 1, j, none⟩) (by first | (simp; done) | (simp; omega) | (show w.heap.size + 1 < _; omega)); have s2 := hb2.size)
    | (go_at_call 22; refine (rsay_new _ _ _ HZ.out).mono ?_; rintro e w3 ⟨d, rfl, hms, hb3⟩; have c3 := fun j => hb3.cell (p := ⟨w.heap.size + 1, j, none⟩) (by first | (simp; done) | (simp; omega) | (show w.heap.size + 1 < _; omega)); have f3 := fun j => hb3.frozen (p := ⟨w.heap.size + 1, j, none⟩) (by first | (simp; done) | (simp; omega) | (show w.heap.size + 1 < _; omega))))
  all_goals
    go_wp2
    refine bodyPost_ret (v := tellV k (w2.heap.size + 1) d) (by simp [results, Tryd.results36, go_sem, c3, c2, c1, tellV]) rfl ⟨_, _, rfl, msAt_set4 hms (by omega) _ _ _ _, ?_⟩
    iterate 4 (refine Below.setCell ?_ (by simp) _)
    have b1 : Below w.heap.size w w1 := Below.trans (Below.drew ((Below.refl _ w).alloc (Nat.le_refl _) _ |>.alloc (by simp) _)) (hb1.mono (by simp; omega))
    exact (b1.trans (hb2.mono b1.size)).trans (hb3.mono (Nat.le_trans b1.size hb2.size))
end Go.Proofs.YtlkfkhpokkjkpaaDoor
