/- Whether too much is held; whether one more could be asked. -/
import Derived.Test.YtkjpbjgepnbibaaWaG
namespace Go.Proofs.Ytkjpbjgepnbibaa
open Go.RowKit
open Ev (SV vi Bx Sg Kg)
set_option maxRecDepth 100000

/-- No more is held than there is; nobody waits while one more could be asked. -/
def leB (s : Srv) (k m : Int) : Bool := decide (((cntK k s.hs.l : Nat) : Int) ≤ m)
def enB (s : Srv) : Bool := leB s 1 s.m1 && (leB s 2 s.m2 && leB s 3 s.m3)
def fuB (s : Srv) : Bool := decide ((s.q.l.length : Int) = 0) || decide (s.co ≤ ((cntK 2 s.hs.l : Nat) : Int))
def kEnough : Kg Srv Unit := ⟨14, fun s => [.agg (lgL s).toArray], fun s => [mfH s], fun s => Fit s, fun s _ => .bool (enB s), fun _ _ => [], fun _ _ => True⟩
def kFull : Kg Srv Unit := ⟨15, fun s => [.agg (srL s).toArray], fun s => [mfH s], fun s => Fit s, fun s _ => .bool (fuB s), fun _ _ => [], fun _ _ => True⟩
def enF (s : Srv) (k : Int) : Ev.SS := ⟨[(1, .ptr 0 0), (3, vi k)], [.cells ((lgL s).map .val)], [mfH s]⟩
def EnI (s : Srv) (k : Int) : Prop := k = 1 ∨ (k = 2 ∧ leB s 1 s.m1 = true) ∨ (k = 3 ∧ leB s 1 s.m1 = true ∧ leB s 2 s.m2 = true) ∨ (k = 4 ∧ leB s 1 s.m1 = true ∧ leB s 2 s.m2 = true ∧ leB s 3 s.m3 = true)
theorem kEnough_ok : Ev.Spec Try.prog kEnough.sg := by
  refine Ev.spec 16 hMz Try.func14 (by kernel_rfl) fun s hx bs w hl => ?_
  have hx : Fit s := hx
  have he : ∀ r, enB s = r → kEnough.sg.out s () = [] ∧ kEnough.sg.res s () = .val (.bool r) ∧ kEnough.sg.post s () = [] := fun r e => by subst e; exact ⟨rfl, rfl, rfl⟩
  refine Ev.loopS (EnI s) (fun k => (4 - k).toNat) (enF s) 1 [0] [0] hMz (.inl rfl) (by kernel_rfl) hl fun k hk I hI => ?_
  rcases hk with rfl | ⟨rfl, c1⟩ | ⟨rfl, c1, c2⟩ | ⟨rfl, c1, c2, c3⟩
  · refine Ev.yes (decide ((1 : Int) ≤ 3)) hMz (by kernel_rfl) rfl ?_
    refine Ev.idxA (y := 1) 5 1 0 1 4 1 hMz (by kernel_rfl) rfl (by decide) ?_
    refine Ev.callC kCount_ok (s, 1) [] [0] hMz (by kernel_rfl) hx fun _ _ => ?_
    refine Ev.split (decide (s.m1 < ↑(cntK (1 : Int) s.hs.l))) hMz (by kernel_rfl) (fun h1 => ?_) (fun h1 => ?_)
    · exact Ev.retE () [] [] (he false (by clear he hI; simp_all [enB, leB] <;> omega)) (by kernel_rfl) hl trivial
    · refine Ev.reW 3 2 hMz (by kernel_rfl) (by decide) (by decide) ?_
      have d : leB s 1 s.m1 = true := by unfold leB; exact decide_eq_true (by have := of_decide_eq_false h1; omega)
      exact Ev.againS hI 2 [0] [0] (.inr (.inl ⟨rfl, d⟩)) (by decide) (by kernel_rfl) (by kernel_rfl) hl
  · refine Ev.yes (decide ((2 : Int) ≤ 3)) hMz (by kernel_rfl) rfl ?_
    refine Ev.idxA (y := 2) 5 2 0 1 4 1 hMz (by kernel_rfl) rfl (by decide) ?_
    refine Ev.callC kCount_ok (s, 2) [] [0] hMz (by kernel_rfl) hx fun _ _ => ?_
    refine Ev.split (decide (s.m2 < ↑(cntK (2 : Int) s.hs.l))) hMz (by kernel_rfl) (fun h1 => ?_) (fun h1 => ?_)
    · exact Ev.retE () [] [] (he false (by clear he hI; simp_all [enB, leB] <;> omega)) (by kernel_rfl) hl trivial
    · refine Ev.reW 3 3 hMz (by kernel_rfl) (by decide) (by decide) ?_
      have d : leB s 2 s.m2 = true := by unfold leB; exact decide_eq_true (by have := of_decide_eq_false h1; omega)
      exact Ev.againS hI 3 [0] [0] (.inr (.inr (.inl ⟨rfl, c1, d⟩))) (by decide) (by kernel_rfl) (by kernel_rfl) hl
  · refine Ev.yes (decide ((3 : Int) ≤ 3)) hMz (by kernel_rfl) rfl ?_
    refine Ev.idxA (y := 3) 5 3 0 1 4 1 hMz (by kernel_rfl) rfl (by decide) ?_
    refine Ev.callC kCount_ok (s, 3) [] [0] hMz (by kernel_rfl) hx fun _ _ => ?_
    refine Ev.split (decide (s.m3 < ↑(cntK (3 : Int) s.hs.l))) hMz (by kernel_rfl) (fun h1 => ?_) (fun h1 => ?_)
    · exact Ev.retE () [] [] (he false (by clear he hI; simp_all [enB, leB] <;> omega)) (by kernel_rfl) hl trivial
    · refine Ev.reW 3 4 hMz (by kernel_rfl) (by decide) (by decide) ?_
      have d : leB s 3 s.m3 = true := by unfold leB; exact decide_eq_true (by have := of_decide_eq_false h1; omega)
      exact Ev.againS hI 4 [0] [0] (.inr (.inr (.inr ⟨rfl, c1, c2, d⟩))) (by decide) (by kernel_rfl) (by kernel_rfl) hl
  · refine Ev.no (decide ((4 : Int) ≤ 3)) hMz (by kernel_rfl) rfl ?_
    exact Ev.retE () [] [] (he true (by clear he hI; simp_all [enB, leB] <;> omega)) (by kernel_rfl) hl trivial
theorem kFull_ok : Ev.Spec Try.prog kFull.sg := by
  refine Ev.spec 18 hMz Try.func15 (by kernel_rfl) fun s hx bs w hl => ?_
  have hx : Fit s := hx
  have he : ∀ r, fuB s = r → kFull.sg.out s () = [] ∧ kFull.sg.res s () = .val (.bool r) ∧ kFull.sg.post s () = [] := fun r e => by subst e; exact ⟨rfl, rfl, rfl⟩
  refine Ev.split (decide (↑s.q.l.length = (0 : Int))) hMz (by kernel_rfl) (fun h1 => ?_) (fun h1 => ?_)
  · exact Ev.retE () [] [] (he true (by clear he; simp_all [fuB] <;> omega)) (by kernel_rfl) hl trivial
  · refine Ev.callC kCount_ok (s, 2) [] [0] hMz (by kernel_rfl) hx fun _ _ => ?_
    exact Ev.retE () [] [] (he (decide (s.co ≤ ↑(cntK (2 : Int) s.hs.l))) (by clear he; simp_all [fuB] <;> omega)) (by kernel_rfl) hl trivial
end Go.Proofs.Ytkjpbjgepnbibaa
