/- Whether calls are in order: data, small functions. -/
import Derived.Test.YtkjpbjgepnbibaaWaD
namespace Go.Proofs.Ytkjpbjgepnbibaa
open Go.RowKit
open Ev (SV vi Bx Sg Kg)
set_option maxRecDepth 100000

def bndI (a : T3) (c : Int) : Int := if a.c = c then a.b else 6
/-- Whether a call may follow: a filter's, a call's number. -/
def folB (a m : T3) : Bool := if m.c = 5 then decide (a.c = 1) || decide (a.c = 2) else if m.c = 1 then decide (a.c ≤ 2) && decide (a.b < m.b) else if m.c = 2 ∨ m.c = 3 then decide (a.c ≤ m.c) && decide (m.b < bndI a m.c) else decide (a.c ≤ m.c)
def cntM (m : T3) : T3 := if m.c = 5 then ⟨m.a, 6, 2⟩ else m
def onB (a : T3) : List T3 → Bool
  | [] => true
  | m :: r => folB a m && onB (cntM m) r
theorem onB_id (x y b c : Int) : ∀ l : List T3, onB ⟨x, b, c⟩ l = onB ⟨y, b, c⟩ l
  | [] => rfl
  | _ :: _ => rfl
def kBound : Kg (T3 × Int) Unit := ⟨22, fun x => [.agg x.1.l.toArray, .int .i64 x.2], fun _ => [], fun _ => True, fun x _ => .int .i64 (bndI x.1 x.2), fun _ _ => [], fun _ _ => True⟩
theorem kBound_ok : Ev.Spec Try.prog kBound.sg := by
  refine Ev.spec 11 hMz Try.func22 (by kernel_rfl) fun ⟨⟨aa, ab, ac⟩, c⟩ hx bs w hl => ?_
  have he : ∀ r, bndI ⟨aa, ab, ac⟩ c = r → kBound.sg.out (⟨aa, ab, ac⟩, c) () = [] ∧ kBound.sg.res (⟨aa, ab, ac⟩, c) () = .val (.int .i64 r) ∧ kBound.sg.post (⟨aa, ab, ac⟩, c) () = [] := fun r e => by subst e; exact ⟨rfl, rfl, rfl⟩
  refine Ev.split (decide (ac = c)) hMz (by kernel_rfl) (fun h => ?_) (fun h => ?_)
  · exact Ev.retE () [] [] (he ab (if_pos (of_decide_eq_true h))) (by kernel_rfl) hl trivial
  · exact Ev.retE () [] [] (he 6 (if_neg (of_decide_eq_false h))) (by kernel_rfl) hl trivial
def kCounted : Kg T3 Unit := ⟨19, fun x => [.agg x.l.toArray], fun _ => [], fun _ => True, fun x _ => .agg (cntM x).l.toArray, fun _ _ => [], fun _ _ => True⟩
theorem kCounted_ok : Ev.Spec Try.prog kCounted.sg := by
  refine Ev.spec 10 hMz Try.func19 (by kernel_rfl) fun ⟨a, b, c⟩ hx bs w hl => ?_
  have he : ∀ r, cntM ⟨a, b, c⟩ = r → kCounted.sg.out ⟨a, b, c⟩ () = [] ∧ kCounted.sg.res ⟨a, b, c⟩ () = .val (.agg r.l.toArray) ∧ kCounted.sg.post ⟨a, b, c⟩ () = [] := fun r e => by subst e; exact ⟨rfl, rfl, rfl⟩
  refine Ev.split (decide (c = 5)) hMz (by kernel_rfl) (fun h => ?_) (fun h => ?_)
  · exact Ev.retE () [] [] (he ⟨a, 6, 2⟩ (if_pos (of_decide_eq_true h))) (by kernel_rfl) hl trivial
  · exact Ev.retE () [] [] (he ⟨a, b, c⟩ (if_neg (of_decide_eq_false h))) (by kernel_rfl) hl trivial
def kFollows : Kg (T3 × T3) Unit := ⟨18, fun x => [.agg x.1.l.toArray, .agg x.2.l.toArray], fun _ => [], fun _ => True, fun x _ => .bool (folB x.1 x.2), fun _ _ => [], fun _ _ => True⟩
theorem kFollows_ok : Ev.Spec Try.prog kFollows.sg := by
  refine Ev.spec 51 hMz Try.func18 (by kernel_rfl) fun ⟨⟨aa, ab, ac⟩, ⟨ma, mb, mc⟩⟩ hx bs w hl => ?_
  have he : ∀ r, folB ⟨aa, ab, ac⟩ ⟨ma, mb, mc⟩ = r → kFollows.sg.out (⟨aa, ab, ac⟩, ⟨ma, mb, mc⟩) () = [] ∧ kFollows.sg.res (⟨aa, ab, ac⟩, ⟨ma, mb, mc⟩) () = .val (.bool r) ∧ kFollows.sg.post (⟨aa, ab, ac⟩, ⟨ma, mb, mc⟩) () = [] := fun r e => by subst e; exact ⟨rfl, rfl, rfl⟩
  refine Ev.split (decide (mc = (5 : Int))) hMz (by kernel_rfl) (fun h1 => ?_) (fun h1 => ?_)
  · refine Ev.split (decide (ac = (1 : Int))) hMz (by kernel_rfl) (fun h2 => ?_) (fun h2 => ?_)
    · exact Ev.retE () [] [] (he (true) (by simp_all [folB, bndI] <;> omega)) (by kernel_rfl) hl trivial
    · exact Ev.retE () [] [] (he (decide (ac = (2 : Int))) (by simp_all [folB, bndI] <;> omega)) (by kernel_rfl) hl trivial
  · refine Ev.split (decide (mc = (1 : Int))) hMz (by kernel_rfl) (fun h2 => ?_) (fun h2 => ?_)
    · refine Ev.split (decide (ac ≤ (2 : Int))) hMz (by kernel_rfl) (fun h3 => ?_) (fun h3 => ?_)
      · exact Ev.retE () [] [] (he (decide (ab < mb)) (by simp_all [folB, bndI] <;> omega)) (by kernel_rfl) hl trivial
      · exact Ev.retE () [] [] (he (false) (by simp_all [folB, bndI] <;> omega)) (by kernel_rfl) hl trivial
    · refine Ev.split (decide (mc = (2 : Int))) hMz (by kernel_rfl) (fun h3 => ?_) (fun h3 => ?_)
      · refine Ev.split (decide (ac ≤ mc)) hMz (by kernel_rfl) (fun h4 => ?_) (fun h4 => ?_)
        · refine Ev.callC kBound_ok (⟨aa, ab, ac⟩, mc) [] [] hMz (by kernel_rfl) trivial fun _ _ => ?_
          exact Ev.retE () [] [] (he (decide (mb < bndI { a := aa, b := ab, c := ac } mc)) (by simp_all [folB, bndI] <;> omega)) (by kernel_rfl) hl trivial
        · exact Ev.retE () [] [] (he (false) (by simp_all [folB, bndI] <;> omega)) (by kernel_rfl) hl trivial
      · refine Ev.split (decide (mc = (3 : Int))) hMz (by kernel_rfl) (fun h4 => ?_) (fun h4 => ?_)
        · refine Ev.split (decide (ac ≤ mc)) hMz (by kernel_rfl) (fun h5 => ?_) (fun h5 => ?_)
          · refine Ev.callC kBound_ok (⟨aa, ab, ac⟩, mc) [] [] hMz (by kernel_rfl) trivial fun _ _ => ?_
            exact Ev.retE () [] [] (he (decide (mb < bndI { a := aa, b := ab, c := ac } mc)) (by simp_all [folB, bndI] <;> omega)) (by kernel_rfl) hl trivial
          · exact Ev.retE () [] [] (he (false) (by simp_all [folB, bndI] <;> omega)) (by kernel_rfl) hl trivial
        · exact Ev.retE () [] [] (he (decide (ac ≤ mc)) (by simp_all [folB, bndI] <;> omega)) (by kernel_rfl) hl trivial
end Go.Proofs.Ytkjpbjgepnbibaa
