/- The law WatchTells walked. -/
import Derived.Test.YtkjpbjgepnbibaaWaL
namespace Go.Proofs.Ytkjpbjgepnbibaa
open Go.RowKit
open Ev (SV vi Bx Sg Kg)
set_option maxRecDepth 100000

abbrev Lw : Type := Srv × Int × Ls T3
def LwM (x : Lw) : List Ev.Mf := [mfH x.1, mfQ x.1, mfM x.1, mfF x.1, mfL T3.l 3 x.2.2]
def kLaw : Kg Lw Unit := ⟨3, fun x => [.agg (srL x.1).toArray, .int .i64 x.2.1, x.2.2.v], LwM, fun x => Fit x.1 ∧ WfL x.1.q.l ∧ x.2.2.l.length ≤ 5864062014634, fun _ _ => .bool true, fun _ _ => [], fun _ _ => True⟩
theorem maL_row : ∀ (l : List T3) (i : Nat) (hi : i < l.length), ((maL l).drop (i * 3)).take 3 = l[i].l
  | x :: r, 0, _ => rfl
  | x :: r, i + 1, hi => by
    have e : (maL (x :: r)).drop ((i + 1) * 3) = (maL r).drop (i * 3) := by
      show (x.l ++ maL r).drop _ = _
      rw [List.drop_append, show x.l.length = 3 from rfl, List.drop_eq_nil_of_le (by show 3 ≤ _; omega), List.nil_append]
      congr 1
      omega
    rw [e]
    exact maL_row r i (by simpa using hi)
def lwF (x : Lw) (i : Nat) : Ev.SS := ⟨[(1, vi x.2.1), (2, .val x.2.2.v), (3, .ptr 0 0), (7, .row 1 (trL x.2.1 x.1.ms.l).length), (8, .row 2 (trL x.2.1 x.1.ms.l).length), (22, vi ((trL x.2.1 x.1.ms.l).length : Int)), (23, vi (i : Int))], [.cells ((srL x.1).map .val), .row tyMark 3 (trL x.2.1 x.1.ms.l).length (maL (trL x.2.1 x.1.ms.l)), .row tyMark 3 (trL x.2.1 x.1.ms.l).length (maL (trL x.2.1 x.1.ms.l))], LwM x⟩
set_option maxHeartbeats 4000000 in
theorem kLaw_ok : Ev.Spec Try.prog kLaw.sg := by
  refine Ev.spec 57 hMz Try.func3 (by kernel_rfl) fun ⟨s, id, l⟩ hx bs w hl => ?_
  obtain ⟨hx, hwf, hll⟩ : Fit s ∧ WfL s.q.l ∧ l.l.length ≤ 5864062014634 := hx
  have hm := hx.m
  have hle : (trL id s.ms.l).length ≤ 5864062014634 := Nat.le_trans (List.length_filter_le _ _) hm
  have he : ∀ r, r = true → kLaw.sg.out (s, id, l) () = [] ∧ kLaw.sg.res (s, id, l) () = .val (.bool r) ∧ kLaw.sg.post (s, id, l) () = [] := fun r e => by subst e; exact ⟨rfl, rfl, rfl⟩
  refine Ev.callC trS_ok (s, id) [] [2] hMz (by kernel_rfl) hx fun _ _ => ?_
  refine Ev.callC trR_ok (s, id) [] [2] hMz (by kernel_rfl) hx fun _ _ => ?_
  refine Ev.no (decide (¬ ((trL id s.ms.l).length : Int) = ((trL id s.ms.l).length : Int))) hMz (by kernel_rfl) (by simp) ?_
  refine Ev.loopS (fun i => i ≤ (trL id s.ms.l).length) (fun i => (trL id s.ms.l).length - i) (lwF (s, id, l)) 0 [0, 1, 2] [0, 1, 2, 3, 4] hMz (Nat.zero_le _) (by kernel_rfl) hl fun i hi I hI => ?_
  have hi : i ≤ (trL id s.ms.l).length := hi
  refine Ev.split (decide ((i : Int) < ((trL id s.ms.l).length : Int))) hMz (by kernel_rfl) (fun hs => ?_) (fun hs => ?_)
  · have hs := of_decide_eq_true hs
    have hi' : i < (trL id s.ms.l).length := by omega
    have hrow := maL_row (trL id s.ms.l) i hi'
    have hlen := maL_len (trL id s.ms.l)
    obtain ⟨x, hxe⟩ : ∃ x, (trL id s.ms.l)[i] = x := ⟨_, rfl⟩
    rw [hxe] at hrow
    obtain ⟨xa, xb, xc⟩ := x
    refine Ev.idxR (k := 1) (y := (i : Int)) 2 i (trL id s.ms.l).length 3 hMz (by kernel_rfl) rfl hi' ?_
    refine Ev.idxR (k := 2) (y := (i : Int)) 6 i (trL id s.ms.l).length 3 hMz (by kernel_rfl) rfl hi' ?_
    refine Ev.fork2 3 7 hMz (by kernel_rfl) (by kernel_rfl) (by kernel_rfl) ?_ ?_
    · refine Ev.ldW (q := 4) (k := 1) (off := i * 3) (l := maL (trL id s.ms.l)) (.agg (T3.mk xa xb xc).l.toArray) hMz (by kernel_rfl) (.inr ⟨(T3.mk xa xb xc).l, rfl, rfl, hrow, by omega⟩) ?_
      refine Ev.ldW (q := 4) (k := 2) (off := i * 3) (l := maL (trL id s.ms.l)) (.agg (T3.mk xa xb xc).l.toArray) hMz (by kernel_rfl) (.inr ⟨(T3.mk xa xb xc).l, rfl, rfl, hrow, by omega⟩) ?_
      refine Ev.eqv (ne := true) (T := 40) (p := .agg (T3.mk xa xb xc).l.toArray) (q := .agg (T3.mk xa xb xc).l.toArray) 8 true hMz (by kernel_rfl) ⟨⟨_, rfl⟩, _, rfl⟩ (fun w => (eqM w xa xb xc xa xb xc).trans (by simp)) ?_
      refine Ev.no (true ^^ true) hMz (by kernel_rfl) rfl ?_
      refine Ev.reW 23 ((i + 1 : Nat) : Int) hMz (by kernel_rfl) (by omega) (by omega) ?_
      exact Ev.againS hI (i + 1) [0, 1, 2] [0, 1, 2, 3, 4] hi' (by show (trL id s.ms.l).length - (i + 1) < (trL id s.ms.l).length - i; omega) (by kernel_rfl) (by kernel_rfl) hl
    · refine Ev.ldW (q := 4) (k := 2) (off := i * 3) (l := maL (trL id s.ms.l)) (.agg (T3.mk xa xb xc).l.toArray) hMz (by kernel_rfl) (.inr ⟨(T3.mk xa xb xc).l, rfl, rfl, hrow, by omega⟩) ?_
      refine Ev.ldW (q := 4) (k := 1) (off := i * 3) (l := maL (trL id s.ms.l)) (.agg (T3.mk xa xb xc).l.toArray) hMz (by kernel_rfl) (.inr ⟨(T3.mk xa xb xc).l, rfl, rfl, hrow, by omega⟩) ?_
      refine Ev.eqv (ne := true) (T := 40) (p := .agg (T3.mk xa xb xc).l.toArray) (q := .agg (T3.mk xa xb xc).l.toArray) 8 true hMz (by kernel_rfl) ⟨⟨_, rfl⟩, _, rfl⟩ (fun w => (eqM w xa xb xc xa xb xc).trans (by simp)) ?_
      refine Ev.no (true ^^ true) hMz (by kernel_rfl) rfl ?_
      refine Ev.reW 23 ((i + 1 : Nat) : Int) hMz (by kernel_rfl) (by omega) (by omega) ?_
      exact Ev.againS hI (i + 1) [0, 1, 2] [0, 1, 2, 3, 4] hi' (by show (trL id s.ms.l).length - (i + 1) < (trL id s.ms.l).length - i; omega) (by kernel_rfl) (by kernel_rfl) hl
  · refine Ev.callC kHeld_ok (s, id) [] [0] hMz (by kernel_rfl) hx fun _ _ => ?_
    refine Ev.callC kHeldR_ok (s, id) [] [0] hMz (by kernel_rfl) hx fun _ _ => ?_
    refine Ev.eqv (ne := false) (T := 28) (p := .agg #[.int .i64 (cntH id 0 s.hs.l : Nat), .int .i64 (cntH id 1 s.hs.l : Nat), .int .i64 (cntH id 2 s.hs.l : Nat), .int .i64 (cntH id 3 s.hs.l : Nat)]) (q := .agg #[.int .i64 (cntH id 0 s.hs.l : Nat), .int .i64 (cntH id 1 s.hs.l : Nat), .int .i64 (cntH id 2 s.hs.l : Nat), .int .i64 (cntH id 3 s.hs.l : Nat)]) 6 true hMz (by kernel_rfl) ⟨⟨_, rfl⟩, _, rfl⟩ (fun w => (eqA w _ _ _ _ _ _ _ _).trans (by simp)) ?_
    refine Ev.yes true hMz (by kernel_rfl) rfl ?_
    refine Ev.callC kRight_ok s [] [0, 1, 3] hMz (by kernel_rfl) hx fun _ _ => ?_
    refine Ev.callC kRightR_ok s [] [0, 1, 3] hMz (by kernel_rfl) ⟨hx, hwf⟩ fun _ _ => ?_
    refine Ev.yes (rightB s == rightB s) hMz (by kernel_rfl) (by simp) ?_
    refine Ev.callC kOnion_ok l [] [4] hMz (by kernel_rfl) hll fun _ _ => ?_
    refine Ev.callC kOnionR_ok l [] [4] hMz (by kernel_rfl) hll fun _ _ => ?_
    exact Ev.retE () [] [] (he (onB { a := (0 : Int), b := (-1 : Int), c := (1 : Int) } l.l == onB { a := (0 : Int), b := (-1 : Int), c := (1 : Int) } l.l) (by simp)) (by kernel_rfl) hl trivial
end Go.Proofs.Ytkjpbjgepnbibaa
