/- Counting holds. -/
import Derived.Test.YtkjpbjgepnbibaaWaA
import Derived.Test.YtkjpbjgepnbibaaEvX
import Derived.ChangeKeysEq
namespace Go.Proofs.Ytkjpbjgepnbibaa
open Go.RowKit
open Ev (SV vi Bx Sg Kg)
set_option maxRecDepth 100000

def kPlaced : Kg T3 Unit := ⟨12, fun h => [.agg h.l.toArray], fun _ => [], fun _ => True, fun h _ => .bool (decide (0 ≤ h.b) && decide (h.b ≤ 3)), fun _ _ => [], fun _ _ => True⟩
theorem kPlaced_ok : Ev.Spec Try.prog kPlaced.sg := by
  refine Ev.spec 11 hMz Try.func12 (by kernel_rfl) fun h hx bs w hl => ?_
  have he : ∀ b, (decide (0 ≤ h.b) && decide (h.b ≤ 3)) = b → kPlaced.sg.out h () = [] ∧ kPlaced.sg.res h () = .val (.bool b) ∧ kPlaced.sg.post h () = [] := fun b e => by subst e; exact ⟨rfl, rfl, rfl⟩
  refine Ev.split (decide (0 ≤ h.b)) hMz (by kernel_rfl) (fun h0 => ?_) (fun h0 => ?_)
  · exact Ev.retE () [] [] (he (decide (h.b ≤ 3)) (by rw [h0, Bool.true_and])) (by kernel_rfl) hl trivial
  · exact Ev.retE () [] [] (he false (by rw [h0, Bool.false_and])) (by kernel_rfl) hl trivial
def kCount : Kg (Srv × Int) Unit := ⟨20, fun x => [.agg (lgL x.1).toArray, .int .i64 x.2], fun x => [mfH x.1], fun x => Fit x.1, fun x _ => .int .i64 (cntK x.2 x.1.hs.l : Nat), fun _ _ => [], fun _ _ => True⟩
def cntF (s : Srv) (k : Int) (i : Nat) : Ev.SS := ⟨[(1, vi k), (5, vi (cntK k (s.hs.l.take i) : Nat)), (9, .val s.hs.v), (10, vi (s.hs.l.length : Int)), (11, vi (i : Int))], [.cells ((lgL s).map .val)], [mfH s]⟩
theorem kCount_ok : Ev.Spec Try.prog kCount.sg := by
  refine Ev.spec 23 hMz Try.func20 (by kernel_rfl) fun ⟨s, k⟩ hx bs w hl => ?_
  have hx : Fit s := hx
  have hh := hx.h
  refine Ev.loopS (fun i => i ≤ s.hs.l.length) (fun i => s.hs.l.length - i) (cntF s k) 0 [0] [0] hMz (Nat.zero_le _) (by kernel_rfl) hl fun i hi I hI => ?_
  refine Ev.split (decide ((i : Int) < (s.hs.l.length : Int))) hMz (by kernel_rfl) (fun hs => ?_) (fun hs => ?_)
  · have hs := of_decide_eq_true hs
    have hi' : i < s.hs.l.length := by omega
    refine Ev.learn (p := ∃ b off, s.hs.o = some ⟨b, off, none⟩) 0 (mfH s) (by kernel_rfl) (fun w h => rows_o h hi') fun ⟨b, off, ho⟩ => ?_
    refine Ev.idx (y := (i : Int)) (ao := s.hs.o) (m := s.hs.l.length) (m' := s.hs.l.length) (cc := s.hs.c) 13 i b off 3 hMz (by kernel_rfl) rfl ho rfl hi' ?_
    refine Ev.ldR (b := b) (off := off + i * 3) (k := 3) 14 s.hs.l[i].l hMz (by kernel_rfl) rfl (fun w F => rows_at (Ev.fct F 0 (mfH s) (by kernel_rfl)) hi' ho) ?_
    have hc := cntK_take hi' k
    have hle := cntK_le k (s.hs.l.take i)
    rw [List.length_take] at hle
    refine Ev.split (decide (s.hs.l[i].b = k)) hMz (by kernel_rfl) (fun hk => ?_) (fun hk => ?_)
    · rw [if_pos (of_decide_eq_true hk)] at hc
      refine Ev.reW 5 ((cntK k (s.hs.l.take (i + 1)) : Nat) : Int) hMz (by rw [hc]; kernel_rfl) (by omega) (by omega) ?_
      refine Ev.reW 11 ((i + 1 : Nat) : Int) hMz (by kernel_rfl) (by omega) (by omega) ?_
      exact Ev.againS hI (i + 1) [0] [0] hi' (by show s.hs.l.length - (i + 1) < s.hs.l.length - i; omega) (by kernel_rfl) (by kernel_rfl) hl
    · rw [if_neg (of_decide_eq_false hk), Nat.add_zero] at hc
      refine Ev.reW 11 ((i + 1 : Nat) : Int) hMz (by kernel_rfl) (by omega) (by omega) ?_
      refine Ev.reS 5 (vi ((cntK k (s.hs.l.take (i + 1)) : Nat) : Int)) hMz (by kernel_rfl) (fun bs => by rw [hc]) (by kernel_rfl) ?_
      exact Ev.againS hI (i + 1) [0] [0] hi' (by show s.hs.l.length - (i + 1) < s.hs.l.length - i; omega) (by kernel_rfl) (by kernel_rfl) hl
  · have hs := of_decide_eq_false hs
    have hi' : i = s.hs.l.length := by have hi : i ≤ s.hs.l.length := hi; omega
    have he : cntK k s.hs.l = cntK k (s.hs.l.take i) := by rw [hi', List.take_length]
    exact Ev.retE () [] [] (r' := .val (.int .i64 ((cntK k (s.hs.l.take i) : Nat) : Int))) ⟨rfl, congrArg (fun n : Nat => SV.val (.int .i64 (n : Int))) he, rfl⟩ (by kernel_rfl) hl trivial
end Go.Proofs.Ytkjpbjgepnbibaa
