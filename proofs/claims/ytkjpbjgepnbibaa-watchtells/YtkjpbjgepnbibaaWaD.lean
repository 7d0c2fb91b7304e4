/- The calls of an ask. -/
import Derived.Test.YtkjpbjgepnbibaaWaC
namespace Go.Proofs.Ytkjpbjgepnbibaa
open Go.RowKit
open Ev (SV vi Bx Sg Kg)
set_option maxRecDepth 100000

def tyMark : Nat := 40
def maL (l : List T3) : List Value := l.flatMap T3.l
theorem maL_len (l : List T3) : (maL l).length = l.length * 3 := by
  induction l with
  | nil => rfl
  | cons x r ih => show (x.l ++ maL r).length = _; rw [List.length_append, ih, List.length_cons]; show 3 + _ = _; omega
def trL (id : Int) (l : List T3) : List T3 := l.filter fun x => decide (x.a = id)
theorem trL_take {l : List T3} {i : Nat} (hi : i < l.length) (id : Int) : trL id (l.take (i + 1)) = trL id (l.take i) ++ if l[i].a = id then [l[i]] else [] := by
  unfold trL
  rw [take_at hi, List.filter_append]
  simp [List.filter_cons]
theorem snoc_ma (l : List T3) (x : T3) : l.length + 1 = (l ++ [x]).length ∧ maL l ++ x.l = maL (l ++ [x]) := by
  refine ⟨by simp, ?_⟩
  unfold maL
  rw [List.flatMap_append]
  simp
def trS : Sg (Srv × Int) Unit := ⟨4, 0, fun x => [.val (.agg (srL x.1).toArray), vi x.2], fun _ => [], fun x => [mfM x.1], fun x => Fit x.1, fun x _ => .row 0 (trL x.2 x.1.ms.l).length, fun x _ => [.row tyMark 3 (trL x.2 x.1.ms.l).length (maL (trL x.2 x.1.ms.l))], fun _ _ => [], fun _ _ => True⟩
def trSF (s : Srv) (id : Int) (y : Nat × List T3) : Ev.SS := ⟨[(1, vi id), (5, .row 0 y.2.length), (10, .val s.ms.v), (11, vi (s.ms.l.length : Int)), (12, vi (y.1 : Int))], [.row tyMark 3 y.2.length (maL y.2)], [mfM s]⟩
theorem trS_ok : Ev.Spec Try.prog trS := by
  refine Ev.spec 26 hMz Try.func4 (by kernel_rfl) fun ⟨s, id⟩ hx bs w hl => ?_
  have hx : Fit s := hx
  have hh := hx.m
  refine Ev.nilS 5 tyMark 3 hMz (by kernel_rfl) ?_
  refine Ev.loopS (fun y => y.1 ≤ s.ms.l.length ∧ y.2 = trL id (s.ms.l.take y.1)) (fun y => s.ms.l.length - y.1) (trSF s id) (0, []) [1] [0] hMz ⟨Nat.zero_le _, rfl⟩ (by kernel_rfl) hl fun ⟨i, l⟩ hi I hI => ?_
  obtain ⟨hi, hn⟩ : i ≤ s.ms.l.length ∧ l = trL id (s.ms.l.take i) := hi
  refine Ev.split (decide ((i : Int) < (s.ms.l.length : Int))) hMz (by kernel_rfl) (fun hs => ?_) (fun hs => ?_)
  · have hs := of_decide_eq_true hs
    have hi' : i < s.ms.l.length := by omega
    have hle : l.length ≤ i := by rw [hn]; exact Nat.le_trans (List.length_filter_le _ _) (by rw [List.length_take]; omega)
    have hc := trL_take hi' id
    rw [← hn] at hc
    refine Ev.learn (p := ∃ b off, s.ms.o = some ⟨b, off, none⟩) 0 (mfM s) (by kernel_rfl) (fun w h => rows_o h hi') fun ⟨b, off, ho⟩ => ?_
    refine Ev.idx (y := (i : Int)) (ao := s.ms.o) (m := s.ms.l.length) (m' := s.ms.l.length) (cc := s.ms.c) 14 i b off 3 hMz (by kernel_rfl) rfl ho rfl hi' ?_
    refine Ev.ldR (b := b) (off := off + i * 3) (k := 3) 15 s.ms.l[i].l hMz (by kernel_rfl) rfl (fun w F => rows_at (Ev.fct F 0 (mfM s) (by kernel_rfl)) hi' ho) ?_
    generalize s.ms.l[i] = x at hc ⊢
    obtain ⟨xa, xb, xc⟩ := x
    refine Ev.split (decide (xa = id)) hMz (by kernel_rfl) (fun ha => ?_) (fun ha => ?_)
    · rw [if_pos (of_decide_eq_true ha)] at hc
      refine Ev.appW 24 (n := l.length) (n' := (l ++ [(T3.mk xa xb xc)]).length) (l := maL l) (l' := maL (l ++ [(T3.mk xa xb xc)])) (snoc_ma l (T3.mk xa xb xc)) hMz (by kernel_rfl) (by kernel_rfl) (by rw [List.length_append, List.length_singleton]; unfold maxLen; omega) (by rw [List.length_append, List.length_singleton]; omega) ?_
      refine Ev.reW 12 ((i + 1 : Nat) : Int) hMz (by kernel_rfl) (by omega) (by omega) ?_
      exact Ev.againS hI (i + 1, l ++ [(T3.mk xa xb xc)]) [3] [0] ⟨hi', hc.symm⟩ (by show s.ms.l.length - (i + 1) < s.ms.l.length - i; omega) (by kernel_rfl) (by kernel_rfl) hl
    · rw [if_neg (of_decide_eq_false ha), List.append_nil] at hc
      refine Ev.reW 12 ((i + 1 : Nat) : Int) hMz (by kernel_rfl) (by omega) (by omega) ?_
      exact Ev.againS hI (i + 1, l) [0] [0] ⟨hi', hc.symm⟩ (by show s.ms.l.length - (i + 1) < s.ms.l.length - i; omega) (by kernel_rfl) (by kernel_rfl) hl
  · have hs := of_decide_eq_false hs
    have hi' : i = s.ms.l.length := by omega
    have he : trL id s.ms.l = l := by rw [hn, hi', List.take_length]
    exact Ev.retE () [0] [] (o' := [.row tyMark 3 l.length (maL l)]) (r' := .row 0 l.length) ⟨by show [Bx.row tyMark 3 (trL id s.ms.l).length (maL (trL id s.ms.l))] = _; rw [he], by show SV.row 0 (trL id s.ms.l).length = _; rw [he], rfl⟩ (by kernel_rfl) hl trivial
def trR : Sg (Srv × Int) Unit := ⟨5, 0, fun x => [.val (.agg (srL x.1).toArray), vi x.2], fun _ => [], fun x => [mfM x.1], fun x => Fit x.1, fun x _ => .row 0 (trL x.2 x.1.ms.l).length, fun x _ => [.row tyMark 3 (trL x.2 x.1.ms.l).length (maL (trL x.2 x.1.ms.l))], fun _ _ => [], fun _ _ => True⟩
def trRF (s : Srv) (id : Int) (y : Nat × List T3) : Ev.SS := ⟨[(1, vi id), (5, .row 0 y.2.length), (10, .val s.ms.v), (11, vi (s.ms.l.length : Int)), (12, vi (y.1 : Int))], [.row tyMark 3 y.2.length (maL y.2)], [mfM s]⟩
theorem trR_ok : Ev.Spec Try.prog trR := by
  refine Ev.spec 26 hMz Try.func5 (by kernel_rfl) fun ⟨s, id⟩ hx bs w hl => ?_
  have hx : Fit s := hx
  have hh := hx.m
  refine Ev.nilS 5 tyMark 3 hMz (by kernel_rfl) ?_
  refine Ev.loopS (fun y => y.1 ≤ s.ms.l.length ∧ y.2 = trL id (s.ms.l.take y.1)) (fun y => s.ms.l.length - y.1) (trRF s id) (0, []) [1] [0] hMz ⟨Nat.zero_le _, rfl⟩ (by kernel_rfl) hl fun ⟨i, l⟩ hi I hI => ?_
  obtain ⟨hi, hn⟩ : i ≤ s.ms.l.length ∧ l = trL id (s.ms.l.take i) := hi
  refine Ev.split (decide ((i : Int) < (s.ms.l.length : Int))) hMz (by kernel_rfl) (fun hs => ?_) (fun hs => ?_)
  · have hs := of_decide_eq_true hs
    have hi' : i < s.ms.l.length := by omega
    have hle : l.length ≤ i := by rw [hn]; exact Nat.le_trans (List.length_filter_le _ _) (by rw [List.length_take]; omega)
    have hc := trL_take hi' id
    rw [← hn] at hc
    refine Ev.learn (p := ∃ b off, s.ms.o = some ⟨b, off, none⟩) 0 (mfM s) (by kernel_rfl) (fun w h => rows_o h hi') fun ⟨b, off, ho⟩ => ?_
    refine Ev.idx (y := (i : Int)) (ao := s.ms.o) (m := s.ms.l.length) (m' := s.ms.l.length) (cc := s.ms.c) 14 i b off 3 hMz (by kernel_rfl) rfl ho rfl hi' ?_
    refine Ev.ldR (b := b) (off := off + i * 3) (k := 3) 15 s.ms.l[i].l hMz (by kernel_rfl) rfl (fun w F => rows_at (Ev.fct F 0 (mfM s) (by kernel_rfl)) hi' ho) ?_
    generalize s.ms.l[i] = x at hc ⊢
    obtain ⟨xa, xb, xc⟩ := x
    refine Ev.split (decide (xa = id)) hMz (by kernel_rfl) (fun ha => ?_) (fun ha => ?_)
    · rw [if_pos (of_decide_eq_true ha)] at hc
      refine Ev.appW 24 (n := l.length) (n' := (l ++ [(T3.mk xa xb xc)]).length) (l := maL l) (l' := maL (l ++ [(T3.mk xa xb xc)])) (snoc_ma l (T3.mk xa xb xc)) hMz (by kernel_rfl) (by kernel_rfl) (by rw [List.length_append, List.length_singleton]; unfold maxLen; omega) (by rw [List.length_append, List.length_singleton]; omega) ?_
      refine Ev.reW 12 ((i + 1 : Nat) : Int) hMz (by kernel_rfl) (by omega) (by omega) ?_
      exact Ev.againS hI (i + 1, l ++ [(T3.mk xa xb xc)]) [3] [0] ⟨hi', hc.symm⟩ (by show s.ms.l.length - (i + 1) < s.ms.l.length - i; omega) (by kernel_rfl) (by kernel_rfl) hl
    · rw [if_neg (of_decide_eq_false ha), List.append_nil] at hc
      refine Ev.reW 12 ((i + 1 : Nat) : Int) hMz (by kernel_rfl) (by omega) (by omega) ?_
      exact Ev.againS hI (i + 1, l) [0] [0] ⟨hi', hc.symm⟩ (by show s.ms.l.length - (i + 1) < s.ms.l.length - i; omega) (by kernel_rfl) (by kernel_rfl) hl
  · have hs := of_decide_eq_false hs
    have hi' : i = s.ms.l.length := by omega
    have he : trL id s.ms.l = l := by rw [hn, hi', List.take_length]
    exact Ev.retE () [0] [] (o' := [.row tyMark 3 l.length (maL l)]) (r' := .row 0 l.length) ⟨by show [Bx.row tyMark 3 (trL id s.ms.l).length (maL (trL id s.ms.l))] = _; rw [he], by show SV.row 0 (trL id s.ms.l).length = _; rw [he], rfl⟩ (by kernel_rfl) hl trivial
end Go.Proofs.Ytkjpbjgepnbibaa
