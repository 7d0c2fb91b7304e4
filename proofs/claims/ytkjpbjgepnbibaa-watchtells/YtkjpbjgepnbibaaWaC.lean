/- What an ask holds. -/
import Derived.Test.YtkjpbjgepnbibaaWaB
namespace Go.Proofs.Ytkjpbjgepnbibaa
open Go.RowKit
open Ev (SV vi Bx Sg Kg)
set_option maxRecDepth 100000

def c4 (n : Nat × Nat × Nat × Nat) : List SV := [vi (n.1 : Int), vi (n.2.1 : Int), vi (n.2.2.1 : Int), vi (n.2.2.2 : Int)]
def h4 (id : Int) (l : List T3) : Nat × Nat × Nat × Nat := (cntH id 0 l, cntH id 1 l, cntH id 2 l, cntH id 3 l)
def v4 (n : Nat × Nat × Nat × Nat) : List Value := [.int .i64 (n.1 : Int), .int .i64 (n.2.1 : Int), .int .i64 (n.2.2.1 : Int), .int .i64 (n.2.2.2 : Int)]
structure In4 (n : Nat × Nat × Nat × Nat) (m : Nat) : Prop where
  a : n.1 ≤ m
  b : n.2.1 ≤ m
  c : n.2.2.1 ≤ m
  d : n.2.2.2 ≤ m
theorem h4_le (id : Int) (l : List T3) : In4 (h4 id l) l.length := ⟨cntH_le _ _ _, cntH_le _ _ _, cntH_le _ _ _, cntH_le _ _ _⟩
theorem h4_take {l : List T3} {i : Nat} (hi : i < l.length) (id : Int) : h4 id (l.take (i + 1)) = (cntH id 0 (l.take i) + (if l[i].a = id ∧ l[i].b = 0 then 1 else 0), cntH id 1 (l.take i) + (if l[i].a = id ∧ l[i].b = 1 then 1 else 0), cntH id 2 (l.take i) + (if l[i].a = id ∧ l[i].b = 2 then 1 else 0), cntH id 3 (l.take i) + (if l[i].a = id ∧ l[i].b = 3 then 1 else 0)) := by
  unfold h4
  rw [cntH_take hi, cntH_take hi, cntH_take hi, cntH_take hi]
theorem kinds {k : Int} (h0 : 0 ≤ k) (h3 : k ≤ 3) : k = 0 ∨ k = 1 ∨ k = 2 ∨ k = 3 := by omega
def kHeld : Kg (Srv × Int) Unit := ⟨6, fun x => [.agg (srL x.1).toArray, .int .i64 x.2], fun x => [mfH x.1], fun x => Fit x.1, fun x _ => .agg (v4 (h4 x.2 x.1.hs.l)).toArray, fun _ _ => [], fun _ _ => True⟩
def kHeldF (s : Srv) (id : Int) (y : Nat × Nat × Nat × Nat × Nat) : Ev.SS := ⟨[(1, vi id), (4, .ptr 0 0), (5, .ptr 1 0), (11, .val s.hs.v), (12, vi (s.hs.l.length : Int)), (13, vi (y.1 : Int))], [.cells [vi 0, vi 0, vi 0, vi 0], .cells (c4 y.2)], [mfH s]⟩
theorem kHeld_ok : Ev.Spec Try.prog kHeld.sg := by
  refine Ev.spec 33 hMz Try.func6 (by kernel_rfl) fun ⟨s, id⟩ hx bs w hl => ?_
  have hx : Fit s := hx
  have hh := hx.h
  refine Ev.loopS (fun y => y.1 ≤ s.hs.l.length ∧ y.2 = h4 id (s.hs.l.take y.1)) (fun y => s.hs.l.length - y.1) (kHeldF s id) (0, 0, 0, 0, 0) [1, 2] [0] hMz ⟨Nat.zero_le _, rfl⟩ (by kernel_rfl) hl fun ⟨i, n0, n1, n2, n3⟩ hi I hI => ?_
  obtain ⟨hi, hn⟩ : i ≤ s.hs.l.length ∧ (n0, n1, n2, n3) = h4 id (s.hs.l.take i) := hi
  have hle := h4_le id (s.hs.l.take i)
  rw [← hn, List.length_take] at hle
  obtain ⟨g0, g1, g2, g3⟩ := hle
  have g0 : n0 ≤ min i s.hs.l.length := g0
  have g1 : n1 ≤ min i s.hs.l.length := g1
  have g2 : n2 ≤ min i s.hs.l.length := g2
  have g3 : n3 ≤ min i s.hs.l.length := g3
  refine Ev.split (decide ((i : Int) < (s.hs.l.length : Int))) hMz (by kernel_rfl) (fun hs => ?_) (fun hs => ?_)
  · have hs := of_decide_eq_true hs
    have hi' : i < s.hs.l.length := by omega
    have hc := h4_take hi' id
    have hn := hn
    unfold h4 at hn
    simp only [Prod.mk.injEq] at hn
    obtain ⟨e0, e1, e2, e3⟩ := hn
    rw [← e0, ← e1, ← e2, ← e3] at hc
    refine Ev.learn (p := ∃ b off, s.hs.o = some ⟨b, off, none⟩) 0 (mfH s) (by kernel_rfl) (fun w h => rows_o h hi') fun ⟨b, off, ho⟩ => ?_
    refine Ev.idx (y := (i : Int)) (ao := s.hs.o) (m := s.hs.l.length) (m' := s.hs.l.length) (cc := s.hs.c) 15 i b off 3 hMz (by kernel_rfl) rfl ho rfl hi' ?_
    refine Ev.ldR (b := b) (off := off + i * 3) (k := 3) 16 s.hs.l[i].l hMz (by kernel_rfl) rfl (fun w F => rows_at (Ev.fct F 0 (mfH s) (by kernel_rfl)) hi' ho) ?_
    generalize s.hs.l[i] = x at hc ⊢
    obtain ⟨xa, xb, xc⟩ := x
    have again : ∀ n0' n1' n2' n3', (n0', n1', n2', n3') = h4 id (s.hs.l.take (i + 1)) → (i + 1 ≤ s.hs.l.length ∧ (n0', n1', n2', n3') = h4 id (s.hs.l.take (i + 1))) ∧ s.hs.l.length - (i + 1) < s.hs.l.length - i := fun n0' n1' n2' n3' h => ⟨⟨hi', h⟩, by omega⟩
    refine Ev.split (decide (xa = id)) hMz (by kernel_rfl) (fun ha => ?_) (fun ha => ?_)
    · have ha := of_decide_eq_true ha
      have out : ¬ (0 ≤ xb ∧ xb ≤ 3) → (n0, n1, n2, n3) = h4 id (s.hs.l.take (i + 1)) := fun h => by
        rw [hc, if_neg (fun e => h (by have : xb = 0 := e.2; omega)), if_neg (fun e => h (by have : xb = 1 := e.2; omega)), if_neg (fun e => h (by have : xb = 2 := e.2; omega)), if_neg (fun e => h (by have : xb = 3 := e.2; omega))]
        rfl
      refine Ev.callC kPlaced_ok ⟨xa, xb, xc⟩ [] [] hMz (by kernel_rfl) trivial fun _ _ => ?_
      refine Ev.split (decide (0 ≤ xb) && decide (xb ≤ 3)) hMz (by kernel_rfl) (fun hb => ?_) (fun hb => ?_)
      · obtain ⟨hb0, hb3⟩ := Bool.and_eq_true_iff.1 hb
        have hb0 := of_decide_eq_true hb0
        have hb3 := of_decide_eq_true hb3
        rcases kinds hb0 hb3 with rfl | rfl | rfl | rfl
        · have out : (n0 + 1, n1, n2, n3) = h4 id (s.hs.l.take (i + 1)) := by rw [hc, if_pos ⟨ha, rfl⟩, if_neg (fun e => absurd (show (0 : Int) = 1 from e.2) (by decide)), if_neg (fun e => absurd (show (0 : Int) = 2 from e.2) (by decide)), if_neg (fun e => absurd (show (0 : Int) = 3 from e.2) (by decide))]; rfl
          refine Ev.idxA (y := 0) 27 0 1 0 4 1 hMz (by kernel_rfl) rfl (by decide) ?_
          refine Ev.idxA (y := 0) 30 0 1 0 4 1 hMz (by kernel_rfl) rfl (by decide) ?_
          refine Ev.reBW 1 0 ((n0 + 1 : Nat) : Int) hMz (by kernel_rfl) (by omega) (by omega) ?_
          refine Ev.reW 13 ((i + 1 : Nat) : Int) hMz (by kernel_rfl) (by omega) (by omega) ?_
          exact Ev.againS hI (i + 1, n0 + 1, n1, n2, n3) [0, 1] [0] (again _ _ _ _ out).1 (again _ _ _ _ out).2 (by kernel_rfl) (by kernel_rfl) hl
        · have out : (n0, n1 + 1, n2, n3) = h4 id (s.hs.l.take (i + 1)) := by rw [hc, if_neg (fun e => absurd (show (1 : Int) = 0 from e.2) (by decide)), if_pos ⟨ha, rfl⟩, if_neg (fun e => absurd (show (1 : Int) = 2 from e.2) (by decide)), if_neg (fun e => absurd (show (1 : Int) = 3 from e.2) (by decide))]; rfl
          refine Ev.idxA (y := 1) 27 1 1 0 4 1 hMz (by kernel_rfl) rfl (by decide) ?_
          refine Ev.idxA (y := 1) 30 1 1 0 4 1 hMz (by kernel_rfl) rfl (by decide) ?_
          refine Ev.reBW 1 1 ((n1 + 1 : Nat) : Int) hMz (by kernel_rfl) (by omega) (by omega) ?_
          refine Ev.reW 13 ((i + 1 : Nat) : Int) hMz (by kernel_rfl) (by omega) (by omega) ?_
          exact Ev.againS hI (i + 1, n0, n1 + 1, n2, n3) [0, 1] [0] (again _ _ _ _ out).1 (again _ _ _ _ out).2 (by kernel_rfl) (by kernel_rfl) hl
        · have out : (n0, n1, n2 + 1, n3) = h4 id (s.hs.l.take (i + 1)) := by rw [hc, if_neg (fun e => absurd (show (2 : Int) = 0 from e.2) (by decide)), if_neg (fun e => absurd (show (2 : Int) = 1 from e.2) (by decide)), if_pos ⟨ha, rfl⟩, if_neg (fun e => absurd (show (2 : Int) = 3 from e.2) (by decide))]; rfl
          refine Ev.idxA (y := 2) 27 2 1 0 4 1 hMz (by kernel_rfl) rfl (by decide) ?_
          refine Ev.idxA (y := 2) 30 2 1 0 4 1 hMz (by kernel_rfl) rfl (by decide) ?_
          refine Ev.reBW 1 2 ((n2 + 1 : Nat) : Int) hMz (by kernel_rfl) (by omega) (by omega) ?_
          refine Ev.reW 13 ((i + 1 : Nat) : Int) hMz (by kernel_rfl) (by omega) (by omega) ?_
          exact Ev.againS hI (i + 1, n0, n1, n2 + 1, n3) [0, 1] [0] (again _ _ _ _ out).1 (again _ _ _ _ out).2 (by kernel_rfl) (by kernel_rfl) hl
        · have out : (n0, n1, n2, n3 + 1) = h4 id (s.hs.l.take (i + 1)) := by rw [hc, if_neg (fun e => absurd (show (3 : Int) = 0 from e.2) (by decide)), if_neg (fun e => absurd (show (3 : Int) = 1 from e.2) (by decide)), if_neg (fun e => absurd (show (3 : Int) = 2 from e.2) (by decide)), if_pos ⟨ha, rfl⟩]; rfl
          refine Ev.idxA (y := 3) 27 3 1 0 4 1 hMz (by kernel_rfl) rfl (by decide) ?_
          refine Ev.idxA (y := 3) 30 3 1 0 4 1 hMz (by kernel_rfl) rfl (by decide) ?_
          refine Ev.reBW 1 3 ((n3 + 1 : Nat) : Int) hMz (by kernel_rfl) (by omega) (by omega) ?_
          refine Ev.reW 13 ((i + 1 : Nat) : Int) hMz (by kernel_rfl) (by omega) (by omega) ?_
          exact Ev.againS hI (i + 1, n0, n1, n2, n3 + 1) [0, 1] [0] (again _ _ _ _ out).1 (again _ _ _ _ out).2 (by kernel_rfl) (by kernel_rfl) hl
      · refine Ev.reW 13 ((i + 1 : Nat) : Int) hMz (by kernel_rfl) (by omega) (by omega) ?_
        exact Ev.againS hI (i + 1, n0, n1, n2, n3) [0, 1] [0] (again n0 n1 n2 n3 (out fun h => by simp [h.1, h.2] at hb)).1 (again n0 n1 n2 n3 (out fun h => by simp [h.1, h.2] at hb)).2 (by kernel_rfl) (by kernel_rfl) hl
    · refine Ev.reW 13 ((i + 1 : Nat) : Int) hMz (by kernel_rfl) (by omega) (by omega) ?_
      have ha := of_decide_eq_false ha
      have out : (n0, n1, n2, n3) = h4 id (s.hs.l.take (i + 1)) := by
        rw [hc, if_neg (fun e => ha e.1), if_neg (fun e => ha e.1), if_neg (fun e => ha e.1), if_neg (fun e => ha e.1)]
        rfl
      exact Ev.againS hI (i + 1, n0, n1, n2, n3) [0, 1] [0] (again _ _ _ _ out).1 (again _ _ _ _ out).2 (by kernel_rfl) (by kernel_rfl) hl
  · have hs := of_decide_eq_false hs
    have hi' : i = s.hs.l.length := by omega
    have he : h4 id s.hs.l = (n0, n1, n2, n3) := by rw [hn, hi', List.take_length]
    exact Ev.retE () [] [] (r' := .val (.agg (v4 (n0, n1, n2, n3)).toArray)) ⟨rfl, congrArg (fun n => SV.val (.agg (v4 n).toArray)) he, rfl⟩ (by kernel_rfl) hl trivial
def kHeldR : Kg (Srv × Int) Unit := ⟨7, fun x => [.agg (srL x.1).toArray, .int .i64 x.2], fun x => [mfH x.1], fun x => Fit x.1, fun x _ => .agg (v4 (h4 x.2 x.1.hs.l)).toArray, fun _ _ => [], fun _ _ => True⟩
def kHeldRF (s : Srv) (id : Int) (y : Nat × Nat × Nat × Nat × Nat) : Ev.SS := ⟨[(1, vi id), (4, .ptr 0 0), (5, .ptr 1 0), (12, .val s.hs.v), (13, vi (s.hs.l.length : Int)), (14, vi (y.1 : Int))], [.cells [vi 0, vi 0, vi 0, vi 0], .cells (c4 y.2)], [mfH s]⟩
theorem kHeldR_ok : Ev.Spec Try.prog kHeldR.sg := by
  refine Ev.spec 40 hMz Try.func7 (by kernel_rfl) fun ⟨s, id⟩ hx bs w hl => ?_
  have hx : Fit s := hx
  have hh := hx.h
  refine Ev.bld0 8 [.int .i64 0, .int .i64 0, .int .i64 0, .int .i64 0] hMz (by kernel_rfl) ?_
  refine Ev.loopS (fun y => y.1 ≤ s.hs.l.length ∧ y.2 = h4 id (s.hs.l.take y.1)) (fun y => s.hs.l.length - y.1) (kHeldRF s id) (0, 0, 0, 0, 0) [1, 2] [0] hMz ⟨Nat.zero_le _, rfl⟩ (by kernel_rfl) hl fun ⟨i, n0, n1, n2, n3⟩ hi I hI => ?_
  obtain ⟨hi, hn⟩ : i ≤ s.hs.l.length ∧ (n0, n1, n2, n3) = h4 id (s.hs.l.take i) := hi
  have hle := h4_le id (s.hs.l.take i)
  rw [← hn, List.length_take] at hle
  obtain ⟨g0, g1, g2, g3⟩ := hle
  have g0 : n0 ≤ min i s.hs.l.length := g0
  have g1 : n1 ≤ min i s.hs.l.length := g1
  have g2 : n2 ≤ min i s.hs.l.length := g2
  have g3 : n3 ≤ min i s.hs.l.length := g3
  refine Ev.split (decide ((i : Int) < (s.hs.l.length : Int))) hMz (by kernel_rfl) (fun hs => ?_) (fun hs => ?_)
  · have hs := of_decide_eq_true hs
    have hi' : i < s.hs.l.length := by omega
    have hc := h4_take hi' id
    have hn := hn
    unfold h4 at hn
    simp only [Prod.mk.injEq] at hn
    obtain ⟨e0, e1, e2, e3⟩ := hn
    rw [← e0, ← e1, ← e2, ← e3] at hc
    refine Ev.learn (p := ∃ b off, s.hs.o = some ⟨b, off, none⟩) 0 (mfH s) (by kernel_rfl) (fun w h => rows_o h hi') fun ⟨b, off, ho⟩ => ?_
    refine Ev.idx (y := (i : Int)) (ao := s.hs.o) (m := s.hs.l.length) (m' := s.hs.l.length) (cc := s.hs.c) 16 i b off 3 hMz (by kernel_rfl) rfl ho rfl hi' ?_
    refine Ev.ldR (b := b) (off := off + i * 3) (k := 3) 17 s.hs.l[i].l hMz (by kernel_rfl) rfl (fun w F => rows_at (Ev.fct F 0 (mfH s) (by kernel_rfl)) hi' ho) ?_
    generalize s.hs.l[i] = x at hc ⊢
    obtain ⟨xa, xb, xc⟩ := x
    have again : ∀ n0' n1' n2' n3', (n0', n1', n2', n3') = h4 id (s.hs.l.take (i + 1)) → (i + 1 ≤ s.hs.l.length ∧ (n0', n1', n2', n3') = h4 id (s.hs.l.take (i + 1))) ∧ s.hs.l.length - (i + 1) < s.hs.l.length - i := fun n0' n1' n2' n3' h => ⟨⟨hi', h⟩, by omega⟩
    refine Ev.split (decide (xa = id)) hMz (by kernel_rfl) (fun ha => ?_) (fun ha => ?_)
    · have ha := of_decide_eq_true ha
      have out : ¬ (0 ≤ xb ∧ xb ≤ 3) → (n0, n1, n2, n3) = h4 id (s.hs.l.take (i + 1)) := fun h => by
        rw [hc, if_neg (fun e => h (by have : xb = 0 := e.2; omega)), if_neg (fun e => h (by have : xb = 1 := e.2; omega)), if_neg (fun e => h (by have : xb = 2 := e.2; omega)), if_neg (fun e => h (by have : xb = 3 := e.2; omega))]
        rfl
      refine Ev.split (decide (0 ≤ xb)) hMz (by kernel_rfl) (fun hb0 => ?_) (fun hb0 => ?_)
      · have hb0 := of_decide_eq_true hb0
        refine Ev.split (decide (xb < 4)) hMz (by kernel_rfl) (fun hb3 => ?_) (fun hb3 => ?_)
        · have hb3 : xb ≤ 3 := by have := of_decide_eq_true hb3; omega
          rcases kinds hb0 hb3 with rfl | rfl | rfl | rfl
          · have out : (n0 + 1, n1, n2, n3) = h4 id (s.hs.l.take (i + 1)) := by rw [hc, if_pos ⟨ha, rfl⟩, if_neg (fun e => absurd (show (0 : Int) = 1 from e.2) (by decide)), if_neg (fun e => absurd (show (0 : Int) = 2 from e.2) (by decide)), if_neg (fun e => absurd (show (0 : Int) = 3 from e.2) (by decide))]; rfl
            refine Ev.idxA (y := 0) 34 0 1 0 4 1 hMz (by kernel_rfl) rfl (by decide) ?_
            refine Ev.idxA (y := 0) 37 0 1 0 4 1 hMz (by kernel_rfl) rfl (by decide) ?_
            refine Ev.reBW 1 0 ((n0 + 1 : Nat) : Int) hMz (by kernel_rfl) (by omega) (by omega) ?_
            refine Ev.reW 14 ((i + 1 : Nat) : Int) hMz (by kernel_rfl) (by omega) (by omega) ?_
            exact Ev.againS hI (i + 1, n0 + 1, n1, n2, n3) [0, 1] [0] (again _ _ _ _ out).1 (again _ _ _ _ out).2 (by kernel_rfl) (by kernel_rfl) hl
          · have out : (n0, n1 + 1, n2, n3) = h4 id (s.hs.l.take (i + 1)) := by rw [hc, if_neg (fun e => absurd (show (1 : Int) = 0 from e.2) (by decide)), if_pos ⟨ha, rfl⟩, if_neg (fun e => absurd (show (1 : Int) = 2 from e.2) (by decide)), if_neg (fun e => absurd (show (1 : Int) = 3 from e.2) (by decide))]; rfl
            refine Ev.idxA (y := 1) 34 1 1 0 4 1 hMz (by kernel_rfl) rfl (by decide) ?_
            refine Ev.idxA (y := 1) 37 1 1 0 4 1 hMz (by kernel_rfl) rfl (by decide) ?_
            refine Ev.reBW 1 1 ((n1 + 1 : Nat) : Int) hMz (by kernel_rfl) (by omega) (by omega) ?_
            refine Ev.reW 14 ((i + 1 : Nat) : Int) hMz (by kernel_rfl) (by omega) (by omega) ?_
            exact Ev.againS hI (i + 1, n0, n1 + 1, n2, n3) [0, 1] [0] (again _ _ _ _ out).1 (again _ _ _ _ out).2 (by kernel_rfl) (by kernel_rfl) hl
          · have out : (n0, n1, n2 + 1, n3) = h4 id (s.hs.l.take (i + 1)) := by rw [hc, if_neg (fun e => absurd (show (2 : Int) = 0 from e.2) (by decide)), if_neg (fun e => absurd (show (2 : Int) = 1 from e.2) (by decide)), if_pos ⟨ha, rfl⟩, if_neg (fun e => absurd (show (2 : Int) = 3 from e.2) (by decide))]; rfl
            refine Ev.idxA (y := 2) 34 2 1 0 4 1 hMz (by kernel_rfl) rfl (by decide) ?_
            refine Ev.idxA (y := 2) 37 2 1 0 4 1 hMz (by kernel_rfl) rfl (by decide) ?_
            refine Ev.reBW 1 2 ((n2 + 1 : Nat) : Int) hMz (by kernel_rfl) (by omega) (by omega) ?_
            refine Ev.reW 14 ((i + 1 : Nat) : Int) hMz (by kernel_rfl) (by omega) (by omega) ?_
            exact Ev.againS hI (i + 1, n0, n1, n2 + 1, n3) [0, 1] [0] (again _ _ _ _ out).1 (again _ _ _ _ out).2 (by kernel_rfl) (by kernel_rfl) hl
          · have out : (n0, n1, n2, n3 + 1) = h4 id (s.hs.l.take (i + 1)) := by rw [hc, if_neg (fun e => absurd (show (3 : Int) = 0 from e.2) (by decide)), if_neg (fun e => absurd (show (3 : Int) = 1 from e.2) (by decide)), if_neg (fun e => absurd (show (3 : Int) = 2 from e.2) (by decide)), if_pos ⟨ha, rfl⟩]; rfl
            refine Ev.idxA (y := 3) 34 3 1 0 4 1 hMz (by kernel_rfl) rfl (by decide) ?_
            refine Ev.idxA (y := 3) 37 3 1 0 4 1 hMz (by kernel_rfl) rfl (by decide) ?_
            refine Ev.reBW 1 3 ((n3 + 1 : Nat) : Int) hMz (by kernel_rfl) (by omega) (by omega) ?_
            refine Ev.reW 14 ((i + 1 : Nat) : Int) hMz (by kernel_rfl) (by omega) (by omega) ?_
            exact Ev.againS hI (i + 1, n0, n1, n2, n3 + 1) [0, 1] [0] (again _ _ _ _ out).1 (again _ _ _ _ out).2 (by kernel_rfl) (by kernel_rfl) hl
        · refine Ev.reW 14 ((i + 1 : Nat) : Int) hMz (by kernel_rfl) (by omega) (by omega) ?_
          have hb3 := of_decide_eq_false hb3
          exact Ev.againS hI (i + 1, n0, n1, n2, n3) [0, 1] [0] (again n0 n1 n2 n3 (out fun h => by omega)).1 (again n0 n1 n2 n3 (out fun h => by omega)).2 (by kernel_rfl) (by kernel_rfl) hl
      · refine Ev.reW 14 ((i + 1 : Nat) : Int) hMz (by kernel_rfl) (by omega) (by omega) ?_
        have hb0 := of_decide_eq_false hb0
        exact Ev.againS hI (i + 1, n0, n1, n2, n3) [0, 1] [0] (again n0 n1 n2 n3 (out fun h => by omega)).1 (again n0 n1 n2 n3 (out fun h => by omega)).2 (by kernel_rfl) (by kernel_rfl) hl
    · refine Ev.reW 14 ((i + 1 : Nat) : Int) hMz (by kernel_rfl) (by omega) (by omega) ?_
      have ha := of_decide_eq_false ha
      have out : (n0, n1, n2, n3) = h4 id (s.hs.l.take (i + 1)) := by
        rw [hc, if_neg (fun e => ha e.1), if_neg (fun e => ha e.1), if_neg (fun e => ha e.1), if_neg (fun e => ha e.1)]
        rfl
      exact Ev.againS hI (i + 1, n0, n1, n2, n3) [0, 1] [0] (again _ _ _ _ out).1 (again _ _ _ _ out).2 (by kernel_rfl) (by kernel_rfl) hl
  · have hs := of_decide_eq_false hs
    have hi' : i = s.hs.l.length := by omega
    have he : h4 id s.hs.l = (n0, n1, n2, n3) := by rw [hn, hi', List.take_length]
    exact Ev.retE () [] [] (r' := .val (.agg (v4 (n0, n1, n2, n3)).toArray)) ⟨rfl, congrArg (fun n => SV.val (.agg (v4 n).toArray)) he, rfl⟩ (by kernel_rfl) hl trivial
end Go.Proofs.Ytkjpbjgepnbibaa
